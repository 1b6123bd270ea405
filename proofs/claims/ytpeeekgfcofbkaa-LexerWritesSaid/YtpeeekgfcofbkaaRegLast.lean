/-
  A REGION THAT DRAWS ITS ORDER AND ENDS IN AN OPERATION THAT WAITS FOR ALL OTHERS (the store of an assignment): the others in whatever order, then that one. So the cell that is stored into may be loaded first, too.
-/
import Derived.Test.YtpeeekgfcofbkaaBase
import Derived.Deep.RegionHeld3
namespace Go.Proofs.Ytpeeekgfcofbkaa
open Go.RowKit

section
variable {P : Program} {Q : Exit → Act → World → Prop} {md : Region.Mode} {pre : Array Oper} {o : Oper}

/-- behind all others: the last operation, then Q -/
def LastQ (P : Program) (pre : Array Oper) (o : Oper) (Q : Exit → Act → World → Prop) : Exit → Act → World → Prop
  | .normal, a, w => wpOp P (pre.push o) Q pre.size (fun a w => Q .normal a w) a w
  | e, a, w => Q e a w
theorem wp_lastQ {x : Oper} {a : Act} {w : World} {K K' : Act → World → Prop} (hK : ∀ a w, K a w → K' a w) (h : x.wp P a w K (LastQ P pre o Q)) : x.wp P a w K' Q := by
  have h2 := Oper.wp_mono hK h
  unfold Oper.wp at *
  generalize (execOp a.eval x).run P w = r at *
  cases r with
  | ok n w' =>
    cases n with
    | enter f args => exact Calls.mono h2 (fun e w'' he => by cases e <;> exact he)
    | _ => exact h2
  | halt x w' => cases x <;> exact h2
theorem wpOp_lastQ {i : Nat} {x : Oper} {a : Act} {w : World} {K K' : Act → World → Prop} (hi : pre[i]? = some x) (hg : x.guard = none) (hK : ∀ a w, K a w → K' a w) (h : wpOp P pre (LastQ P pre o Q) i K a w) : wpOp P (pre.push o) Q i K' a w := by
  have hlt := (Array.getElem?_eq_some_iff.1 hi).1
  have hi2 : (pre.push o)[i]? = some x := by rw [Array.getElem?_push_lt hlt, ← hi, Array.getElem?_eq_getElem hlt]
  unfold wpOp at *
  have hw : ∀ f, Region.wanted x f = true := fun f => by simp [Region.wanted, hg]
  simp only [hi, hw, if_true] at h
  simp only [hi2, hw, if_true]
  exact h.imp (wp_lastQ hK) (fun ⟨h1, h2⟩ => ⟨h1, h2⟩)

/-- what is asked of such a region -/
def lastFits (md : Region.Mode) (pre : Array Oper) (o : Oper) : Bool :=
  (List.range pre.size).all (fun j => o.after.any fun e => Region.binds md e && e.on == j) && o.after.all (fun e => decide (e.on < pre.size)) &&
  (List.range pre.size).all (fun i => match pre[i]? with | some x => x.guard.isNone && x.after.all (fun e => decide (e.on < i)) | none => true)
theorem lastFits_spec (h : lastFits md pre o = true) : (∀ j, j < pre.size → ∃ e ∈ o.after, Region.binds md e = true ∧ e.on = j) ∧ (∀ e ∈ o.after, e.on < pre.size) ∧ ∀ (i : Nat) (x : Oper), pre[i]? = some x → x.guard = none ∧ ∀ e ∈ x.after, e.on < i := by
  unfold lastFits at h
  rw [Bool.and_eq_true, Bool.and_eq_true] at h
  obtain ⟨⟨h1, h2⟩, h3⟩ := h
  refine ⟨fun j hj => ?_, fun e he => ?_, fun i x hx => ?_⟩
  · have := List.all_eq_true.1 h1 j (List.mem_range.2 hj)
    rw [Array.any_eq_true'] at this
    obtain ⟨e, he, h⟩ := this
    simp only [Bool.and_eq_true, beq_iff_eq] at h
    exact ⟨e, he, h⟩
  · have := Array.all_eq_true_iff_forall_mem.1 h2 e he
    simpa using this
  · have hlt := (Array.getElem?_eq_some_iff.1 hx).1
    have := List.all_eq_true.1 h3 i (List.mem_range.2 hlt)
    simp only [hx, Bool.and_eq_true, Option.isNone_iff_eq_none] at this
    refine ⟨this.1, fun e he => ?_⟩
    have := Array.all_eq_true_iff_forall_mem.1 this.2 e he
    simpa using this
theorem getD_push (l : Array Bool) (b d : Bool) (i : Nat) (hi : i < l.size) : (l.push b).getD i d = l.getD i d := by
  simp [hi, Array.getElem_push_lt, Nat.lt_succ_of_lt hi]
theorem getD_pushF (l : Array Bool) (i : Nat) : (l.push false).getD i false = l.getD i false := by
  rcases Nat.lt_trichotomy i l.size with h | h | h
  · exact getD_push l false false i h
  · subst h; simp
  · simp [Array.getElem?_eq_none (show l.size ≤ i by omega), Array.getElem?_eq_none (show (l.push false).size ≤ i by simp; omega)]
/-- some are left: then one may come up -/
theorem ready_some (hdag : ∀ (i : Nat) (x : Oper), pre[i]? = some x → ∀ e ∈ x.after, e.on < i) (l : Array Bool) : ∀ n, n ≤ pre.size → (∃ j, j < n ∧ l.getD j true = false) → ∃ i, i ∈ Region.ready md pre l := by
  intro n
  induction n with
  | zero => rintro _ ⟨j, hj, _⟩; omega
  | succ n ih =>
    intro hn ⟨j, hj, hu⟩
    by_cases hex : ∃ k, k < n ∧ l.getD k true = false
    · exact ih (by omega) hex
    · have hjn : j = n := by
        rcases Nat.lt_or_ge j n with h | h
        · exact absurd ⟨j, h, hu⟩ hex
        · omega
      subst hjn
      refine ⟨j, mem_ready.2 ⟨hu, pre[j], Array.getElem?_eq_getElem (by omega), fun e he _ => ?_⟩⟩
      have hlt := hdag j _ (Array.getElem?_eq_getElem (by omega)) e he
      have hno : ¬ l.getD e.on true = false := fun h => hex ⟨e.on, hlt, h⟩
      cases hb : l[e.on]? with
      | none =>
        exfalso
        have h1 : l.size ≤ e.on := by simpa using hb
        have h2 : l.size ≤ j := by omega
        simp [Array.getElem?_eq_none h2] at hu
      | some b =>
        simp only [Array.getD_eq_getD_getElem?, hb, Option.getD_some] at hno ⊢
        simpa using hno
theorem wpAny_last (hf : lastFits md pre o = true) : ∀ (fuel : Nat) (l : Array Bool) (a : Act) (w : World), l.size = pre.size → wpAny P md pre (LastQ P pre o Q) fuel l a w → wpAny P md (pre.push o) Q (fuel + 1) (l.push false) a w := by
  obtain ⟨hwait, hon, hpre⟩ := lastFits_spec hf
  have hlast : ∀ (l : Array Bool), l.size = pre.size → pre.size ∈ Region.ready md (pre.push o) (l.push false) → ∀ j, j < pre.size → l.getD j false = true := fun l hl h j hj => by
    obtain ⟨_, x, hx, hall⟩ := mem_ready.1 h
    obtain rfl : o = x := by simpa using hx
    obtain ⟨e, he, hb, rfl⟩ := hwait j hj
    rw [← getD_pushF]
    exact hall e he hb
  have hfst : ∀ (l : Array Bool) (i : Nat), l.size = pre.size → i < pre.size → i ∈ Region.ready md (pre.push o) (l.push false) → i ∈ Region.ready md pre l := fun l i hl hi h => by
    obtain ⟨h1, x, hx, hall⟩ := mem_ready.1 h
    rw [getD_push l false true i (by omega)] at h1
    rw [Array.getElem?_push_lt hi] at hx
    exact mem_ready.2 ⟨h1, x, by rw [Array.getElem?_eq_getElem hi]; exact hx, fun e he hb => by rw [← getD_pushF]; exact hall e he hb⟩
  have hall9 : ∀ (l : Array Bool), l.size = pre.size → (∀ j, j < pre.size → l.getD j false = true) → Region.ready md (pre.push o) (l.push true) = [] := fun l hl h => by
    refine List.eq_nil_iff_forall_not_mem.2 fun i hi => ?_
    obtain ⟨h1, x, hx, _⟩ := mem_ready.1 hi
    have hlt := (Array.getElem?_eq_some_iff.1 hx).1
    rw [Array.size_push] at hlt
    by_cases hi2 : i < pre.size
    · have := h i hi2
      rw [getD_push l true true i (by omega)] at h1
      have hb : i < l.size := by omega
      simp [hb] at this h1
      rw [this] at h1
      cases h1
    · have : i = l.size := by omega
      subst this
      simp at h1
  have hne : ∀ (l : Array Bool), l.size = pre.size → Region.ready md pre l = [] → ∀ j, j < pre.size → l.getD j false = true := fun l hl h j hj => by
    cases hb : l.getD j false with
    | true => rfl
    | false =>
      obtain ⟨i, hi⟩ := ready_some (md := md) (fun i x hx => (hpre i x hx).2) l pre.size (Nat.le_refl _) ⟨j, hj, by
        have hj2 : j < l.size := by omega
        simp [hj2] at hb ⊢
        exact hb⟩
      rw [h] at hi
      cases hi
  have hset : ∀ (l : Array Bool) (i : Nat), i < l.size → (l.push false).setIfInBounds i true = (l.setIfInBounds i true).push false := fun l i hi => by
    obtain ⟨l⟩ := l
    have hi2 : i < l.length := hi
    simp only [List.push_toArray, List.setIfInBounds_toArray, List.set_append_left _ _ hi2]
  have hend : ∀ (l : Array Bool) (a : Act) (w : World) (K : Act → World → Prop), l.size = pre.size → (∀ a w, Q .normal a w → K a w) → LastQ P pre o Q .normal a w → wpOp P (pre.push o) Q pre.size K a w := fun l a w K hl hK h => wpOp_mono hK h
  have hset2 : ∀ (l : Array Bool), l.size = pre.size → (l.push false).setIfInBounds pre.size true = l.push true := fun l hl => by
    rw [← hl]
    obtain ⟨l⟩ := l
    simp [List.push_toArray, List.setIfInBounds_toArray]
  have hmem : ∀ (l : Array Bool), l.size = pre.size → (∀ j, j < pre.size → l.getD j false = true) → pre.size ∈ Region.ready md (pre.push o) (l.push false) := fun l hl h =>
    mem_ready.2 ⟨by rw [← hl]; simp, o, by simp, fun e he _ => by rw [getD_pushF]; exact h e.on (hon e he)⟩
  intro fuel
  induction fuel with
  | zero =>
    intro l a w hl h
    have hA := hne l hl h.1
    refine ⟨fun h0 => absurd (hmem l hl hA) (by rw [h0]; exact List.not_mem_nil), fun i hi => ?_⟩
    have hilt : i < pre.size + 1 := by
      obtain ⟨_, x, hx, _⟩ := mem_ready.1 hi
      simpa using (Array.getElem?_eq_some_iff.1 hx).1
    rcases Nat.lt_or_ge i pre.size with h1 | h1
    · have := hfst l i hl h1 hi
      rw [h.1] at this
      cases this
    · obtain rfl : i = pre.size := by omega
      refine hend l a w _ hl (fun a w hq => ?_) h.2
      rw [hset2 l hl]
      exact ⟨hall9 l hl hA, hq⟩
  | succ fuel ih =>
    intro l a w hl h
    refine ⟨fun h0 => ?_, fun i hi => ?_⟩
    · exfalso
      cases hr : Region.ready md pre l with
      | nil =>
        have := hmem l hl (hne l hl hr)
        rw [h0] at this
        cases this
      | cons i r =>
        have hi : i ∈ Region.ready md pre l := by rw [hr]; exact List.mem_cons_self
        obtain ⟨h1, x, hx, hall⟩ := mem_ready.1 hi
        have hlt := (Array.getElem?_eq_some_iff.1 hx).1
        have : i ∈ Region.ready md (pre.push o) (l.push false) := mem_ready.2 ⟨by rw [getD_push l false true i (by omega)]; exact h1, x, by rw [Array.getElem?_push_lt hlt, ← hx, Array.getElem?_eq_getElem hlt], fun e he hb => by rw [getD_pushF]; exact hall e he hb⟩
        rw [h0] at this
        cases this
    · have hilt : i < pre.size + 1 := by
        obtain ⟨_, x, hx, _⟩ := mem_ready.1 hi
        simpa using (Array.getElem?_eq_some_iff.1 hx).1
      rcases Nat.lt_or_ge i pre.size with h1 | h1
      · have hr := hfst l i hl h1 hi
        refine wpOp_lastQ (Array.getElem?_eq_getElem h1) (hpre i _ (Array.getElem?_eq_getElem h1)).1 (fun a w hK => ?_) (h.2 i hr)
        rw [hset l i (by omega)]
        exact ih _ a w (by simpa using hl) hK
      · obtain rfl : i = pre.size := by omega
        have hA := hlast l hl hi
        have hr : Region.ready md pre l = [] := List.eq_nil_iff_forall_not_mem.2 fun i hi => by
          obtain ⟨h1, x, hx, _⟩ := mem_ready.1 hi
          have hlt := (Array.getElem?_eq_some_iff.1 hx).1
          have h2 := hA i hlt
          have hb : i < l.size := by omega
          simp [hb] at h1 h2
          rw [h2] at h1
          cases h1
        refine hend l a w _ hl (fun a w hq => ?_) (h.1 hr)
        rw [hset2 l hl]
        exact ⟨fun _ => hq, by rw [hall9 l hl hA]; simp⟩

/-- the region whose last operation waits for all others -/
theorem region_last (S : World → Prop) {id : Nat} {ops : Array Oper} {a : Act} {w : World} (hm : P.follows .mixedOrders = true) (hops : ops = pre.push o) (hf : lastFits .any pre o = true)
    (h : wpAnyH P .any pre (LastQ P pre o Q) S pre.size (Array.replicate pre.size false) a w.drew) : (Code.region id ops true).wp P Q a w := by
  subst hops
  refine wp_region_any hm ?_
  have h2 := wpAny_last hf _ _ _ _ (by simp) (wpAny_of_held _ _ _ _ h)
  have e1 : (pre.push o).size = pre.size + 1 := by simp
  have e2 : Array.replicate (pre.size + 1) false = (Array.replicate pre.size false).push false := by simp [Array.replicate_succ]
  rw [e1, e2]
  exact h2
theorem region_lastp (S : World → Prop) {id : Nat} {ops : Array Oper} {a : Act} {w : World} (hm : P.follows .mixedOrders = true) (hb : ops.back? = some o) (hf : lastFits .any ops.pop o = true)
    (h : wpAnyH P .any ops.pop (LastQ P ops.pop o Q) S ops.pop.size (Array.replicate ops.pop.size false) a w.drew) : (Code.region id ops true).wp P Q a w :=
  region_last S hm (by
    have hne : ops.size ≠ 0 := fun h0 => by simp [Array.back?, h0] at hb
    have h2 : ops.back? = some (ops[ops.size - 1]'(by omega)) := by simp [Array.back?, show ops.size - 1 < ops.size by omega]
    rw [h2] at hb
    injection hb with hb
    rw [← hb]
    refine Array.ext (by simp; omega) (fun i h1 h2 => ?_)
    rw [Array.getElem_push]
    split
    · simp
    · rename_i h3
      simp at h3
      congr 1
      omega) hf h
/-- the last operation -/
theorem lastQ_of {a : Act} {w : World} (hg : o.guard = none) (h : ∀ K : Act → World → Prop, Shut (∀ a w, Q .normal a w → K a w) → o.wp P a w K Q) : LastQ P pre o Q .normal a w := by
  show wpOp P (pre.push o) Q pre.size (fun a w => Q .normal a w) a w
  unfold wpOp
  simp only [Array.getElem?_push_size, Region.wanted, hg, if_true]
  exact .inl (h _ (fun _ _ h => h))
theorem at_drop {ops : Array Oper} {i : Nat} {oi : Oper} {rest : List Oper} (hi : ops.toList.drop i = oi :: rest) : ops[i]? = some oi := by
  have h : (ops.toList.drop i)[0]? = some oi := by rw [hi]; rfl
  rw [List.getElem?_drop, Nat.add_zero, Array.getElem?_toList] at h
  exact h
/-- an operation that yields is taken first; it is read off the list, written out -/
theorem wpAnyH_takeL {S : World → Prop} {ops : Array Oper} {i : Nat} {oi : Oper} {rest : List Oper} {v : Value} {fuel : Nat} {listed : Array Bool} {a : Act} {w : World} (hi : ops.toList.drop i = oi :: rest)
    (hs : Region.noSelect ops = true) (hf : Region.free md ops listed i = true) (hr : (Region.ready md ops listed).contains i = true)
    (hQ : ∀ c a w, Q (.panic c) (a.put oi.dst v) w → Q (.panic c) a w) (hy : YieldsIf P ops S oi v a) (hS : S w)
    (h : wpAnyH P md ops Q S fuel (listed.setIfInBounds i true) (a.put oi.dst v) w) : wpAnyH P md ops Q S (fuel + 1) listed a w :=
  wpAnyH_take (at_drop hi) hs hf hr hQ hy hS h
theorem consL {S : World → Prop} {ops : Array Oper} {fuel : Nat} {listed : Array Bool} {a : Act} {w : World} {i : Nat} {o : Oper} {rest : List Oper} {rs : List Nat} (ho : ops.toList.drop i = o :: rest)
    (h : ∀ K' : Act → World → Prop, Shut (∀ a w, S w → (S w → wpAnyH P md ops Q S fuel (listed.setIfInBounds i true) a w) → K' a w) → if Region.wanted o (yielded ops a.tmps) = true then Oper.wp P o a w K' Q else K' (a.put o.dst undef) w)
    (hs : AllReadyH P md ops Q S fuel listed a w rs) : AllReadyH P md ops Q S fuel listed a w (i :: rs) :=
  AllReadyH.cons (at_drop ho) h hs
end
end Go.Proofs.Ytpeeekgfcofbkaa
