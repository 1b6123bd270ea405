/-
  THE MAP OF THE KINDS' FUNCTIONS: look-ups and stores by whole-number keys; a law for a region that comes up in any order, by an invariant; joined.
-/
import Derived.Test.YtijcjknaphboeaaGreatDoorRxNotStar
import Derived.MapKept
import Derived.Orders
namespace Go.Proofs.YtijcjknaphboeaaGreatDoor
open Go.RowKit Go.MapKept

/-! ### entries -/
def Look (es : Array MapEntry) (k : Int) : Option (Option (Nat × Value)) := Instr.findNow (.int .i64) (.int .i64 k) es.toList 0

theorem look_empty (k : Int) : Look #[] k = some none := rfl
theorem same_int (a b : Int) : Instr.sameNow (.int .i64) (.int .i64 a) (.int .i64 b) = some (a == b) := by simp [Instr.sameNow]
theorem find_push (k : Int) (e : MapEntry) (k2 : Int) (he : e.key = .int .i64 k2) : ∀ (l : List MapEntry) (i : Nat) (r : Option (Nat × Value)), Instr.findNow (.int .i64) (.int .i64 k) l i = some r →
    Instr.findNow (.int .i64) (.int .i64 k) (l ++ [e]) i = some (match r with | some x => some x | none => if k = k2 then some (i + l.length, e.val) else none)
  | [], i, r, h => by
    obtain rfl := (Option.some.inj h).symm
    simp only [List.nil_append, Instr.findNow, he, same_int]
    by_cases hk : k = k2
    · subst hk; simp
    · rw [show (k == k2) = false from beq_eq_false_iff_ne.2 hk]; simp [hk]
  | x :: l, i, r, h => by
    simp only [List.cons_append, Instr.findNow] at h ⊢
    split at h
    · obtain rfl := (Option.some.inj h).symm; rfl
    · rename_i hs
      have := find_push k e k2 he l (i + 1) r h
      rw [this]
      cases r
      · simp only [List.length_cons]
        rw [show i + 1 + l.length = i + (l.length + 1) by omega]
      · rfl
    · cases h
theorem look_push {es : Array MapEntry} {k k2 : Int} {v : Value} {c : Nat} {r : Option (Nat × Value)} (h : Look es k = some r) : ∃ j, Look (es.push { key := .int .i64 k2, val := v, born := c }) k = some (match r with | some x => some x | none => if k = k2 then some (j, v) else none) :=
  ⟨0 + es.toList.length, by unfold Look at *; rw [Array.toList_push]; exact find_push k _ k2 rfl _ 0 r h⟩

theorem key_int (k : Int) : IsKey (.int .i64) (.int .i64 k) := by simp [IsKey]
theorem run_lookup_int {P : Program} {w : World} {t kt et : TypeId} {b : Nat} {es : Array MapEntry} {clock j : Nat} {k : Int} {v : Value} (ht : P.underlying t = some (.map kt et)) (hk : P.underlying kt = some (.int .i64)) (hb : w.heap[b]? = some (.map es clock)) (hl : Look es k = some (some (j, v))) :
    (Instr.lookup t (.map (some b)) (.int .i64 k) false).run P w = .ok v w := by
  unfold Instr.lookup
  have h1 := Go.MapKept.run_getObj_map (P := P) hb
  have h2 := fun e n => run_checkKey (P := P) (w := w) hk (key_int k) e n
  have h3 := run_findKey (P := P) (w := w) hk hl
  simp [run_underlying ht, Result.andThen, h1, h2 _ 9999, h3]
theorem run_update_int {P : Program} {w : World} {t kt et : TypeId} {b : Nat} {es : Array MapEntry} {clock : Nat} {k : Int} (v : Value) (ht : P.underlying t = some (.map kt et)) (hk : P.underlying kt = some (.int .i64)) (hb : w.heap[b]? = some (.map es clock)) (hl : Look es k = some none) :
    (Instr.mapUpdate t (.map (some b)) (.int .i64 k) v).run P w = .ok () { w with heap := w.heap.setIfInBounds b (.map (es.push { key := .int .i64 k, val := v, born := clock }) (clock + 1)) } := by
  unfold Instr.mapUpdate
  have h1 := Go.MapKept.run_getObj_map (P := P) hb
  have h2 := fun e n => run_checkKey (P := P) (w := w) hk (key_int k) e n
  have h3 := run_findKey (P := P) (w := w) hk hl
  have h4 := Go.MapKept.run_setObj_map (P := P) (.map (es.push { key := .int .i64 k, val := v, born := clock }) (clock + 1)) hb
  simp [run_underlying ht, Result.andThen, h1, h2 _ 9999, h3, h4]

/-! ### a region that comes up in any order -/
theorem count_set : ∀ (l : List Bool) (i : Nat), l[i]? = some false → (l.set i true).count false + 1 = l.count false
  | [], _, h => by simp at h
  | x :: l, 0, h => by simp at h; subst h; simp
  | x :: l, i + 1, h => by
    have := count_set l i (by simpa using h)
    rw [List.set_cons_succ, List.count_cons, List.count_cons]
    omega
/-- AN INVARIANT THAT EACH OPERATION KEEPS, IN WHATEVER ORDER, IS THERE AT THE END. -/
theorem wpAny_inv {P : Program} {md : Region.Mode} {ops : Array Oper} {Q : Exit → Act → World → Prop} (I : Array Bool → Act → World → Prop) (hsz : ∀ l a w, I l a w → l.size = ops.size)
    (step : ∀ i l a w, I l a w → i ∈ Region.ready md ops l → wpOp P ops Q i (fun a' w' => I (l.setIfInBounds i true) a' w') a w)
    (done : ∀ l a w, I l a w → Region.ready md ops l = [] → Q .normal a w) : ∀ (fuel : Nat) (l : Array Bool) (a : Act) (w : World), l.toList.count false ≤ fuel → I l a w → wpAny P md ops Q fuel l a w := by
  have hun : ∀ (l : Array Bool) i, l.size = ops.size → i ∈ Region.ready md ops l → l.toList[i]? = some false := fun l i hl hi => by
    obtain ⟨h1, o, ho, _⟩ := mem_ready.1 hi
    have hlt : i < l.size := by rw [hl]; exact (Array.getElem?_eq_some_iff.1 ho).1
    rw [Array.getElem?_toList, Array.getElem?_eq_getElem hlt]
    simpa [hlt] using h1
  intro fuel
  induction fuel with
  | zero =>
    intro l a w hf hI
    have : Region.ready md ops l = [] := by
      cases hr : Region.ready md ops l with
      | nil => rfl
      | cons i r =>
        have h1 := hun l i (hsz _ _ _ hI) (by rw [hr]; simp)
        have h2 := List.count_pos_iff.2 (List.mem_of_getElem? h1)
        omega
    exact ⟨this, done _ _ _ hI this⟩
  | succ fuel ih =>
    intro l a w hf hI
    refine ⟨done _ _ _ hI, fun i hi => wpOp_mono (fun a' w' h' => ih _ a' w' ?_ h') (step i l a w hI hi)⟩
    have h1 := count_set _ _ (hun l i (hsz _ _ _ hI) hi)
    rw [Array.toList_setIfInBounds]
    omega

/-! ### joined -/
theorem joined_any (neu abs : Rx) (vn va : Value) (F : Nat) (S : Nat → Prop) (w : World) (hn : RtV w S neu vn) (ha : RtV w S abs va) :
    Calls Tryz.prog 48 #[vn, va, .func (.func F) #[] #[]] w fun e w' => e = .returned (.func (.func 65) #[] #[.pointer (some ⟨w.heap.size, 0, none⟩), .pointer (some ⟨w.heap.size + 1, 0, none⟩), .pointer (some ⟨w.heap.size + 1 + 1, 0, none⟩)]) ∧
      ∃ A c B d, vn = rxv neu.kind neu.lo neu.hi A neu.kids.length c ∧ va = rxv abs.kind abs.lo abs.hi B abs.kids.length d ∧ w' = ((w.alloc (.cells #[.int .i64 neu.kind, .int .u8 neu.lo, .int .u8 neu.hi, .slice A neu.kids.length c] 30)).alloc (.cells #[.int .i64 abs.kind, .int .u8 abs.lo, .int .u8 abs.hi, .slice B abs.kids.length d] 30)).alloc (.cells #[.func (.func F) #[] #[]] 84) := by
  obtain ⟨_, A, c, rfl, _⟩ := hn.parts
  obtain ⟨_, B, d, rfl, _⟩ := ha.parts
  clear hn ha
  unfold rxv
  go_enter Tryz.func48, Tryz.ntmps48
  go_wp2_with fail
  go_ret
  exact ⟨rfl, A, c, B, d, rfl, rfl, rfl⟩
end Go.Proofs.YtijcjknaphboeaaGreatDoor
