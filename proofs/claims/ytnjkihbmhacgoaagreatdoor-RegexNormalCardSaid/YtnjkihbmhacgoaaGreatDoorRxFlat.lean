/-
  THE WALKS of result, contains, IndexFunc, ContainsFunc, nullable, flat.
-/
import Derived.Test.YtnjkihbmhacgoaaGreatDoorRxForm
namespace Go.Proofs.YtnjkihbmhacgoaaGreatDoor
open Go.RowKit

/-! ### a slice of expressions appended to a row -/
theorem RtL.tns {w : World} {S : Nat → Prop} : ∀ {s : List Rx} {A : Option Addr}, RtL w S s A → ∃ ts : List Tn, ts.map Tn.x = s ∧ (∀ t ∈ ts, RtV w S t.x t.val) ∧ ∀ b o, A = some ⟨b, o, none⟩ → ∀ j u, (ts.flatMap Tn.cells)[j]? = some u → w.cell? ⟨b, o + j, none⟩ = some u
  | [], _, _ => ⟨[], rfl, by simp, by simp⟩
  | x :: s, A, h => by
    simp only [RtL] at h
    obtain ⟨b, o, A', c', rfl, h1, ⟨c0, c1, c2, c3⟩, h3, h4⟩ := h
    obtain ⟨ts, e1, e2, e3⟩ := RtL.tns h4
    refine ⟨⟨x, A', c'⟩ :: ts, by rw [List.map_cons, e1], fun t ht => ?_, fun b' o' e j u hj => ?_⟩
    · rcases List.mem_cons.1 ht with rfl | ht
      · exact h3
      · exact e2 t ht
    · obtain ⟨rfl, rfl⟩ : b = b' ∧ o = o' := by cases e; exact ⟨rfl, rfl⟩
      rw [List.flatMap_cons] at hj
      match j, hj with
      | 0, hj => obtain rfl := Option.some.inj hj; exact c0
      | 1, hj => obtain rfl := Option.some.inj hj; exact c1
      | 2, hj => obtain rfl := Option.some.inj hj; exact c2
      | 3, hj => obtain rfl := Option.some.inj hj; exact c3
      | j + 4, hj =>
        have := e3 b (o + 4) rfl j u (by simpa [Tn.cells] using hj)
        rw [show o + (j + 4) = o + 4 + j by omega]
        exact this
theorem wpList_append_t {P : Program} (w : World) {ops : Array Oper} {rest : List Oper} {o : Oper} {a : Act} {Q : Exit → Act → World → Prop} (hgd : o.guard = none) (s x : Operand) (t : TypeId)
    (ho : o.op = .call { callee := .builtin .append, args := #[s, x], argTypes := #[t, t] })
    (base : Nat) (e : TypeId) (i : TypeInfo) (z : Value) (bytes : Nat) (ht : P.underlying t = some (.slice e)) (hi : P.info? e = some i) (hz : i.zero = some z)
    (hsize : i.size = 4) (hby : i.bytes = bytes) (hzs : z.cells.size = 4)
    (v : Value) (L S : Nat → Prop) (ts : List Tn) (hs : a.eval s = v) (hrow : RowT w base L e v ts)
    (A : Option Addr) (m c : Nat) (xs : List Rx) (hx : a.eval x = .slice A m c) (hm : m = xs.length) (hA : A = none → c = 0) (hc : xs.length ≤ c) (hr : RtL w S xs A) (hS : ∀ b, S b → L b ∧ b < base)
    (h63 : ts.length + m ≤ maxLen) (hbytes : (ts.length + m) * bytes ≤ 140737488355328) (hbase : base ≤ w.heap.size)
    (h : ∀ v' w' ts', ts'.map Tn.x = xs → RowT w' base L e v' (ts ++ ts') → Below base w w' → wpList P ops Q rest (a.put o.dst v') w') : wpList P ops Q (o :: rest) a w := by
  subst hm
  obtain ⟨us, e1, e2, e3⟩ := hr.tns
  have hl : us.length = xs.length := by rw [← e1, List.length_map]
  cases A with
  | none =>
    obtain rfl : c = 0 := hA rfl
    obtain rfl : xs = [] := List.eq_nil_of_length_eq_zero (by omega)
    obtain rfl : us = [] := List.eq_nil_of_length_eq_zero (by simpa using hl)
    exact wpList_append_own_none hgd s x t ho base e i 4 ht hi v ts.length _ hs hrow.1 hx (h v w [] rfl (by simpa using hrow) (Below.refl _ _))
  | some ad =>
    refine wpList_append_own_at w hgd s x t ho base e i z 4 bytes ht hi hz hsize hby hzs (by decide) v ts.length _ hs hrow.1 ad xs.length c (us.flatMap Tn.cells) hx (by rw [tn_cells_len, hl]) (fun j u hj => ?_) (tn_one us) h63 hbytes hbase (fun v' w' h2 h3 _ h5 => h v' w' us e1 ⟨?_, ?_⟩ ?_)
    · cases xs with
      | nil =>
        obtain rfl : us = [] := List.eq_nil_of_length_eq_zero (by simpa using hl)
        simp at hj
      | cons x0 xs =>
        obtain ⟨b, o', e0, _⟩ := hr.addr (by simp)
        injection e0 with e0
        subst e0
        have hadd : (⟨b, o', none⟩ : Addr).add j = ⟨b, o' + j, none⟩ := by unfold Addr.add; split <;> simp_all
        rw [hadd]
        exact e3 b o' rfl j u hj
    · rw [List.flatMap_append, List.length_append, hl]
      exact h2
    · have hgo : ∀ b, L b → b < w.heap.size → some b ≠ v.ownBlock → Lay L w' v' b ∧ w'.heap[b]? = w.heap[b]? := fun b h1 h4 h6 => ⟨⟨h1, Nat.lt_of_lt_of_le h4 h3.size, fun e => by
          rcases h5 with h5 | h5
          · exact h6 (e.trans h5)
          · rw [h5] at e; injection e with e; omega⟩, h3.block b h4 h6⟩
      intro t' ht'
      rcases List.mem_append.1 ht' with h1 | h1
      · exact RtV.to (fun b hb => hgo b hb.1 hb.2.1 hb.2.2) _ (hrow.2 t' h1)
      · exact RtV.to (fun b hb => hgo b (hS b hb).1 (Nat.lt_of_lt_of_le (hS b hb).2 hbase) (fun e => by have := (own_blk_lt hrow.1 e).1; have := (hS b hb).2; omega)) _ (e2 t' h1)
    · exact (Below.refl base w).grown h3 hbase (fun j ej => hrow.blk j ej)

/-! ### result -/
theorem result_ok (x : Rx) (v : Value) (w : World) (hv : RtV w (Lo w.heap.size) x v) (hn : nodes x ≤ 64) : Calls Tryz.prog 20 #[v] w fun e w' => ∃ v', e = .returned (.tuple #[v', .int .i64 0]) ∧ RtV w' (Mid w.heap.size w'.heap.size) x v' ∧ Below w.heap.size w w' := by
  have hT : ∀ W, Below w.heap.size w W → Calls Tryz.prog 25 #[v] W fun e w' => e = .returned (.bool false) ∧ Below W.heap.size W w' := fun W hW => by
    have := tooLarge_any x v W ((hv.below hW).mono hW.size)
    rwa [decide_eq_false (show ¬ 64 < nodes x by omega)] at this
  have hC : ∀ W, Below w.heap.size w W → Calls Tryz.prog 38 #[v] W fun e w' => GivesX W x e w' := fun W hW => clone_any x v W ((hv.below hW).mono hW.size)
  obtain ⟨⟨ok1, ok2, ok3, ok4⟩, A, c, rfl, hc, hA, _⟩ := hv.parts
  clear hv
  have hb : ∀ o1 o2, Below w.heap.size w ((w.alloc o1).alloc o2) := fun o1 o2 => below_alloc2 (Below.refl _ _) (Nat.le_refl _) _ _
  unfold rxv at hC hT ⊢
  go_enter Tryz.func20, Tryz.ntmps20
  go_wp2_with (first
    | (go_at_call 25; refine (hT _ (hb _ _)).mono ?_; clear hT; rintro e w1 ⟨rfl, hw1⟩; have hs1 := hw1.size; simp at hs1; have hn0 := (hw1.block w.heap.size (by simp; omega)).trans ((heap_alloc_old _ _ _ (by simp)).trans (heap_alloc_new w (.cells #[.int .i64 x.kind, .int .u8 x.lo, .int .u8 x.hi, .slice A x.kids.length c] 30))); have hn1 := (hw1.block (w.heap.size + 1) (by simp)).trans (heap_alloc_new_at _ _ (by simp)); obtain ⟨t0, t1, t2, t3⟩ := four hn0; have hB1 := (hb _ _).trans (hw1.mono (by simp; omega)))
    | (go_at_call 38; refine (hC _ hB1).mono ?_; clear hC; rintro e w2 ⟨v2, rfl, hv2, hw2⟩; obtain ⟨_, A2, d2, rfl, hd2, hA2, hl2⟩ := hv2.parts; have hn2 := (hw2.block (w.heap.size + 1) (by omega)).trans hn1; obtain ⟨q0, q1, q2, q3⟩ := four hn2; have hf2 := four_frozen hn2; simp only [rxv]))
  refine bodyPost_ret (v := .tuple #[rxv x.kind x.lo x.hi A2 x.kids.length d2, .int .i64 0]) (by unfold rxv; simp [results, Tryz.results20, go_sem, q0, q1, q2, q3]) rfl ?_
  refine ⟨_, rfl, RtV.to (fun b hb' => ⟨?_, fin4 _ _ _ _ ?_⟩) x hv2, fin4_below (hB1.trans (hw2.mono (by omega))) (Nat.le_succ _) _ _ _ _⟩
  · have h1 := hb'.1; have h2 := hb'.2
    exact ⟨by omega, by rw [fin4_size]; exact h2⟩
  · have h1 := hb'.1; omega
theorem result_big (x : Rx) (v : Value) (w : World) (hv : RtV w (Lo w.heap.size) x v) (hn : 64 < nodes x) : Calls Tryz.prog 20 #[v] w fun e w' => e = .returned (.tuple #[rxv 0 0 0 none 0 0, .int .i64 4]) ∧ Below w.heap.size w w' := by
  have hT : ∀ W, Below w.heap.size w W → Calls Tryz.prog 25 #[v] W fun e w' => e = .returned (.bool true) ∧ Below W.heap.size W w' := fun W hW => by
    have := tooLarge_any x v W ((hv.below hW).mono hW.size)
    rwa [decide_eq_true hn] at this
  obtain ⟨⟨ok1, ok2, ok3, ok4⟩, A, c, rfl, hc, hA, _⟩ := hv.parts
  clear hv
  have hb : ∀ o1 o2, Below w.heap.size w ((w.alloc o1).alloc o2) := fun o1 o2 => below_alloc2 (Below.refl _ _) (Nat.le_refl _) _ _
  unfold rxv at hT ⊢
  go_enter Tryz.func20, Tryz.ntmps20
  go_wp2_with (go_at_call 25; refine (hT _ (hb _ _)).mono ?_; clear hT; rintro e w1 ⟨rfl, hw1⟩; have hs1 := hw1.size; simp at hs1; have hn1 := (hw1.block (w.heap.size + 1) (by simp)).trans (heap_alloc_new_at _ _ (by simp)); obtain ⟨t0, t1, t2, t3⟩ := four hn1; have hf1 := four_frozen hn1; have hB1 := (hb _ _).trans (hw1.mono (by simp; omega)))
  refine bodyPost_ret (v := .tuple #[rxv 0 0 0 none 0 0, .int .i64 4]) (by unfold rxv; simp [results, Tryz.results20, go_sem, t0, t1, t2, t3]) rfl ?_
  exact ⟨rfl, fin4_below hB1 (Nat.le_succ _) _ _ _ _⟩

/-! ### contains -/
theorem contains_any (k l h : Int) (A : Option Addr) (n c : Nat) (b : Int) (w : World) : Calls Tryz.prog 65 #[rxv k l h A n c, .int .u8 b] w fun e w' => e = .returned (.bool (decide (l ≤ b) && decide (b ≤ h))) ∧ Below w.heap.size w w' := by
  unfold rxv
  by_cases h1 : l ≤ b
  · have h1' : decide (l ≤ b) = true := decide_eq_true h1
    go_enter Tryz.func65, Tryz.ntmps65
    go_wp2_with fail
    go_ret
    exact ⟨by simp [h1], (Below.refl _ _).alloc (Nat.le_refl _) _⟩
  · have h1' : decide (l ≤ b) = false := decide_eq_false h1
    go_enter Tryz.func65, Tryz.ntmps65
    go_wp2_with fail
    go_ret
    exact ⟨by simp, (Below.refl _ _).alloc (Nat.le_refl _) _⟩
end Go.Proofs.YtnjkihbmhacgoaaGreatDoor
