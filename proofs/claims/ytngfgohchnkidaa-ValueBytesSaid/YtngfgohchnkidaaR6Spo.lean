/-
  THE WALK of the reference's Spoilt: a value with one part changed. Written by gen/genr6spo.py.
-/
import Derived.Test.YtngfgohchnkidaaR6Put
import Derived.Test.YtngfgohchnkidaaR6Bits
namespace Go.Proofs.Ytngfgohchnkidaa
open Go.RowKit

theorem ens_set_u (z : Int) : ∀ (l : List En) (j : Nat) (hj : j < l.length), (l.set j ⟨l[j].i, z, l[j].s⟩).flatMap En.cells = (l.flatMap En.cells).set (j * 3 + 1) (.int .u64 z) := by
  intro l
  induction l with
  | nil => intro j hj; simp at hj
  | cons t l ih =>
    intro j hj
    cases j with
    | zero => rfl
    | succ j =>
      have h := ih j (by simpa using hj)
      simp only [List.set_cons_succ, List.getElem_cons_succ, List.flatMap_cons]
      rw [h, List.set_append_right _ _ (by show 3 ≤ _; omega)]
      show _ = t.cells ++ _
      congr 2
      show _ = (j + 1) * 3 + 1 - 3
      omega
theorem ens_set_s (z : ByteArray) : ∀ (l : List En) (j : Nat) (hj : j < l.length), (l.set j ⟨l[j].i, l[j].u, z⟩).flatMap En.cells = (l.flatMap En.cells).set (j * 3 + 2) (.string z) := by
  intro l
  induction l with
  | nil => intro j hj; simp at hj
  | cons t l ih =>
    intro j hj
    cases j with
    | zero => rfl
    | succ j =>
      have h := ih j (by simpa using hj)
      simp only [List.set_cons_succ, List.getElem_cons_succ, List.flatMap_cons]
      rw [h, List.set_append_right _ _ (by show 3 ≤ _; omega)]
      show _ = t.cells ++ _
      congr 2
      show _ = (j + 1) * 3 + 2 - 3
      omega
/-- a row of the call's own, as it lies: its block, and what a store into it leaves -/
theorem RowE.lies {w : World} {base c : Nat} {e : TypeId} {A : Option Addr} {l : List En} (h : RowE w base e (.slice A l.length c) l) (h0 : 0 < l.length) :
    ∃ g, A = some ⟨g, 0, none⟩ ∧ base ≤ g ∧ g < w.heap.size ∧ (∀ j (hj : j < l.length), At3 w g (j * 3) l[j]) ∧ (∀ i, w.frozen? ⟨g, i, none⟩ = false) ∧
      ∀ (l2 : List En) (p : Nat) (u : Value), l2.flatMap En.cells = (l.flatMap En.cells).set p u → EnL (w.setCell ⟨g, p, none⟩ u) (fun b => base ≤ b ∧ b < w.heap.size) l2 (some ⟨g, 0, none⟩) := by
  have hlist := h.list
  rcases h.2 with ⟨hv, hn0⟩ | ⟨g, cap, cur, hv, hb, hg, hnc, hcm, hcs, hct⟩
  · omega
  · injection hv with h1 h2 h3
    subst h1
    have hlt := (Array.getElem?_eq_some_iff.1 hg).1
    refine ⟨g, rfl, hb, hlt, fun j hj => ?_, fun i => blk_frozen hg i, fun l2 p u hl2 => ?_⟩
    · obtain ⟨b, o, e1, _, h3⟩ := hlist.get hj
      cases e1
      simpa using h3
    · refine .inr ⟨g, 0, rfl, ⟨hb, hlt⟩, fun j v hj => ?_⟩
      rw [Nat.zero_add, cell_of_row _ g j _ e (0, 0) (blk_set hg u)]
      rw [hl2, ← hct] at hj
      rw [List.getElem?_set] at hj
      rw [Array.getElem?_setIfInBounds]
      split at hj
      · rename_i hpj
        split at hj
        · rename_i hlt2
          rw [if_pos hpj, if_pos (by simp at hlt2; omega)]
          exact hj
        · cases hj
      · rename_i hpj
        rw [if_neg hpj]
        rw [List.getElem?_take] at hj
        split at hj
        · simpa using hj
        · cases hj
theorem rowe_empty (w : World) (t : TypeId) : RowE (w.alloc (.cells #[] t)) w.heap.size t (.slice (some ⟨w.heap.size, 0, none⟩) 0 0) [] :=
  ⟨rfl, .inr ⟨_, 0, _, rfl, Nat.le_refl _, heap_alloc_new w _, Nat.le_refl _, by unfold maxLen; omega, rfl, rfl⟩⟩
/-- what Spoilt hands back -/
def SpoPost (x : Va) (w : World) (e : Ending) (w' : World) : Prop := ∃ y : Va, (y.s.size ≤ x.s.size + 2 ∧ y.m.length ≤ x.m.length + 1) ∧ GivesV w y e w'
theorem spo_end {x : Va} {w W : World} {N : Nat} (hN : w.heap.size = N) (hB : Below N w W) (y : Va) (hsz : y.s.size ≤ x.s.size + 2 ∧ y.m.length ≤ x.m.length + 1) (hok : y.ok) {A : Option Addr} {nl c : Nat} (hn : nl = y.m.length) (hc : nl ≤ c ∧ (A = none → c = 0)) (hl : EnL W (fun b => N + 2 ≤ b ∧ b < W.heap.size) y.m A) (c0 c1 c2 c3 c4 c5 : Value) :
    SpoPost x w (.returned (.agg #[.int .i64 y.k, .int .i64 y.n, .int .i64 y.ix, .int .u64 y.u, .string y.s, .slice A nl c])) ((((((W.setCell ⟨N + 1, 0, none⟩ c0).setCell ⟨N + 1, 1, none⟩ c1).setCell ⟨N + 1, 2, none⟩ c2).setCell ⟨N + 1, 3, none⟩ c3).setCell ⟨N + 1, 4, none⟩ c4).setCell ⟨N + 1, 5, none⟩ c5) := by
  subst hN hn
  exact ⟨y, hsz, _, rfl, VaV.mk hok hc.1 hc.2 (hl.to (fun b hb => ⟨⟨by have := hb.1; omega, by rw [set6_size]; exact hb.2⟩, set6_heap _ _ _ _ _ _ (by have := hb.1; omega)⟩)), set6_below hB (Nat.le_succ _) _ _ _ _ _ _⟩
theorem SpoPost.drew {x : Va} {w w' : World} {e : Ending} (h : SpoPost x w e w') : SpoPost x w e w'.drew := by
  obtain ⟨y, hs, v, he, hv, hB⟩ := h
  exact ⟨y, hs, v, he, hv.to (fun b hb => ⟨hb, rfl⟩), hB.drew⟩
theorem enl_set {W : World} {N : Nat} {l : List En} {A : Option Addr} (h : EnL W (fun b => N + 2 ≤ b ∧ b < W.heap.size) l A) (j : Nat) (v : Value) : EnL (W.setCell ⟨N, j, none⟩ v) (fun b => N + 2 ≤ b ∧ b < (W.setCell ⟨N, j, none⟩ v).heap.size) l A :=
  h.to (fun b hb => ⟨⟨hb.1, by simpa [World.setCell] using hb.2⟩, Below.heap_setCell _ _ _ _ (by have := hb.1; simp; omega)⟩)

set_option maxHeartbeats 4000000 in
set_option maxRecDepth 100000 in
theorem r6Spoilt_any (x : Va) (v : Value) (a h b : Int) (w : World) (hv : VaV w (LoV w.heap.size) x v) (ha : I64 a) (hh : I64 h) (hb : I64 b) (hs : x.s.size + 2 ≤ 1000000) (hlm : x.m.length < 100000) : Calls Try.prog 39 #[v, .int .i64 a, .int .i64 h, .int .i64 b] w fun e w' => SpoPost x w e w' := by
  obtain ⟨hok, A, c, rfl, hc, hA, hl⟩ := hv
  have Hok := Lib.hid hok
  clear hok
  obtain ⟨k, n, ix, u, s, m⟩ := x
  simp only at hc hl hlm hs
  obtain ⟨ml, hml0⟩ : ∃ z, z = m.length := ⟨_, rfl⟩
  have HML := Lib.hid hml0
  show Calls Try.prog 39 #[vav k n ix u s A m.length c, .int .i64 a, .int .i64 h, .int .i64 b] w _
  rw [← hml0] at hc hlm ⊢
  clear hml0
  obtain ⟨j, hj, hA8⟩ := Around_30 a 8 ha (by omega) (by omega)
  obtain ⟨q, hq, hA9⟩ := Around_30 h 9 hh (by omega) (by omega)
  obtain ⟨r, hr, hA3⟩ := Around_30 b 3 hb (by omega) (by omega)
  have HA8 := Lib.hid fun W => around_lit 8 8 rfl hA8 W
  have HA9 := Lib.hid fun W => around_lit 9 9 rfl hA9 W
  have HA3 := Lib.hid fun W => around_lit 3 3 rfl hA3 W
  have HI := Lib.hid fun (M : Nat) (h1 : 1 ≤ M) (h2 : M ≤ 2000000000) => Around_30 a M ha h1 h2
  clear hA8 hA9 hA3
  obtain ⟨nn, hnn, hN⟩ : ∃ nn : Int, I64 nn ∧ #[Value.int .i64 b, .int .i64 (-1), .int .i64 0, .int .i64 1, .int .i64 16, .int .i64 17, .int .i64 64, .int .i64 65][j]? = some (.int .i64 nn) := by
    rcases (show j = 0 ∨ j = 1 ∨ j = 2 ∨ j = 3 ∨ j = 4 ∨ j = 5 ∨ j = 6 ∨ j = 7 by omega) with rfl | rfl | rfl | rfl | rfl | rfl | rfl | rfl
    · exact ⟨b, hb, rfl⟩
    all_goals exact ⟨_, (show I64 _ from ⟨by decide, by decide⟩), rfl⟩
  have HNN := Lib.hid hnn
  have HNC := Lib.hid hN
  have Hs := Lib.hid hs
  clear hnn hN hs
  obtain ⟨i0, hi0, hz0, hz1, hz2⟩ := info_partsV info_rEntry
  have hB3 : Below w.heap.size w (((w.alloc (.cells #[.int .i64 k, .int .i64 n, .int .i64 ix, .int .u64 u, .string s, .slice A ml c] 30)).alloc (.cells #[.int .i64 0, .int .i64 0, .int .i64 0, .int .u64 0, .string ⟨#[]⟩, .slice none 0 0] 30)).alloc (.cells #[] 84)) := below_alloc3v (Below.refl _ _) (Nat.le_refl _) _ _ _
  have hb0 : (((w.alloc (.cells #[.int .i64 k, .int .i64 n, .int .i64 ix, .int .u64 u, .string s, .slice A ml c] 30)).alloc (.cells #[.int .i64 0, .int .i64 0, .int .i64 0, .int .u64 0, .string ⟨#[]⟩, .slice none 0 0] 30)).alloc (.cells #[] 84)).heap[w.heap.size]? = some (.cells #[.int .i64 k, .int .i64 n, .int .i64 ix, .int .u64 u, .string s, .slice A ml c] 30 (0, 0)) := (heap_alloc_old _ _ _ (by simp; omega)).trans ((heap_alloc_old _ _ _ (by simp)).trans (heap_alloc_new w _))
  have hb1 : (((w.alloc (.cells #[.int .i64 k, .int .i64 n, .int .i64 ix, .int .u64 u, .string s, .slice A ml c] 30)).alloc (.cells #[.int .i64 0, .int .i64 0, .int .i64 0, .int .u64 0, .string ⟨#[]⟩, .slice none 0 0] 30)).alloc (.cells #[] 84)).heap[w.heap.size + 1]? = some (.cells #[.int .i64 0, .int .i64 0, .int .i64 0, .int .u64 0, .string ⟨#[]⟩, .slice none 0 0] 30 (0, 0)) := (heap_alloc_old _ _ _ (by simp)).trans (heap_alloc_new_at _ _ (by simp))
  have hz3 : (((w.alloc (.cells #[.int .i64 k, .int .i64 n, .int .i64 ix, .int .u64 u, .string s, .slice A ml c] 30)).alloc (.cells #[.int .i64 0, .int .i64 0, .int .i64 0, .int .u64 0, .string ⟨#[]⟩, .slice none 0 0] 30)).alloc (.cells #[] 84)).heap.size = w.heap.size + 3 := by simp
  have HR0 : RowE (((w.alloc (.cells #[.int .i64 k, .int .i64 n, .int .i64 ix, .int .u64 u, .string s, .slice A ml c] 30)).alloc (.cells #[.int .i64 0, .int .i64 0, .int .i64 0, .int .u64 0, .string ⟨#[]⟩, .slice none 0 0] 30)).alloc (.cells #[] 84)) (w.heap.size + 2) 84 (.slice (some ⟨w.heap.size + 1 + 1, 0, none⟩) 0 0) [] := by
    have := rowe_empty ((w.alloc (.cells #[.int .i64 k, .int .i64 n, .int .i64 ix, .int .u64 u, .string s, .slice A ml c] 30)).alloc (.cells #[.int .i64 0, .int .i64 0, .int .i64 0, .int .u64 0, .string ⟨#[]⟩, .slice none 0 0] 30)) 84
    have h2 : ((w.alloc (.cells #[.int .i64 k, .int .i64 n, .int .i64 ix, .int .u64 u, .string s, .slice A ml c] 30)).alloc (.cells #[.int .i64 0, .int .i64 0, .int .i64 0, .int .u64 0, .string ⟨#[]⟩, .slice none 0 0] 30)).heap.size = w.heap.size + 2 := by simp
    rwa [h2] at this
  have hl3 : EnL (((w.alloc (.cells #[.int .i64 k, .int .i64 n, .int .i64 ix, .int .u64 u, .string s, .slice A ml c] 30)).alloc (.cells #[.int .i64 0, .int .i64 0, .int .i64 0, .int .u64 0, .string ⟨#[]⟩, .slice none 0 0] 30)).alloc (.cells #[] 84)) (LoV w.heap.size) m A := hl.to (fun b hb => ⟨hb, hB3.block b hb⟩)
  have HB0 : w.heap.size + 2 ≤ (((w.alloc (.cells #[.int .i64 k, .int .i64 n, .int .i64 ix, .int .u64 u, .string s, .slice A ml c] 30)).alloc (.cells #[.int .i64 0, .int .i64 0, .int .i64 0, .int .u64 0, .string ⟨#[]⟩, .slice none 0 0] 30)).alloc (.cells #[] 84)).heap.size := by rw [hz3]; omega
  have HL6 : ∀ w6, (((w.alloc (.cells #[.int .i64 k, .int .i64 n, .int .i64 ix, .int .u64 u, .string s, .slice A ml c] 30)).alloc (.cells #[.int .i64 0, .int .i64 0, .int .i64 0, .int .u64 0, .string ⟨#[]⟩, .slice none 0 0] 30)).alloc (.cells #[] 84)).grownBy w6 (some (w.heap.size + 1 + 1)) → ∀ B, B < w.heap.size + 2 → w6.heap[B]? = (((w.alloc (.cells #[.int .i64 k, .int .i64 n, .int .i64 ix, .int .u64 u, .string s, .slice A ml c] 30)).alloc (.cells #[.int .i64 0, .int .i64 0, .int .i64 0, .int .u64 0, .string ⟨#[]⟩, .slice none 0 0] 30)).alloc (.cells #[] 84)).heap[B]? := fun w6 hg B hB => hg.block B (by rw [hz3]; omega) (fun e => by injection e with e; omega)
  have HW6 : ∀ w6, (((w.alloc (.cells #[.int .i64 k, .int .i64 n, .int .i64 ix, .int .u64 u, .string s, .slice A ml c] 30)).alloc (.cells #[.int .i64 0, .int .i64 0, .int .i64 0, .int .u64 0, .string ⟨#[]⟩, .slice none 0 0] 30)).alloc (.cells #[] 84)).grownBy w6 (some (w.heap.size + 1 + 1)) → Below w.heap.size w w6 := fun w6 hg => hB3.trans ((Below.refl _ _).grown hg (by rw [hz3]; omega) (fun j ej => by injection ej with ej; omega))
  obtain ⟨p0, p1, p2, p3, p4, p5⟩ := six hb0
  have HCA := Lib.hid (And.intro hc (And.intro hA hl3))
  have HLL := Lib.hid (show 0 + ml ≤ maxLen ∧ (0 + ml) * 32 ≤ 140737488355328 from ⟨by unfold maxLen; omega, by omega⟩)
  replace HL6 := Lib.hid HL6
  replace HW6 := Lib.hid HW6
  replace hz3 := Lib.hid hz3
  replace hb0 := Lib.hid hb0
  replace hb1 := Lib.hid hb1
  clear hl hl3 hB3 hc hA
  unfold vav
  go_enter Try.func39, Try.ntmps39
  go_wp2_with (at_builtin; refine wpList_append_en _ rfl _ _ 28 rfl (w.heap.size + 2) 84 i0 (.agg #[.int .u64 0, .int .u64 0, .string ⟨#[]⟩]) 32 Try.underlying28 hi0 hz0 hz1 hz2 rfl (.slice (some ⟨w.heap.size + 1 + 1, 0, none⟩) 0 0) [] rfl HR0 (LoV w.heap.size) A ml c m rfl HML.out HCA.out.2.1 (by rw [← HML.out]; exact HCA.out.1) HCA.out.2.2 HLL.out.1 HLL.out.2 HB0 ?_; intro A6 n6 c6 w6 h6 hrow6 hg6; have hf6 := blk_frozen ((HL6.out w6 hg6 w.heap.size (by omega)).trans hb0.out) 5; have g65 := (six ((HL6.out w6 hg6 w.heap.size (by omega)).trans hb0.out)).2.2.2.2.2)
  obtain rfl : n6 = ml := by have := h6.out.1; rw [List.nil_append] at this; rw [this, HML.out]
  have hC6 := Lib.hid h6.out.2
  have hb0' := Lib.hid (six_set5 ((HL6.out w6 hg6 w.heap.size (by omega)).trans hb0.out) (.slice A6 n6 c6))
  have hb1' := Lib.hid ((Below.heap_setCell w6 ⟨w.heap.size, 5, none⟩ (.slice A6 n6 c6) (w.heap.size + 1) (by simp)).trans ((HL6.out w6 hg6 (w.heap.size + 1) (by omega)).trans hb1.out))
  have hrow7 : Hid (RowE (w6.setCell ⟨w.heap.size, 5, none⟩ (.slice A6 n6 c6)) (w.heap.size + 2) 84 (.slice A6 n6 c6) m) := Lib.hid (own_keptv (show RowE w6 (w.heap.size + 2) 84 (.slice A6 n6 c6) m from hrow6) (fun b h1 _ => Below.heap_setCell w6 _ _ b (by simp; omega)))
  have hW7 := Lib.hid ((HW6.out w6 hg6).setCell (p := ⟨w.heap.size, 5, none⟩) (Nat.le_refl _) (.slice A6 n6 c6))
  have hz7 : w.heap.size + 3 ≤ (w6.setCell ⟨w.heap.size, 5, none⟩ (.slice A6 n6 c6)).heap.size := by
    have h1 := hg6.size
    rw [hz3.out] at h1
    simp [World.setCell]; omega
  have HS67 := Lib.hid (show (w6.setCell ⟨w.heap.size, 5, none⟩ (.slice A6 n6 c6)).heap.size = w6.heap.size from by simp [World.setCell])
  clear hb0 hb1 p0 p1 p2 p3 p4 p5 HR0 HB0 HCA HL6 HW6 h6 hrow6 hg6 hf6 g65 hz3 HLL
  generalize w6.setCell ⟨w.heap.size, 5, none⟩ (.slice A6 n6 c6) = w7 at *
  have hcell : (w7.alloc (.cells #[.int .i64 b, .int .i64 (-1), .int .i64 0, .int .i64 1, .int .i64 16, .int .i64 17, .int .i64 64, .int .i64 65] 3)).cell? ⟨w6.heap.size, j, none⟩ = some (.int .i64 nn) := by rw [← HS67.out, cell_of_row _ _ j _ _ _ (heap_alloc_new w7 _)]; exact HNC.out
  have hj0 : (0 : Int) ≤ (j : Int) := by omega
  have hj8 : (j : Int) < 8 := by omega
  refine Calls.mono (HA8.out _) ?_
  rintro e w8 ⟨rfl, rfl⟩
  have hb0 := Lib.hid ((heap_alloc_old w7 (.cells #[.int .i64 b, .int .i64 (-1), .int .i64 0, .int .i64 1, .int .i64 16, .int .i64 17, .int .i64 64, .int .i64 65] 3) w.heap.size (by omega)).trans hb0'.out)
  have hb1 := Lib.hid ((heap_alloc_old w7 (.cells #[.int .i64 b, .int .i64 (-1), .int .i64 0, .int .i64 1, .int .i64 16, .int .i64 17, .int .i64 64, .int .i64 65] 3) (w.heap.size + 1) (by omega)).trans hb1'.out)
  have hrow : Hid (RowE (w7.alloc (.cells #[.int .i64 b, .int .i64 (-1), .int .i64 0, .int .i64 1, .int .i64 16, .int .i64 17, .int .i64 64, .int .i64 65] 3)) (w.heap.size + 2) 84 (.slice A6 n6 c6) m) := Lib.hid (hrow7.out.below ((Below.refl _ _).alloc (Nat.le_refl _) _))
  have hW := Lib.hid (hW7.out.alloc hW7.out.size (.cells #[.int .i64 b, .int .i64 (-1), .int .i64 0, .int .i64 1, .int .i64 16, .int .i64 17, .int .i64 64, .int .i64 65] 3))
  have hz : w.heap.size + 3 ≤ (w7.alloc (.cells #[.int .i64 b, .int .i64 (-1), .int .i64 0, .int .i64 1, .int .i64 16, .int .i64 17, .int .i64 64, .int .i64 65] 3)).heap.size := by simp; omega
  clear hb0' hb1' hrow7 hW7
  obtain ⟨p0, p1, p2, p3, p4, p5⟩ := six hb0.out
  have HBI := Lib.hid (And.intro hb0.out hb1.out)
  by_cases h1 : (n6 : Int) ≤ 1
  · skip
    go_wp2_with fail
    obtain ⟨i, hi, HII⟩ : ∃ i : Nat, (0 < n6 → i < n6) ∧ Hid (∀ W, Calls Try.prog 24 #[.int .i64 a, .int .i64 1] W fun e w' => e = .returned (.int .i64 (i : Int)) ∧ w' = W) := by
      obtain ⟨i, hi, hI⟩ := HI.out 1 (by omega) (by omega)
      exact ⟨i, by omega, Lib.hid (fun W => around_lit 1 1 rfl hI W)⟩
    have Hi := Lib.hid hi
    clear hi
    refine Calls.mono (HII.out _) ?_
    rintro e w8 ⟨rfl, rfl⟩
    go_wp2_with fail
    refine Calls.mono (HA9.out _) ?_
    rintro e w8 ⟨rfl, rfl⟩
    generalize w7.alloc (.cells #[.int .i64 b, .int .i64 (-1), .int .i64 0, .int .i64 1, .int .i64 16, .int .i64 17, .int .i64 64, .int .i64 65] 3) = w8 at *
    clear hcell HS67 hz7 HII HI
    obtain ⟨z0, z1, z2, z3, z4, z5⟩ := six hb1.out
    have hf0 := blk_frozen hb0.out
    have hf1 := blk_frozen hb1.out
    rcases (show q = 0 ∨ q = 1 ∨ q = 2 ∨ q = 3 ∨ q = 4 ∨ q = 5 ∨ q = 6 ∨ q = 7 ∨ q = 8 by omega) with rfl | rfl | rfl | rfl | rfl | rfl | rfl | rfl | rfl
    · skip
      go_wp2_with fail
      refine bodyPost_ret (v := .agg #[.int .i64 (nn), .int .i64 (n), .int .i64 (ix), .int .u64 (u), .string (s), .slice A6 n6 c6]) (by simp [results, Try.results39, go_sem, z0, z1, z2, z3, z4, z5]) rfl ?_
      have hok := Hok.out
      have e9 := HML.out
      have hmm : m.length ≤ m.length + 1 := Nat.le_succ _
      exact spo_end (x := (⟨k, n, ix, u, s, m⟩ : Va)) rfl (hW.out.setCell (p := ⟨w.heap.size, 0, none⟩) (Nat.le_refl _) (.int .i64 nn)) ⟨nn, n, ix, u, s, m⟩ ⟨Nat.le_add_right _ 2, hmm⟩ ⟨⟨HNN.out, hok.1.2⟩, hok.2⟩ e9 hC6.out (enl_set (e9 ▸ hrow.out).list 0 (.int .i64 nn)) _ _ _ _ _ _
    · skip
      go_wp2_with fail
      refine bodyPost_ret (v := .agg #[.int .i64 (k), .int .i64 (nn), .int .i64 (ix), .int .u64 (u), .string (s), .slice A6 n6 c6]) (by simp [results, Try.results39, go_sem, z0, z1, z2, z3, z4, z5]) rfl ?_
      have hok := Hok.out
      have e9 := HML.out
      have hmm : m.length ≤ m.length + 1 := Nat.le_succ _
      exact spo_end (x := (⟨k, n, ix, u, s, m⟩ : Va)) rfl (hW.out.setCell (p := ⟨w.heap.size, 1, none⟩) (Nat.le_refl _) (.int .i64 nn)) ⟨k, nn, ix, u, s, m⟩ ⟨Nat.le_add_right _ 2, hmm⟩ ⟨⟨hok.1.1, HNN.out, hok.1.2.2⟩, hok.2⟩ e9 hC6.out (enl_set (e9 ▸ hrow.out).list 1 (.int .i64 nn)) _ _ _ _ _ _
    · skip
      go_wp2_with fail
      refine bodyPost_ret (v := .agg #[.int .i64 (k), .int .i64 (n), .int .i64 (nn), .int .u64 (u), .string (s), .slice A6 n6 c6]) (by simp [results, Try.results39, go_sem, z0, z1, z2, z3, z4, z5]) rfl ?_
      have hok := Hok.out
      have e9 := HML.out
      have hmm : m.length ≤ m.length + 1 := Nat.le_succ _
      exact spo_end (x := (⟨k, n, ix, u, s, m⟩ : Va)) rfl (hW.out.setCell (p := ⟨w.heap.size, 2, none⟩) (Nat.le_refl _) (.int .i64 nn)) ⟨k, n, nn, u, s, m⟩ ⟨Nat.le_add_right _ 2, hmm⟩ ⟨⟨hok.1.1, hok.1.2.1, HNN.out⟩, hok.2⟩ e9 hC6.out (enl_set (e9 ▸ hrow.out).list 2 (.int .i64 nn)) _ _ _ _ _ _
    · skip
      go_wp2_with fail
      refine bodyPost_ret (v := .agg #[.int .i64 (k), .int .i64 (n), .int .i64 (ix), .int .u64 (IntKind.u64.wrap (u + IntKind.u64.wrap nn)), .string (s), .slice A6 n6 c6]) (by simp [results, Try.results39, go_sem, z0, z1, z2, z3, z4, z5]) rfl ?_
      have hok := Hok.out
      have e9 := HML.out
      have hmm : m.length ≤ m.length + 1 := Nat.le_succ _
      exact spo_end (x := (⟨k, n, ix, u, s, m⟩ : Va)) rfl (hW.out.setCell (p := ⟨w.heap.size, 3, none⟩) (Nat.le_refl _) (.int .u64 (IntKind.u64.wrap (u + IntKind.u64.wrap nn)))) ⟨k, n, ix, IntKind.u64.wrap (u + IntKind.u64.wrap nn), s, m⟩ ⟨Nat.le_add_right _ 2, hmm⟩ ⟨hok.1, u64_wrap _, hok.2.2⟩ e9 hC6.out (enl_set (e9 ▸ hrow.out).list 3 (.int .u64 (IntKind.u64.wrap (u + IntKind.u64.wrap nn)))) _ _ _ _ _ _
    · skip
      have hss : ¬ 9223372036854775807 < s.size + 1 := by have := Hs.out; omega
      go_wp2_with fail
      refine bodyPost_ret (v := .agg #[.int .i64 (k), .int .i64 (n), .int .i64 (ix), .int .u64 (u), .string (s ++ ⟨#[120]⟩), .slice A6 n6 c6]) (by simp [results, Try.results39, go_sem, z0, z1, z2, z3, z4, z5]) rfl ?_
      have hok := Hok.out
      have e9 := HML.out
      have hmm : m.length ≤ m.length + 1 := Nat.le_succ _
      exact spo_end (x := (⟨k, n, ix, u, s, m⟩ : Va)) rfl (hW.out.setCell (p := ⟨w.heap.size, 4, none⟩) (Nat.le_refl _) (.string (s ++ ⟨#[120]⟩))) ⟨k, n, ix, u, s ++ ⟨#[120]⟩, m⟩ ⟨by show (s ++ _).size ≤ s.size + 2; rw [ByteArray.size_append]; show s.size + 1 ≤ _; omega, hmm⟩ ⟨hok.1, hok.2.1, (by show (s ++ _).size ≤ _; rw [ByteArray.size_append]; have := Hs.out; show s.size + 1 ≤ _; omega), hok.2.2.2⟩ e9 hC6.out (enl_set (e9 ▸ hrow.out).list 4 (.string (s ++ ⟨#[120]⟩))) _ _ _ _ _ _
    · skip
      have HRn : RowE (w8.alloc (.cells #[.int .u64 (IntKind.u64.wrap nn), .int .u64 1, .string ⟨#[]⟩] 84)) (w.heap.size + 2) 84 (.slice A6 n6 c6) m := hrow.out.below ((Below.refl _ _).alloc (Nat.le_refl _) _)
      have HNn : EnL (w8.alloc (.cells #[.int .u64 (IntKind.u64.wrap nn), .int .u64 1, .string ⟨#[]⟩] 84)) (fun _ => True) [(⟨IntKind.u64.wrap nn, 1, ⟨#[]⟩⟩ : En)] (some ⟨w8.heap.size, 0, none⟩) := enl_one (heap_alloc_new w8 (.cells #[.int .u64 (IntKind.u64.wrap nn), .int .u64 1, .string ⟨#[]⟩] 84)) trivial
      have HBn : w.heap.size + 2 ≤ (w8.alloc (.cells #[.int .u64 (IntKind.u64.wrap nn), .int .u64 1, .string ⟨#[]⟩] 84)).heap.size := by simp; omega
      have hcub := hrow.out.blk
      have HLn := Lib.hid (show ∀ w9, (w8.alloc (.cells #[.int .u64 (IntKind.u64.wrap nn), .int .u64 1, .string ⟨#[]⟩] 84)).grownBy w9 (Value.slice A6 n6 c6).ownBlock → ∀ B, B < w.heap.size + 2 → w9.heap[B]? = w8.heap[B]? from fun w9 hg B hB => (grown_lowv hg hcub hB HBn).trans (Below.heap_alloc w8 _ B (by omega)))
      have HWn := Lib.hid (show ∀ w9, (w8.alloc (.cells #[.int .u64 (IntKind.u64.wrap nn), .int .u64 1, .string ⟨#[]⟩] 84)).grownBy w9 (Value.slice A6 n6 c6).ownBlock → Below w.heap.size w w9 from fun w9 hg => (hW.out.trans (((Below.refl w8.heap.size w8).alloc (Nat.le_refl _) (.cells #[.int .u64 (IntKind.u64.wrap nn), .int .u64 1, .string ⟨#[]⟩] 84)).mono hW.out.size)).trans ((Below.refl _ _).grown hg (by simp; omega) (fun j ej => by have := hcub j ej; omega)))
      have HLm := Lib.hid (show m.length + 1 ≤ maxLen ∧ (m.length + 1) * 32 ≤ 140737488355328 from by rw [← HML.out]; unfold maxLen; exact ⟨by omega, by omega⟩)
      clear hcub
      go_wp2_with (at_builtin; refine wpList_append_en _ rfl _ _ 28 rfl (w.heap.size + 2) 84 i0 (.agg #[.int .u64 0, .int .u64 0, .string ⟨#[]⟩]) 32 Try.underlying28 hi0 hz0 hz1 hz2 rfl (.slice A6 n6 c6) m rfl HRn (fun _ => True) (some ⟨w8.heap.size, 0, none⟩) 1 1 [(⟨IntKind.u64.wrap nn, 1, ⟨#[]⟩⟩ : En)] rfl rfl (fun h => by cases h) (Nat.le_refl _) HNn HLm.out.1 HLm.out.2 HBn ?_; intro A9 n9 c9 w9 h9 hrow9 hg9; have hb90 := (HLn.out w9 hg9 w.heap.size (by omega)).trans hb0.out; have hb91 := (HLn.out w9 hg9 (w.heap.size + 1) (by omega)).trans hb1.out; have hf90 := blk_frozen hb90; have hf91 := blk_frozen hb91; obtain ⟨z90, z91, z92, z93, z94, z95⟩ := six hb91; obtain ⟨p90, p91, p92, p93, p94, p95⟩ := six hb90; clear hb90 hb91)
      refine bodyPost_ret (v := .agg #[.int .i64 (k), .int .i64 (n), .int .i64 (ix), .int .u64 (u), .string (s), .slice A9 n9 c9]) (by simp [results, Try.results39, go_sem, z90, z91, z92, z93, z94, z95]) rfl ?_
      have hok := Hok.out
      have e9 := HML.out
      have hmm : m.length ≤ m.length + 1 := Nat.le_succ _
      exact spo_end (x := (⟨k, n, ix, u, s, m⟩ : Va)) rfl ((HWn.out w9 hg9).setCell (p := ⟨w.heap.size, 5, none⟩) (Nat.le_refl _) (.slice A9 n9 c9)) ⟨k, n, ix, u, s, m ++ [(⟨IntKind.u64.wrap nn, 1, ⟨#[]⟩⟩ : En)]⟩ ⟨Nat.le_add_right _ 2, by show (m ++ _).length ≤ m.length + 1; simp⟩ ⟨hok.1, hok.2.1, hok.2.2.1, fun e he => (by
        rcases List.mem_append.1 he with h | h
        · exact hok.2.2.2.1 e h
        · rw [List.mem_singleton.1 h]; exact ⟨u64_wrap _, (show U64 1 from ⟨by decide, by decide⟩), (show ByteArray.size ⟨#[]⟩ ≤ 1000000 from by decide)⟩), by show (m ++ _).length ≤ 100000; simp; omega⟩ h9.out.1 h9.out.2 (enl_set (h9.out.1 ▸ hrow9).list 5 _) _ _ _ _ _ _
    · skip
      have HRn : RowE (w8.alloc (.cells #[.int .u64 (IntKind.u64.wrap nn), .int .u64 0, .string ⟨#[121]⟩] 84)) (w.heap.size + 2) 84 (.slice A6 n6 c6) m := hrow.out.below ((Below.refl _ _).alloc (Nat.le_refl _) _)
      have HNn : EnL (w8.alloc (.cells #[.int .u64 (IntKind.u64.wrap nn), .int .u64 0, .string ⟨#[121]⟩] 84)) (fun _ => True) [(⟨IntKind.u64.wrap nn, 0, ⟨#[121]⟩⟩ : En)] (some ⟨w8.heap.size, 0, none⟩) := enl_one (heap_alloc_new w8 (.cells #[.int .u64 (IntKind.u64.wrap nn), .int .u64 0, .string ⟨#[121]⟩] 84)) trivial
      have HBn : w.heap.size + 2 ≤ (w8.alloc (.cells #[.int .u64 (IntKind.u64.wrap nn), .int .u64 0, .string ⟨#[121]⟩] 84)).heap.size := by simp; omega
      have hcub := hrow.out.blk
      have HLn := Lib.hid (show ∀ w9, (w8.alloc (.cells #[.int .u64 (IntKind.u64.wrap nn), .int .u64 0, .string ⟨#[121]⟩] 84)).grownBy w9 (Value.slice A6 n6 c6).ownBlock → ∀ B, B < w.heap.size + 2 → w9.heap[B]? = w8.heap[B]? from fun w9 hg B hB => (grown_lowv hg hcub hB HBn).trans (Below.heap_alloc w8 _ B (by omega)))
      have HWn := Lib.hid (show ∀ w9, (w8.alloc (.cells #[.int .u64 (IntKind.u64.wrap nn), .int .u64 0, .string ⟨#[121]⟩] 84)).grownBy w9 (Value.slice A6 n6 c6).ownBlock → Below w.heap.size w w9 from fun w9 hg => (hW.out.trans (((Below.refl w8.heap.size w8).alloc (Nat.le_refl _) (.cells #[.int .u64 (IntKind.u64.wrap nn), .int .u64 0, .string ⟨#[121]⟩] 84)).mono hW.out.size)).trans ((Below.refl _ _).grown hg (by simp; omega) (fun j ej => by have := hcub j ej; omega)))
      have HLm := Lib.hid (show m.length + 1 ≤ maxLen ∧ (m.length + 1) * 32 ≤ 140737488355328 from by rw [← HML.out]; unfold maxLen; exact ⟨by omega, by omega⟩)
      clear hcub
      go_wp2_with (at_builtin; refine wpList_append_en _ rfl _ _ 28 rfl (w.heap.size + 2) 84 i0 (.agg #[.int .u64 0, .int .u64 0, .string ⟨#[]⟩]) 32 Try.underlying28 hi0 hz0 hz1 hz2 rfl (.slice A6 n6 c6) m rfl HRn (fun _ => True) (some ⟨w8.heap.size, 0, none⟩) 1 1 [(⟨IntKind.u64.wrap nn, 0, ⟨#[121]⟩⟩ : En)] rfl rfl (fun h => by cases h) (Nat.le_refl _) HNn HLm.out.1 HLm.out.2 HBn ?_; intro A9 n9 c9 w9 h9 hrow9 hg9; have hb90 := (HLn.out w9 hg9 w.heap.size (by omega)).trans hb0.out; have hb91 := (HLn.out w9 hg9 (w.heap.size + 1) (by omega)).trans hb1.out; have hf90 := blk_frozen hb90; have hf91 := blk_frozen hb91; obtain ⟨z90, z91, z92, z93, z94, z95⟩ := six hb91; obtain ⟨p90, p91, p92, p93, p94, p95⟩ := six hb90; clear hb90 hb91)
      refine bodyPost_ret (v := .agg #[.int .i64 (k), .int .i64 (n), .int .i64 (ix), .int .u64 (u), .string (s), .slice A9 n9 c9]) (by simp [results, Try.results39, go_sem, z90, z91, z92, z93, z94, z95]) rfl ?_
      have hok := Hok.out
      have e9 := HML.out
      have hmm : m.length ≤ m.length + 1 := Nat.le_succ _
      exact spo_end (x := (⟨k, n, ix, u, s, m⟩ : Va)) rfl ((HWn.out w9 hg9).setCell (p := ⟨w.heap.size, 5, none⟩) (Nat.le_refl _) (.slice A9 n9 c9)) ⟨k, n, ix, u, s, m ++ [(⟨IntKind.u64.wrap nn, 0, ⟨#[121]⟩⟩ : En)]⟩ ⟨Nat.le_add_right _ 2, by show (m ++ _).length ≤ m.length + 1; simp⟩ ⟨hok.1, hok.2.1, hok.2.2.1, fun e he => (by
        rcases List.mem_append.1 he with h | h
        · exact hok.2.2.2.1 e h
        · rw [List.mem_singleton.1 h]; exact ⟨u64_wrap _, (show U64 0 from ⟨by decide, by decide⟩), (show ByteArray.size ⟨#[121]⟩ ≤ 1000000 from by decide)⟩), by show (m ++ _).length ≤ 100000; simp; omega⟩ h9.out.1 h9.out.2 (enl_set (h9.out.1 ▸ hrow9).list 5 _) _ _ _ _ _ _
    · skip
      by_cases hp : 0 < n6
      · have gp : decide (0 < (n6 : Int)) = true := decide_eq_true (by omega)
        have him := Hi.out hp
        have hiI : (i : Int) < (n6 : Int) := by omega
        have hi0' : (0 : Int) ≤ (i : Int) := by omega
        have hrow' : RowE w8 (w.heap.size + 2) 84 (.slice A6 m.length c6) m := HML.out ▸ hrow.out
        obtain ⟨g, rfl, hgN, hgl, hAt, hfr, hset⟩ := hrow'.lies (by rw [← HML.out]; exact hp)
        obtain ⟨ocv, hcl⟩ : ∃ v, w8.cell? ⟨g, i * 3 + 1, none⟩ = some v := ⟨_, (hAt i (by rw [← HML.out]; exact him)).2.1⟩
        have hfg := hfr (i * 3 + 1)
        have hng : ¬ w.heap.size = g := by omega
        have hng2 : ¬ w.heap.size + 1 = g := by omega
        have hgn : ¬ g = w.heap.size := by omega
        have hgn2 : ¬ g = w.heap.size + 1 := by omega
        have HSET := Lib.hid hset
        have HG := Lib.hid (And.intro hgN hgl)
        have HIM := Lib.hid him
        clear hset hAt hfr hgN hgl hrow' him hp h1
        go_wp2_with fail
        refine bodyPost_ret (v := .agg #[.int .i64 (k), .int .i64 (n), .int .i64 (ix), .int .u64 (u), .string (s), .slice (some ⟨g, 0, none⟩) n6 c6]) (by simp [results, Try.results39, go_sem, z0, z1, z2, z3, z4, z5]) rfl ?_
        have hok := Hok.out
        have e9 := HML.out
        have hmm : m.length ≤ m.length + 1 := Nat.le_succ _
        have hml : i < m.length := by rw [← e9]; exact HIM.out
        have hfin := HSET.out (m.set i ⟨(m[i]'(by rw [← e9]; exact HIM.out)).i, IntKind.u64.wrap nn, (m[i]'(by rw [← e9]; exact HIM.out)).s⟩) (i * 3 + 1) (.int .u64 (IntKind.u64.wrap nn)) (ens_set_u _ m i hml)
        exact spo_end (x := (⟨k, n, ix, u, s, m⟩ : Va)) rfl (hW.out.setCell (p := ⟨g, i * 3 + 1, none⟩) (by have := HG.out.1; show _ ≤ g; omega) (.int .u64 (IntKind.u64.wrap nn))) ⟨k, n, ix, u, s, m.set i ⟨(m[i]'(by rw [← e9]; exact HIM.out)).i, IntKind.u64.wrap nn, (m[i]'(by rw [← e9]; exact HIM.out)).s⟩⟩ ⟨Nat.le_add_right _ 2, by show (m.set _ _).length ≤ m.length + 1; simp⟩ ⟨hok.1, hok.2.1, hok.2.2.1, fun e he => (by
          rcases List.mem_or_eq_of_mem_set he with h | h
          · exact hok.2.2.2.1 e h
          · rw [h]; exact ⟨(hok.2.2.2.1 _ (List.getElem_mem (by rw [← e9]; exact HIM.out))).1, u64_wrap _, (hok.2.2.2.1 _ (List.getElem_mem (by rw [← e9]; exact HIM.out))).2.2⟩), by show (m.set _ _).length ≤ 100000; simp; omega⟩ (by show n6 = (m.set _ _).length; rw [List.length_set]; exact e9) hC6.out (hfin.to (fun b hb => ⟨⟨hb.1, by simpa [World.setCell] using hb.2⟩, rfl⟩)) _ _ _ _ _ _
      · have gp : decide (0 < (n6 : Int)) = false := decide_eq_false (by omega)
        clear h1
        go_wp2_with fail
        refine bodyPost_ret (v := .agg #[.int .i64 (k), .int .i64 (n), .int .i64 (ix), .int .u64 (u), .string (s), .slice A6 n6 c6]) (by simp [results, Try.results39, go_sem, z0, z1, z2, z3, z4, z5]) rfl ?_
        have hok := Hok.out
        have e9 := HML.out
        have hmm : m.length ≤ m.length + 1 := Nat.le_succ _
        exact spo_end (x := (⟨k, n, ix, u, s, m⟩ : Va)) rfl hW.out ⟨k, n, ix, u, s, m⟩ ⟨Nat.le_add_right _ 2, hmm⟩ hok e9 hC6.out (e9 ▸ hrow.out).list _ _ _ _ _ _
    · skip
      by_cases hp : 0 < n6
      · have gp : decide (0 < (n6 : Int)) = true := decide_eq_true (by omega)
        have him := Hi.out hp
        have hiI : (i : Int) < (n6 : Int) := by omega
        have hi0' : (0 : Int) ≤ (i : Int) := by omega
        have hrow' : RowE w8 (w.heap.size + 2) 84 (.slice A6 m.length c6) m := HML.out ▸ hrow.out
        obtain ⟨g, rfl, hgN, hgl, hAt, hfr, hset⟩ := hrow'.lies (by rw [← HML.out]; exact hp)
        obtain ⟨ocv, hcl⟩ : ∃ v, w8.cell? ⟨g, i * 3 + 2, none⟩ = some v := ⟨_, (hAt i (by rw [← HML.out]; exact him)).2.2⟩
        have hfg := hfr (i * 3 + 2)
        have hng : ¬ w.heap.size = g := by omega
        have hng2 : ¬ w.heap.size + 1 = g := by omega
        have hgn : ¬ g = w.heap.size := by omega
        have hgn2 : ¬ g = w.heap.size + 1 := by omega
        have HSET := Lib.hid hset
        obtain ⟨g2, hg2, _, _, _, _, hset8⟩ := (hrow'.below ((Below.refl w8.heap.size w8).alloc (Nat.le_refl _) (.cells #[.string ⟨#[]⟩, .string ⟨#[122]⟩, .string ⟨#[122, 122]⟩] 9))).lies (by rw [← HML.out]; exact hp)
        obtain rfl : g = g2 := by injection hg2 with e; injection e
        have HSET : Hid (∀ (l2 : List En) (p : Nat) (u : Value), l2.flatMap En.cells = (m.flatMap En.cells).set p u → EnL ((w8.alloc (.cells #[.string ⟨#[]⟩, .string ⟨#[122]⟩, .string ⟨#[122, 122]⟩] 9)).setCell ⟨g, p, none⟩ u) (fun b => w.heap.size + 2 ≤ b ∧ b < (w8.alloc (.cells #[.string ⟨#[]⟩, .string ⟨#[122]⟩, .string ⟨#[122, 122]⟩] 9)).heap.size) l2 (some ⟨g, 0, none⟩)) := Lib.hid hset8
        clear hset8
        have HG := Lib.hid (And.intro hgN hgl)
        have HIM := Lib.hid him
        clear hset hAt hfr hgN hgl hrow' him hp h1
        have hr0 : (0 : Int) ≤ (r : Int) := by omega
        have hr3 : (r : Int) < 3 := by omega
        obtain ⟨zt, hzt, hzc⟩ : ∃ zt : ByteArray, zt.size ≤ 2 ∧ #[Value.string ⟨#[]⟩, .string ⟨#[122]⟩, .string ⟨#[122, 122]⟩][r]? = some (.string zt) := by
          rcases (show r = 0 ∨ r = 1 ∨ r = 2 by omega) with rfl | rfl | rfl
          · exact ⟨⟨#[]⟩, by decide, rfl⟩
          · exact ⟨⟨#[122]⟩, by decide, rfl⟩
          · exact ⟨⟨#[122, 122]⟩, by decide, rfl⟩
        have HZT := Lib.hid hzt
        have hcz : ((w8.alloc (.cells #[.string ⟨#[]⟩, .string ⟨#[122]⟩, .string ⟨#[122, 122]⟩] 9)).drew).cell? ⟨w8.heap.size, r, none⟩ = some (.string zt) := by rw [show w8.heap.size = w8.drew.heap.size from rfl, cell_of_row ((w8.alloc (.cells #[.string ⟨#[]⟩, .string ⟨#[122]⟩, .string ⟨#[122, 122]⟩] 9)).drew) _ r _ _ _ (heap_alloc_new w8.drew _)]; exact hzc
        clear hzt hzc
        have p59 : ((w8.alloc (.cells #[.string ⟨#[]⟩, .string ⟨#[122]⟩, .string ⟨#[122, 122]⟩] 9)).drew).cell? ⟨w.heap.size, 5, none⟩ = some (.slice (some ⟨g, 0, none⟩) n6 c6) := (cell_oldv (w := w8.drew) (by show _ < w8.heap.size; omega) _).trans p5
        have hb81 : (w8.alloc (.cells #[.string ⟨#[]⟩, .string ⟨#[122]⟩, .string ⟨#[122, 122]⟩] 9)).heap[w.heap.size + 1]? = _ := (heap_alloc_old w8.drew (.cells #[.string ⟨#[]⟩, .string ⟨#[122]⟩, .string ⟨#[122, 122]⟩] 9) (w.heap.size + 1) (by show _ < w8.heap.size; omega)).trans hb1.out
        have hb80 : (w8.alloc (.cells #[.string ⟨#[]⟩, .string ⟨#[122]⟩, .string ⟨#[122, 122]⟩] 9)).heap[w.heap.size]? = _ := (heap_alloc_old w8.drew (.cells #[.string ⟨#[]⟩, .string ⟨#[122]⟩, .string ⟨#[122, 122]⟩] 9) w.heap.size (by show _ < w8.heap.size; omega)).trans hb0.out
        obtain ⟨z80, z81, z82, z83, z84, z85⟩ := six hb81
        obtain ⟨p80, p81, p82, p83, p84, p85⟩ := six hb80
        have hf80 := blk_frozen hb80
        have hf81 := blk_frozen hb81
        have hcl8 : ((w8.alloc (.cells #[.string ⟨#[]⟩, .string ⟨#[122]⟩, .string ⟨#[122, 122]⟩] 9)).drew).cell? ⟨g, i * 3 + 2, none⟩ = some ocv := (cell_oldv (w := w8.drew) (B := g) (i := i * 3 + 2) (by show _ < w8.heap.size; exact HG.out.2) (.cells #[.string ⟨#[]⟩, .string ⟨#[122]⟩, .string ⟨#[122, 122]⟩] 9)).trans hcl
        have hfg8 : ((w8.alloc (.cells #[.string ⟨#[]⟩, .string ⟨#[122]⟩, .string ⟨#[122, 122]⟩] 9)).drew).frozen? ⟨g, i * 3 + 2, none⟩ = false := (frozen_oldv (w := w8.drew) (B := g) (i := i * 3 + 2) (by show _ < w8.heap.size; exact HG.out.2) (.cells #[.string ⟨#[]⟩, .string ⟨#[122]⟩, .string ⟨#[122, 122]⟩] 9)).trans hfg
        have hcl9 : (w8.alloc (.cells #[.string ⟨#[]⟩, .string ⟨#[122]⟩, .string ⟨#[122, 122]⟩] 9)).cell? ⟨g, i * 3 + 2, none⟩ = some ocv := hcl8
        have hfg9 : (w8.alloc (.cells #[.string ⟨#[]⟩, .string ⟨#[122]⟩, .string ⟨#[122, 122]⟩] 9)).frozen? ⟨g, i * 3 + 2, none⟩ = false := hfg8
        replace hb80 := Lib.hid hb80
        replace hb81 := Lib.hid hb81
        have p69 : (((w8.alloc (.cells #[.string ⟨#[]⟩, .string ⟨#[122]⟩, .string ⟨#[122, 122]⟩] 9)).drew).setCell ⟨g, i * 3 + 2, none⟩ (.string zt)).cell? ⟨w.heap.size, 5, none⟩ = some (.slice (some ⟨g, 0, none⟩) n6 c6) := (World.cell?_setCell_far _ _ _ _ (by simp; omega)).trans p59
        have q59 : w8.drew.cell? ⟨w.heap.size, 5, none⟩ = some (.slice (some ⟨g, 0, none⟩) n6 c6) := p5
        go_wp2_with fail
        refine wp_region_held_drew (S := fun W => W.cell? ⟨w.heap.size, 5, none⟩ = some (.slice (some ⟨g, 0, none⟩) n6 c6)) (by kernel_rfl) q59 (fun hHeld => ?_)
        (try simp only [List.size_toArray, List.length_cons, List.length_nil, Nat.zero_add, Nat.reduceAdd])
        refine wpAnyH_takeL (i := 0) (v := ?v1) rfl (by kernel_rfl) (by kernel_rfl) (by kernel_rfl) (fun _ _ _ h => h) (Or.inl ⟨by rfl, ?y1⟩) (by assumption) ?r1
        case y1 => (intro W hSw; (try dsimp only at hSw); go_simp; try with_reducible rfl)
        (try simp only [Act.put, List.setIfInBounds_toArray, List.set_cons_zero, List.set_cons_succ])
        refine wpAnyH_takeL (i := 1) (v := ?v2) rfl (by kernel_rfl) (by kernel_rfl) (by kernel_rfl) (fun _ _ _ h => h) (Or.inl ⟨by rfl, ?y2⟩) (by assumption) ?r2
        case y2 => (intro W hSw; (try dsimp only at hSw); go_simp; try with_reducible rfl)
        (try simp only [Act.put, List.setIfInBounds_toArray, List.set_cons_zero, List.set_cons_succ])
        refine wpAnyH_takeL (i := 2) (v := ?v3) rfl (by kernel_rfl) (by kernel_rfl) (by kernel_rfl) (fun _ _ _ h => h) (Or.inl ⟨by rfl, ?y3⟩) (by assumption) ?r3
        case y3 => (intro W hSw; (try dsimp only at hSw); go_simp; try with_reducible rfl)
        (try simp only [Act.put, List.setIfInBounds_toArray, List.set_cons_zero, List.set_cons_succ])
        refine wpAnyH_takeL (i := 4) (v := ?v4) rfl (by kernel_rfl) (by kernel_rfl) (by kernel_rfl) (fun _ _ _ h => h) (Or.inl ⟨by rfl, ?y4⟩) (by assumption) ?r4
        case y4 => (intro W hSw; (try dsimp only at hSw); go_simp; try with_reducible rfl)
        (try simp only [Act.put, List.setIfInBounds_toArray, List.set_cons_zero, List.set_cons_succ])
        refine wpAnyH_ready (rs := [3, 5]) (by kernel_rfl) (by simp) ?_
        refine consL rfl (fun K hK => ?_) (consL rfl (fun K hK => ?_) AllReadyH.nil)
        · skip
          go_simp
          refine hK.out _ _ p59 (fun hHeld => ?_)
          clear hK K
          (try simp only [Act.put, List.setIfInBounds_toArray, List.set_cons_zero, List.set_cons_succ])
          refine wpAnyH_ready (rs := [5]) (by kernel_rfl) (by simp) ?_
          refine consL rfl (fun K hK => ?_) AllReadyH.nil
          go_simp
          refine Calls.mono (HA3.out _) ?_
          rintro e w9 ⟨rfl, rfl⟩
          (try dsimp only)
          refine hK.out _ _ p59 (fun hHeld => ?_)
          clear hK K
          (try simp only [Act.put, List.setIfInBounds_toArray, List.set_cons_zero, List.set_cons_succ])
          refine wpAnyH_takeL (i := 6) (v := ?v5) rfl (by kernel_rfl) (by kernel_rfl) (by kernel_rfl) (fun _ _ _ h => h) (Or.inl ⟨by rfl, ?y5⟩) (by assumption) ?r5
          case y5 => (intro W hSw; (try dsimp only at hSw); go_simp; try with_reducible rfl)
          (try simp only [Act.put, List.setIfInBounds_toArray, List.set_cons_zero, List.set_cons_succ])
          refine wpAnyH_ready (rs := [7]) (by kernel_rfl) (by simp) ?_
          refine consL rfl (fun K hK => ?_) AllReadyH.nil
          go_simp
          refine hK.out _ _ p59 (fun hHeld => ?_)
          clear hK K
          (try simp only [Act.put, List.setIfInBounds_toArray, List.set_cons_zero, List.set_cons_succ])
          refine wpAnyH_takeL (i := 8) (v := ?v6) rfl (by kernel_rfl) (by kernel_rfl) (by kernel_rfl) (fun _ _ _ h => h) (Or.inl ⟨by rfl, ?y6⟩) (by assumption) ?r6
          case y6 => (intro W hSw; (try dsimp only at hSw); go_simp; try with_reducible rfl)
          (try simp only [Act.put, List.setIfInBounds_toArray, List.set_cons_zero, List.set_cons_succ])
          refine wpAnyH_takeL (i := 9) (v := ?v7) rfl (by kernel_rfl) (by kernel_rfl) (by kernel_rfl) (fun _ _ _ h => h) (Or.inl ⟨by rfl, ?y7⟩) (by assumption) ?r7
          case y7 => (intro W hSw; (try dsimp only at hSw); go_simp; try with_reducible rfl)
          (try simp only [Act.put, List.setIfInBounds_toArray, List.set_cons_zero, List.set_cons_succ])
          refine wpAnyH_ready (rs := [10]) (by kernel_rfl) (by simp) ?_
          refine consL rfl (fun K hK => ?_) AllReadyH.nil
          go_simp
          refine hK.out _ _ p69 (fun hHeld => ?_)
          clear hK K
          (try simp only [Act.put, List.setIfInBounds_toArray, List.set_cons_zero, List.set_cons_succ])
          refine wpAnyH_done (by kernel_rfl) ?_ _
          go_wp2_with fail
          refine bodyPost_ret (v := .agg #[.int .i64 (k), .int .i64 (n), .int .i64 (ix), .int .u64 (u), .string (s), .slice (some ⟨g, 0, none⟩) n6 c6]) (by simp [results, Try.results39, go_sem, z80, z81, z82, z83, z84, z85]) rfl ?_
          have hok := Hok.out
          have e9 := HML.out
          have hmm : m.length ≤ m.length + 1 := Nat.le_succ _
          have hml : i < m.length := by rw [← e9]; exact HIM.out
          have hfin := HSET.out (m.set i ⟨(m[i]'(by rw [← e9]; exact HIM.out)).i, (m[i]'(by rw [← e9]; exact HIM.out)).u, zt⟩) (i * 3 + 2) (.string zt) (ens_set_s _ m i hml)
          have hW8 : Below w.heap.size w (w8.alloc (.cells #[.string ⟨#[]⟩, .string ⟨#[122]⟩, .string ⟨#[122, 122]⟩] 9)) := hW.out.alloc hW.out.size (.cells #[.string ⟨#[]⟩, .string ⟨#[122]⟩, .string ⟨#[122, 122]⟩] 9)
          have hfin2 := hfin.to (T := fun b => w.heap.size + 2 ≤ b ∧ b < ((w8.alloc (.cells #[.string ⟨#[]⟩, .string ⟨#[122]⟩, .string ⟨#[122, 122]⟩] 9)).setCell ⟨g, i * 3 + 2, none⟩ (.string zt)).heap.size) (fun b hb => ⟨⟨hb.1, by simpa [World.setCell] using hb.2⟩, rfl⟩)
          exact SpoPost.drew (spo_end (x := (⟨k, n, ix, u, s, m⟩ : Va)) rfl (hW8.setCell (p := ⟨g, i * 3 + 2, none⟩) (by have := HG.out.1; show _ ≤ g; omega) (.string zt)) ⟨k, n, ix, u, s, m.set i ⟨(m[i]'(by rw [← e9]; exact HIM.out)).i, (m[i]'(by rw [← e9]; exact HIM.out)).u, zt⟩⟩ ⟨Nat.le_add_right _ 2, by show (m.set _ _).length ≤ m.length + 1; simp⟩ ⟨hok.1, hok.2.1, hok.2.2.1, fun e he => (by
            rcases List.mem_or_eq_of_mem_set he with h | h
            · exact hok.2.2.2.1 e h
            · rw [h]; exact ⟨(hok.2.2.2.1 _ (List.getElem_mem (by rw [← e9]; exact HIM.out))).1, (hok.2.2.2.1 _ (List.getElem_mem (by rw [← e9]; exact HIM.out))).2.1, Nat.le_trans HZT.out (by decide)⟩), by show (m.set _ _).length ≤ 100000; simp; omega⟩ (by show n6 = (m.set _ _).length; rw [List.length_set]; exact e9) hC6.out hfin2 _ _ _ _ _ _)
        · skip
          go_simp
          refine Calls.mono (HA3.out _) ?_
          rintro e w9 ⟨rfl, rfl⟩
          (try dsimp only)
          refine hK.out _ _ q59 (fun hHeld => ?_)
          clear hK K
          (try simp only [Act.put, List.setIfInBounds_toArray, List.set_cons_zero, List.set_cons_succ])
          refine wpAnyH_ready (rs := [3]) (by kernel_rfl) (by simp) ?_
          refine consL rfl (fun K hK => ?_) AllReadyH.nil
          go_simp
          refine hK.out _ _ p59 (fun hHeld => ?_)
          clear hK K
          (try simp only [Act.put, List.setIfInBounds_toArray, List.set_cons_zero, List.set_cons_succ])
          refine wpAnyH_takeL (i := 6) (v := ?v8) rfl (by kernel_rfl) (by kernel_rfl) (by kernel_rfl) (fun _ _ _ h => h) (Or.inl ⟨by rfl, ?y8⟩) (by assumption) ?r8
          case y8 => (intro W hSw; (try dsimp only at hSw); go_simp; try with_reducible rfl)
          (try simp only [Act.put, List.setIfInBounds_toArray, List.set_cons_zero, List.set_cons_succ])
          refine wpAnyH_ready (rs := [7]) (by kernel_rfl) (by simp) ?_
          refine consL rfl (fun K hK => ?_) AllReadyH.nil
          go_simp
          refine hK.out _ _ p59 (fun hHeld => ?_)
          clear hK K
          (try simp only [Act.put, List.setIfInBounds_toArray, List.set_cons_zero, List.set_cons_succ])
          refine wpAnyH_takeL (i := 8) (v := ?v9) rfl (by kernel_rfl) (by kernel_rfl) (by kernel_rfl) (fun _ _ _ h => h) (Or.inl ⟨by rfl, ?y9⟩) (by assumption) ?r9
          case y9 => (intro W hSw; (try dsimp only at hSw); go_simp; try with_reducible rfl)
          (try simp only [Act.put, List.setIfInBounds_toArray, List.set_cons_zero, List.set_cons_succ])
          refine wpAnyH_takeL (i := 9) (v := ?v10) rfl (by kernel_rfl) (by kernel_rfl) (by kernel_rfl) (fun _ _ _ h => h) (Or.inl ⟨by rfl, ?y10⟩) (by assumption) ?r10
          case y10 => (intro W hSw; (try dsimp only at hSw); go_simp; try with_reducible rfl)
          (try simp only [Act.put, List.setIfInBounds_toArray, List.set_cons_zero, List.set_cons_succ])
          refine wpAnyH_ready (rs := [10]) (by kernel_rfl) (by simp) ?_
          refine consL rfl (fun K hK => ?_) AllReadyH.nil
          go_simp
          refine hK.out _ _ p69 (fun hHeld => ?_)
          clear hK K
          (try simp only [Act.put, List.setIfInBounds_toArray, List.set_cons_zero, List.set_cons_succ])
          refine wpAnyH_done (by kernel_rfl) ?_ _
          go_wp2_with fail
          refine bodyPost_ret (v := .agg #[.int .i64 (k), .int .i64 (n), .int .i64 (ix), .int .u64 (u), .string (s), .slice (some ⟨g, 0, none⟩) n6 c6]) (by simp [results, Try.results39, go_sem, z80, z81, z82, z83, z84, z85]) rfl ?_
          have hok := Hok.out
          have e9 := HML.out
          have hmm : m.length ≤ m.length + 1 := Nat.le_succ _
          have hml : i < m.length := by rw [← e9]; exact HIM.out
          have hfin := HSET.out (m.set i ⟨(m[i]'(by rw [← e9]; exact HIM.out)).i, (m[i]'(by rw [← e9]; exact HIM.out)).u, zt⟩) (i * 3 + 2) (.string zt) (ens_set_s _ m i hml)
          have hW8 : Below w.heap.size w (w8.alloc (.cells #[.string ⟨#[]⟩, .string ⟨#[122]⟩, .string ⟨#[122, 122]⟩] 9)) := hW.out.alloc hW.out.size (.cells #[.string ⟨#[]⟩, .string ⟨#[122]⟩, .string ⟨#[122, 122]⟩] 9)
          have hfin2 := hfin.to (T := fun b => w.heap.size + 2 ≤ b ∧ b < ((w8.alloc (.cells #[.string ⟨#[]⟩, .string ⟨#[122]⟩, .string ⟨#[122, 122]⟩] 9)).setCell ⟨g, i * 3 + 2, none⟩ (.string zt)).heap.size) (fun b hb => ⟨⟨hb.1, by simpa [World.setCell] using hb.2⟩, rfl⟩)
          exact SpoPost.drew (spo_end (x := (⟨k, n, ix, u, s, m⟩ : Va)) rfl (hW8.setCell (p := ⟨g, i * 3 + 2, none⟩) (by have := HG.out.1; show _ ≤ g; omega) (.string zt)) ⟨k, n, ix, u, s, m.set i ⟨(m[i]'(by rw [← e9]; exact HIM.out)).i, (m[i]'(by rw [← e9]; exact HIM.out)).u, zt⟩⟩ ⟨Nat.le_add_right _ 2, by show (m.set _ _).length ≤ m.length + 1; simp⟩ ⟨hok.1, hok.2.1, hok.2.2.1, fun e he => (by
            rcases List.mem_or_eq_of_mem_set he with h | h
            · exact hok.2.2.2.1 e h
            · rw [h]; exact ⟨(hok.2.2.2.1 _ (List.getElem_mem (by rw [← e9]; exact HIM.out))).1, (hok.2.2.2.1 _ (List.getElem_mem (by rw [← e9]; exact HIM.out))).2.1, Nat.le_trans HZT.out (by decide)⟩), by show (m.set _ _).length ≤ 100000; simp; omega⟩ (by show n6 = (m.set _ _).length; rw [List.length_set]; exact e9) hC6.out hfin2 _ _ _ _ _ _)
      · have gp : decide (0 < (n6 : Int)) = false := decide_eq_false (by omega)
        clear h1
        go_wp2_with fail
        refine bodyPost_ret (v := .agg #[.int .i64 (k), .int .i64 (n), .int .i64 (ix), .int .u64 (u), .string (s), .slice A6 n6 c6]) (by simp [results, Try.results39, go_sem, z0, z1, z2, z3, z4, z5]) rfl ?_
        have hok := Hok.out
        have e9 := HML.out
        have hmm : m.length ≤ m.length + 1 := Nat.le_succ _
        exact spo_end (x := (⟨k, n, ix, u, s, m⟩ : Va)) rfl hW.out ⟨k, n, ix, u, s, m⟩ ⟨Nat.le_add_right _ 2, hmm⟩ hok e9 hC6.out (e9 ▸ hrow.out).list _ _ _ _ _ _
  · skip
    go_wp2_with fail
    obtain ⟨i, hi, HII⟩ : ∃ i : Nat, (0 < n6 → i < n6) ∧ Hid (∀ W, Calls Try.prog 24 #[.int .i64 a, .int .i64 n6] W fun e w' => e = .returned (.int .i64 (i : Int)) ∧ w' = W) := by
      obtain ⟨i, hi, hI⟩ := HI.out n6 (by omega) (by omega)
      exact ⟨i, by omega, Lib.hid hI⟩
    have Hi := Lib.hid hi
    clear hi
    refine Calls.mono (HII.out _) ?_
    rintro e w8 ⟨rfl, rfl⟩
    go_wp2_with fail
    refine Calls.mono (HA9.out _) ?_
    rintro e w8 ⟨rfl, rfl⟩
    generalize w7.alloc (.cells #[.int .i64 b, .int .i64 (-1), .int .i64 0, .int .i64 1, .int .i64 16, .int .i64 17, .int .i64 64, .int .i64 65] 3) = w8 at *
    clear hcell HS67 hz7 HII HI
    obtain ⟨z0, z1, z2, z3, z4, z5⟩ := six hb1.out
    have hf0 := blk_frozen hb0.out
    have hf1 := blk_frozen hb1.out
    rcases (show q = 0 ∨ q = 1 ∨ q = 2 ∨ q = 3 ∨ q = 4 ∨ q = 5 ∨ q = 6 ∨ q = 7 ∨ q = 8 by omega) with rfl | rfl | rfl | rfl | rfl | rfl | rfl | rfl | rfl
    · skip
      go_wp2_with fail
      refine bodyPost_ret (v := .agg #[.int .i64 (nn), .int .i64 (n), .int .i64 (ix), .int .u64 (u), .string (s), .slice A6 n6 c6]) (by simp [results, Try.results39, go_sem, z0, z1, z2, z3, z4, z5]) rfl ?_
      have hok := Hok.out
      have e9 := HML.out
      have hmm : m.length ≤ m.length + 1 := Nat.le_succ _
      exact spo_end (x := (⟨k, n, ix, u, s, m⟩ : Va)) rfl (hW.out.setCell (p := ⟨w.heap.size, 0, none⟩) (Nat.le_refl _) (.int .i64 nn)) ⟨nn, n, ix, u, s, m⟩ ⟨Nat.le_add_right _ 2, hmm⟩ ⟨⟨HNN.out, hok.1.2⟩, hok.2⟩ e9 hC6.out (enl_set (e9 ▸ hrow.out).list 0 (.int .i64 nn)) _ _ _ _ _ _
    · skip
      go_wp2_with fail
      refine bodyPost_ret (v := .agg #[.int .i64 (k), .int .i64 (nn), .int .i64 (ix), .int .u64 (u), .string (s), .slice A6 n6 c6]) (by simp [results, Try.results39, go_sem, z0, z1, z2, z3, z4, z5]) rfl ?_
      have hok := Hok.out
      have e9 := HML.out
      have hmm : m.length ≤ m.length + 1 := Nat.le_succ _
      exact spo_end (x := (⟨k, n, ix, u, s, m⟩ : Va)) rfl (hW.out.setCell (p := ⟨w.heap.size, 1, none⟩) (Nat.le_refl _) (.int .i64 nn)) ⟨k, nn, ix, u, s, m⟩ ⟨Nat.le_add_right _ 2, hmm⟩ ⟨⟨hok.1.1, HNN.out, hok.1.2.2⟩, hok.2⟩ e9 hC6.out (enl_set (e9 ▸ hrow.out).list 1 (.int .i64 nn)) _ _ _ _ _ _
    · skip
      go_wp2_with fail
      refine bodyPost_ret (v := .agg #[.int .i64 (k), .int .i64 (n), .int .i64 (nn), .int .u64 (u), .string (s), .slice A6 n6 c6]) (by simp [results, Try.results39, go_sem, z0, z1, z2, z3, z4, z5]) rfl ?_
      have hok := Hok.out
      have e9 := HML.out
      have hmm : m.length ≤ m.length + 1 := Nat.le_succ _
      exact spo_end (x := (⟨k, n, ix, u, s, m⟩ : Va)) rfl (hW.out.setCell (p := ⟨w.heap.size, 2, none⟩) (Nat.le_refl _) (.int .i64 nn)) ⟨k, n, nn, u, s, m⟩ ⟨Nat.le_add_right _ 2, hmm⟩ ⟨⟨hok.1.1, hok.1.2.1, HNN.out⟩, hok.2⟩ e9 hC6.out (enl_set (e9 ▸ hrow.out).list 2 (.int .i64 nn)) _ _ _ _ _ _
    · skip
      go_wp2_with fail
      refine bodyPost_ret (v := .agg #[.int .i64 (k), .int .i64 (n), .int .i64 (ix), .int .u64 (IntKind.u64.wrap (u + IntKind.u64.wrap nn)), .string (s), .slice A6 n6 c6]) (by simp [results, Try.results39, go_sem, z0, z1, z2, z3, z4, z5]) rfl ?_
      have hok := Hok.out
      have e9 := HML.out
      have hmm : m.length ≤ m.length + 1 := Nat.le_succ _
      exact spo_end (x := (⟨k, n, ix, u, s, m⟩ : Va)) rfl (hW.out.setCell (p := ⟨w.heap.size, 3, none⟩) (Nat.le_refl _) (.int .u64 (IntKind.u64.wrap (u + IntKind.u64.wrap nn)))) ⟨k, n, ix, IntKind.u64.wrap (u + IntKind.u64.wrap nn), s, m⟩ ⟨Nat.le_add_right _ 2, hmm⟩ ⟨hok.1, u64_wrap _, hok.2.2⟩ e9 hC6.out (enl_set (e9 ▸ hrow.out).list 3 (.int .u64 (IntKind.u64.wrap (u + IntKind.u64.wrap nn)))) _ _ _ _ _ _
    · skip
      have hss : ¬ 9223372036854775807 < s.size + 1 := by have := Hs.out; omega
      go_wp2_with fail
      refine bodyPost_ret (v := .agg #[.int .i64 (k), .int .i64 (n), .int .i64 (ix), .int .u64 (u), .string (s ++ ⟨#[120]⟩), .slice A6 n6 c6]) (by simp [results, Try.results39, go_sem, z0, z1, z2, z3, z4, z5]) rfl ?_
      have hok := Hok.out
      have e9 := HML.out
      have hmm : m.length ≤ m.length + 1 := Nat.le_succ _
      exact spo_end (x := (⟨k, n, ix, u, s, m⟩ : Va)) rfl (hW.out.setCell (p := ⟨w.heap.size, 4, none⟩) (Nat.le_refl _) (.string (s ++ ⟨#[120]⟩))) ⟨k, n, ix, u, s ++ ⟨#[120]⟩, m⟩ ⟨by show (s ++ _).size ≤ s.size + 2; rw [ByteArray.size_append]; show s.size + 1 ≤ _; omega, hmm⟩ ⟨hok.1, hok.2.1, (by show (s ++ _).size ≤ _; rw [ByteArray.size_append]; have := Hs.out; show s.size + 1 ≤ _; omega), hok.2.2.2⟩ e9 hC6.out (enl_set (e9 ▸ hrow.out).list 4 (.string (s ++ ⟨#[120]⟩))) _ _ _ _ _ _
    · skip
      have HRn : RowE (w8.alloc (.cells #[.int .u64 (IntKind.u64.wrap nn), .int .u64 1, .string ⟨#[]⟩] 84)) (w.heap.size + 2) 84 (.slice A6 n6 c6) m := hrow.out.below ((Below.refl _ _).alloc (Nat.le_refl _) _)
      have HNn : EnL (w8.alloc (.cells #[.int .u64 (IntKind.u64.wrap nn), .int .u64 1, .string ⟨#[]⟩] 84)) (fun _ => True) [(⟨IntKind.u64.wrap nn, 1, ⟨#[]⟩⟩ : En)] (some ⟨w8.heap.size, 0, none⟩) := enl_one (heap_alloc_new w8 (.cells #[.int .u64 (IntKind.u64.wrap nn), .int .u64 1, .string ⟨#[]⟩] 84)) trivial
      have HBn : w.heap.size + 2 ≤ (w8.alloc (.cells #[.int .u64 (IntKind.u64.wrap nn), .int .u64 1, .string ⟨#[]⟩] 84)).heap.size := by simp; omega
      have hcub := hrow.out.blk
      have HLn := Lib.hid (show ∀ w9, (w8.alloc (.cells #[.int .u64 (IntKind.u64.wrap nn), .int .u64 1, .string ⟨#[]⟩] 84)).grownBy w9 (Value.slice A6 n6 c6).ownBlock → ∀ B, B < w.heap.size + 2 → w9.heap[B]? = w8.heap[B]? from fun w9 hg B hB => (grown_lowv hg hcub hB HBn).trans (Below.heap_alloc w8 _ B (by omega)))
      have HWn := Lib.hid (show ∀ w9, (w8.alloc (.cells #[.int .u64 (IntKind.u64.wrap nn), .int .u64 1, .string ⟨#[]⟩] 84)).grownBy w9 (Value.slice A6 n6 c6).ownBlock → Below w.heap.size w w9 from fun w9 hg => (hW.out.trans (((Below.refl w8.heap.size w8).alloc (Nat.le_refl _) (.cells #[.int .u64 (IntKind.u64.wrap nn), .int .u64 1, .string ⟨#[]⟩] 84)).mono hW.out.size)).trans ((Below.refl _ _).grown hg (by simp; omega) (fun j ej => by have := hcub j ej; omega)))
      have HLm := Lib.hid (show m.length + 1 ≤ maxLen ∧ (m.length + 1) * 32 ≤ 140737488355328 from by rw [← HML.out]; unfold maxLen; exact ⟨by omega, by omega⟩)
      clear hcub
      go_wp2_with (at_builtin; refine wpList_append_en _ rfl _ _ 28 rfl (w.heap.size + 2) 84 i0 (.agg #[.int .u64 0, .int .u64 0, .string ⟨#[]⟩]) 32 Try.underlying28 hi0 hz0 hz1 hz2 rfl (.slice A6 n6 c6) m rfl HRn (fun _ => True) (some ⟨w8.heap.size, 0, none⟩) 1 1 [(⟨IntKind.u64.wrap nn, 1, ⟨#[]⟩⟩ : En)] rfl rfl (fun h => by cases h) (Nat.le_refl _) HNn HLm.out.1 HLm.out.2 HBn ?_; intro A9 n9 c9 w9 h9 hrow9 hg9; have hb90 := (HLn.out w9 hg9 w.heap.size (by omega)).trans hb0.out; have hb91 := (HLn.out w9 hg9 (w.heap.size + 1) (by omega)).trans hb1.out; have hf90 := blk_frozen hb90; have hf91 := blk_frozen hb91; obtain ⟨z90, z91, z92, z93, z94, z95⟩ := six hb91; obtain ⟨p90, p91, p92, p93, p94, p95⟩ := six hb90; clear hb90 hb91)
      refine bodyPost_ret (v := .agg #[.int .i64 (k), .int .i64 (n), .int .i64 (ix), .int .u64 (u), .string (s), .slice A9 n9 c9]) (by simp [results, Try.results39, go_sem, z90, z91, z92, z93, z94, z95]) rfl ?_
      have hok := Hok.out
      have e9 := HML.out
      have hmm : m.length ≤ m.length + 1 := Nat.le_succ _
      exact spo_end (x := (⟨k, n, ix, u, s, m⟩ : Va)) rfl ((HWn.out w9 hg9).setCell (p := ⟨w.heap.size, 5, none⟩) (Nat.le_refl _) (.slice A9 n9 c9)) ⟨k, n, ix, u, s, m ++ [(⟨IntKind.u64.wrap nn, 1, ⟨#[]⟩⟩ : En)]⟩ ⟨Nat.le_add_right _ 2, by show (m ++ _).length ≤ m.length + 1; simp⟩ ⟨hok.1, hok.2.1, hok.2.2.1, fun e he => (by
        rcases List.mem_append.1 he with h | h
        · exact hok.2.2.2.1 e h
        · rw [List.mem_singleton.1 h]; exact ⟨u64_wrap _, (show U64 1 from ⟨by decide, by decide⟩), (show ByteArray.size ⟨#[]⟩ ≤ 1000000 from by decide)⟩), by show (m ++ _).length ≤ 100000; simp; omega⟩ h9.out.1 h9.out.2 (enl_set (h9.out.1 ▸ hrow9).list 5 _) _ _ _ _ _ _
    · skip
      have HRn : RowE (w8.alloc (.cells #[.int .u64 (IntKind.u64.wrap nn), .int .u64 0, .string ⟨#[121]⟩] 84)) (w.heap.size + 2) 84 (.slice A6 n6 c6) m := hrow.out.below ((Below.refl _ _).alloc (Nat.le_refl _) _)
      have HNn : EnL (w8.alloc (.cells #[.int .u64 (IntKind.u64.wrap nn), .int .u64 0, .string ⟨#[121]⟩] 84)) (fun _ => True) [(⟨IntKind.u64.wrap nn, 0, ⟨#[121]⟩⟩ : En)] (some ⟨w8.heap.size, 0, none⟩) := enl_one (heap_alloc_new w8 (.cells #[.int .u64 (IntKind.u64.wrap nn), .int .u64 0, .string ⟨#[121]⟩] 84)) trivial
      have HBn : w.heap.size + 2 ≤ (w8.alloc (.cells #[.int .u64 (IntKind.u64.wrap nn), .int .u64 0, .string ⟨#[121]⟩] 84)).heap.size := by simp; omega
      have hcub := hrow.out.blk
      have HLn := Lib.hid (show ∀ w9, (w8.alloc (.cells #[.int .u64 (IntKind.u64.wrap nn), .int .u64 0, .string ⟨#[121]⟩] 84)).grownBy w9 (Value.slice A6 n6 c6).ownBlock → ∀ B, B < w.heap.size + 2 → w9.heap[B]? = w8.heap[B]? from fun w9 hg B hB => (grown_lowv hg hcub hB HBn).trans (Below.heap_alloc w8 _ B (by omega)))
      have HWn := Lib.hid (show ∀ w9, (w8.alloc (.cells #[.int .u64 (IntKind.u64.wrap nn), .int .u64 0, .string ⟨#[121]⟩] 84)).grownBy w9 (Value.slice A6 n6 c6).ownBlock → Below w.heap.size w w9 from fun w9 hg => (hW.out.trans (((Below.refl w8.heap.size w8).alloc (Nat.le_refl _) (.cells #[.int .u64 (IntKind.u64.wrap nn), .int .u64 0, .string ⟨#[121]⟩] 84)).mono hW.out.size)).trans ((Below.refl _ _).grown hg (by simp; omega) (fun j ej => by have := hcub j ej; omega)))
      have HLm := Lib.hid (show m.length + 1 ≤ maxLen ∧ (m.length + 1) * 32 ≤ 140737488355328 from by rw [← HML.out]; unfold maxLen; exact ⟨by omega, by omega⟩)
      clear hcub
      go_wp2_with (at_builtin; refine wpList_append_en _ rfl _ _ 28 rfl (w.heap.size + 2) 84 i0 (.agg #[.int .u64 0, .int .u64 0, .string ⟨#[]⟩]) 32 Try.underlying28 hi0 hz0 hz1 hz2 rfl (.slice A6 n6 c6) m rfl HRn (fun _ => True) (some ⟨w8.heap.size, 0, none⟩) 1 1 [(⟨IntKind.u64.wrap nn, 0, ⟨#[121]⟩⟩ : En)] rfl rfl (fun h => by cases h) (Nat.le_refl _) HNn HLm.out.1 HLm.out.2 HBn ?_; intro A9 n9 c9 w9 h9 hrow9 hg9; have hb90 := (HLn.out w9 hg9 w.heap.size (by omega)).trans hb0.out; have hb91 := (HLn.out w9 hg9 (w.heap.size + 1) (by omega)).trans hb1.out; have hf90 := blk_frozen hb90; have hf91 := blk_frozen hb91; obtain ⟨z90, z91, z92, z93, z94, z95⟩ := six hb91; obtain ⟨p90, p91, p92, p93, p94, p95⟩ := six hb90; clear hb90 hb91)
      refine bodyPost_ret (v := .agg #[.int .i64 (k), .int .i64 (n), .int .i64 (ix), .int .u64 (u), .string (s), .slice A9 n9 c9]) (by simp [results, Try.results39, go_sem, z90, z91, z92, z93, z94, z95]) rfl ?_
      have hok := Hok.out
      have e9 := HML.out
      have hmm : m.length ≤ m.length + 1 := Nat.le_succ _
      exact spo_end (x := (⟨k, n, ix, u, s, m⟩ : Va)) rfl ((HWn.out w9 hg9).setCell (p := ⟨w.heap.size, 5, none⟩) (Nat.le_refl _) (.slice A9 n9 c9)) ⟨k, n, ix, u, s, m ++ [(⟨IntKind.u64.wrap nn, 0, ⟨#[121]⟩⟩ : En)]⟩ ⟨Nat.le_add_right _ 2, by show (m ++ _).length ≤ m.length + 1; simp⟩ ⟨hok.1, hok.2.1, hok.2.2.1, fun e he => (by
        rcases List.mem_append.1 he with h | h
        · exact hok.2.2.2.1 e h
        · rw [List.mem_singleton.1 h]; exact ⟨u64_wrap _, (show U64 0 from ⟨by decide, by decide⟩), (show ByteArray.size ⟨#[121]⟩ ≤ 1000000 from by decide)⟩), by show (m ++ _).length ≤ 100000; simp; omega⟩ h9.out.1 h9.out.2 (enl_set (h9.out.1 ▸ hrow9).list 5 _) _ _ _ _ _ _
    · skip
      by_cases hp : 0 < n6
      · have gp : decide (0 < (n6 : Int)) = true := decide_eq_true (by omega)
        have him := Hi.out hp
        have hiI : (i : Int) < (n6 : Int) := by omega
        have hi0' : (0 : Int) ≤ (i : Int) := by omega
        have hrow' : RowE w8 (w.heap.size + 2) 84 (.slice A6 m.length c6) m := HML.out ▸ hrow.out
        obtain ⟨g, rfl, hgN, hgl, hAt, hfr, hset⟩ := hrow'.lies (by rw [← HML.out]; exact hp)
        obtain ⟨ocv, hcl⟩ : ∃ v, w8.cell? ⟨g, i * 3 + 1, none⟩ = some v := ⟨_, (hAt i (by rw [← HML.out]; exact him)).2.1⟩
        have hfg := hfr (i * 3 + 1)
        have hng : ¬ w.heap.size = g := by omega
        have hng2 : ¬ w.heap.size + 1 = g := by omega
        have hgn : ¬ g = w.heap.size := by omega
        have hgn2 : ¬ g = w.heap.size + 1 := by omega
        have HSET := Lib.hid hset
        have HG := Lib.hid (And.intro hgN hgl)
        have HIM := Lib.hid him
        clear hset hAt hfr hgN hgl hrow' him hp h1
        go_wp2_with fail
        refine bodyPost_ret (v := .agg #[.int .i64 (k), .int .i64 (n), .int .i64 (ix), .int .u64 (u), .string (s), .slice (some ⟨g, 0, none⟩) n6 c6]) (by simp [results, Try.results39, go_sem, z0, z1, z2, z3, z4, z5]) rfl ?_
        have hok := Hok.out
        have e9 := HML.out
        have hmm : m.length ≤ m.length + 1 := Nat.le_succ _
        have hml : i < m.length := by rw [← e9]; exact HIM.out
        have hfin := HSET.out (m.set i ⟨(m[i]'(by rw [← e9]; exact HIM.out)).i, IntKind.u64.wrap nn, (m[i]'(by rw [← e9]; exact HIM.out)).s⟩) (i * 3 + 1) (.int .u64 (IntKind.u64.wrap nn)) (ens_set_u _ m i hml)
        exact spo_end (x := (⟨k, n, ix, u, s, m⟩ : Va)) rfl (hW.out.setCell (p := ⟨g, i * 3 + 1, none⟩) (by have := HG.out.1; show _ ≤ g; omega) (.int .u64 (IntKind.u64.wrap nn))) ⟨k, n, ix, u, s, m.set i ⟨(m[i]'(by rw [← e9]; exact HIM.out)).i, IntKind.u64.wrap nn, (m[i]'(by rw [← e9]; exact HIM.out)).s⟩⟩ ⟨Nat.le_add_right _ 2, by show (m.set _ _).length ≤ m.length + 1; simp⟩ ⟨hok.1, hok.2.1, hok.2.2.1, fun e he => (by
          rcases List.mem_or_eq_of_mem_set he with h | h
          · exact hok.2.2.2.1 e h
          · rw [h]; exact ⟨(hok.2.2.2.1 _ (List.getElem_mem (by rw [← e9]; exact HIM.out))).1, u64_wrap _, (hok.2.2.2.1 _ (List.getElem_mem (by rw [← e9]; exact HIM.out))).2.2⟩), by show (m.set _ _).length ≤ 100000; simp; omega⟩ (by show n6 = (m.set _ _).length; rw [List.length_set]; exact e9) hC6.out (hfin.to (fun b hb => ⟨⟨hb.1, by simpa [World.setCell] using hb.2⟩, rfl⟩)) _ _ _ _ _ _
      · have gp : decide (0 < (n6 : Int)) = false := decide_eq_false (by omega)
        clear h1
        go_wp2_with fail
        refine bodyPost_ret (v := .agg #[.int .i64 (k), .int .i64 (n), .int .i64 (ix), .int .u64 (u), .string (s), .slice A6 n6 c6]) (by simp [results, Try.results39, go_sem, z0, z1, z2, z3, z4, z5]) rfl ?_
        have hok := Hok.out
        have e9 := HML.out
        have hmm : m.length ≤ m.length + 1 := Nat.le_succ _
        exact spo_end (x := (⟨k, n, ix, u, s, m⟩ : Va)) rfl hW.out ⟨k, n, ix, u, s, m⟩ ⟨Nat.le_add_right _ 2, hmm⟩ hok e9 hC6.out (e9 ▸ hrow.out).list _ _ _ _ _ _
    · skip
      by_cases hp : 0 < n6
      · have gp : decide (0 < (n6 : Int)) = true := decide_eq_true (by omega)
        have him := Hi.out hp
        have hiI : (i : Int) < (n6 : Int) := by omega
        have hi0' : (0 : Int) ≤ (i : Int) := by omega
        have hrow' : RowE w8 (w.heap.size + 2) 84 (.slice A6 m.length c6) m := HML.out ▸ hrow.out
        obtain ⟨g, rfl, hgN, hgl, hAt, hfr, hset⟩ := hrow'.lies (by rw [← HML.out]; exact hp)
        obtain ⟨ocv, hcl⟩ : ∃ v, w8.cell? ⟨g, i * 3 + 2, none⟩ = some v := ⟨_, (hAt i (by rw [← HML.out]; exact him)).2.2⟩
        have hfg := hfr (i * 3 + 2)
        have hng : ¬ w.heap.size = g := by omega
        have hng2 : ¬ w.heap.size + 1 = g := by omega
        have hgn : ¬ g = w.heap.size := by omega
        have hgn2 : ¬ g = w.heap.size + 1 := by omega
        have HSET := Lib.hid hset
        obtain ⟨g2, hg2, _, _, _, _, hset8⟩ := (hrow'.below ((Below.refl w8.heap.size w8).alloc (Nat.le_refl _) (.cells #[.string ⟨#[]⟩, .string ⟨#[122]⟩, .string ⟨#[122, 122]⟩] 9))).lies (by rw [← HML.out]; exact hp)
        obtain rfl : g = g2 := by injection hg2 with e; injection e
        have HSET : Hid (∀ (l2 : List En) (p : Nat) (u : Value), l2.flatMap En.cells = (m.flatMap En.cells).set p u → EnL ((w8.alloc (.cells #[.string ⟨#[]⟩, .string ⟨#[122]⟩, .string ⟨#[122, 122]⟩] 9)).setCell ⟨g, p, none⟩ u) (fun b => w.heap.size + 2 ≤ b ∧ b < (w8.alloc (.cells #[.string ⟨#[]⟩, .string ⟨#[122]⟩, .string ⟨#[122, 122]⟩] 9)).heap.size) l2 (some ⟨g, 0, none⟩)) := Lib.hid hset8
        clear hset8
        have HG := Lib.hid (And.intro hgN hgl)
        have HIM := Lib.hid him
        clear hset hAt hfr hgN hgl hrow' him hp h1
        have hr0 : (0 : Int) ≤ (r : Int) := by omega
        have hr3 : (r : Int) < 3 := by omega
        obtain ⟨zt, hzt, hzc⟩ : ∃ zt : ByteArray, zt.size ≤ 2 ∧ #[Value.string ⟨#[]⟩, .string ⟨#[122]⟩, .string ⟨#[122, 122]⟩][r]? = some (.string zt) := by
          rcases (show r = 0 ∨ r = 1 ∨ r = 2 by omega) with rfl | rfl | rfl
          · exact ⟨⟨#[]⟩, by decide, rfl⟩
          · exact ⟨⟨#[122]⟩, by decide, rfl⟩
          · exact ⟨⟨#[122, 122]⟩, by decide, rfl⟩
        have HZT := Lib.hid hzt
        have hcz : ((w8.alloc (.cells #[.string ⟨#[]⟩, .string ⟨#[122]⟩, .string ⟨#[122, 122]⟩] 9)).drew).cell? ⟨w8.heap.size, r, none⟩ = some (.string zt) := by rw [show w8.heap.size = w8.drew.heap.size from rfl, cell_of_row ((w8.alloc (.cells #[.string ⟨#[]⟩, .string ⟨#[122]⟩, .string ⟨#[122, 122]⟩] 9)).drew) _ r _ _ _ (heap_alloc_new w8.drew _)]; exact hzc
        clear hzt hzc
        have p59 : ((w8.alloc (.cells #[.string ⟨#[]⟩, .string ⟨#[122]⟩, .string ⟨#[122, 122]⟩] 9)).drew).cell? ⟨w.heap.size, 5, none⟩ = some (.slice (some ⟨g, 0, none⟩) n6 c6) := (cell_oldv (w := w8.drew) (by show _ < w8.heap.size; omega) _).trans p5
        have hb81 : (w8.alloc (.cells #[.string ⟨#[]⟩, .string ⟨#[122]⟩, .string ⟨#[122, 122]⟩] 9)).heap[w.heap.size + 1]? = _ := (heap_alloc_old w8.drew (.cells #[.string ⟨#[]⟩, .string ⟨#[122]⟩, .string ⟨#[122, 122]⟩] 9) (w.heap.size + 1) (by show _ < w8.heap.size; omega)).trans hb1.out
        have hb80 : (w8.alloc (.cells #[.string ⟨#[]⟩, .string ⟨#[122]⟩, .string ⟨#[122, 122]⟩] 9)).heap[w.heap.size]? = _ := (heap_alloc_old w8.drew (.cells #[.string ⟨#[]⟩, .string ⟨#[122]⟩, .string ⟨#[122, 122]⟩] 9) w.heap.size (by show _ < w8.heap.size; omega)).trans hb0.out
        obtain ⟨z80, z81, z82, z83, z84, z85⟩ := six hb81
        obtain ⟨p80, p81, p82, p83, p84, p85⟩ := six hb80
        have hf80 := blk_frozen hb80
        have hf81 := blk_frozen hb81
        have hcl8 : ((w8.alloc (.cells #[.string ⟨#[]⟩, .string ⟨#[122]⟩, .string ⟨#[122, 122]⟩] 9)).drew).cell? ⟨g, i * 3 + 2, none⟩ = some ocv := (cell_oldv (w := w8.drew) (B := g) (i := i * 3 + 2) (by show _ < w8.heap.size; exact HG.out.2) (.cells #[.string ⟨#[]⟩, .string ⟨#[122]⟩, .string ⟨#[122, 122]⟩] 9)).trans hcl
        have hfg8 : ((w8.alloc (.cells #[.string ⟨#[]⟩, .string ⟨#[122]⟩, .string ⟨#[122, 122]⟩] 9)).drew).frozen? ⟨g, i * 3 + 2, none⟩ = false := (frozen_oldv (w := w8.drew) (B := g) (i := i * 3 + 2) (by show _ < w8.heap.size; exact HG.out.2) (.cells #[.string ⟨#[]⟩, .string ⟨#[122]⟩, .string ⟨#[122, 122]⟩] 9)).trans hfg
        have hcl9 : (w8.alloc (.cells #[.string ⟨#[]⟩, .string ⟨#[122]⟩, .string ⟨#[122, 122]⟩] 9)).cell? ⟨g, i * 3 + 2, none⟩ = some ocv := hcl8
        have hfg9 : (w8.alloc (.cells #[.string ⟨#[]⟩, .string ⟨#[122]⟩, .string ⟨#[122, 122]⟩] 9)).frozen? ⟨g, i * 3 + 2, none⟩ = false := hfg8
        replace hb80 := Lib.hid hb80
        replace hb81 := Lib.hid hb81
        have p69 : (((w8.alloc (.cells #[.string ⟨#[]⟩, .string ⟨#[122]⟩, .string ⟨#[122, 122]⟩] 9)).drew).setCell ⟨g, i * 3 + 2, none⟩ (.string zt)).cell? ⟨w.heap.size, 5, none⟩ = some (.slice (some ⟨g, 0, none⟩) n6 c6) := (World.cell?_setCell_far _ _ _ _ (by simp; omega)).trans p59
        have q59 : w8.drew.cell? ⟨w.heap.size, 5, none⟩ = some (.slice (some ⟨g, 0, none⟩) n6 c6) := p5
        go_wp2_with fail
        refine wp_region_held_drew (S := fun W => W.cell? ⟨w.heap.size, 5, none⟩ = some (.slice (some ⟨g, 0, none⟩) n6 c6)) (by kernel_rfl) q59 (fun hHeld => ?_)
        (try simp only [List.size_toArray, List.length_cons, List.length_nil, Nat.zero_add, Nat.reduceAdd])
        refine wpAnyH_takeL (i := 0) (v := ?v11) rfl (by kernel_rfl) (by kernel_rfl) (by kernel_rfl) (fun _ _ _ h => h) (Or.inl ⟨by rfl, ?y11⟩) (by assumption) ?r11
        case y11 => (intro W hSw; (try dsimp only at hSw); go_simp; try with_reducible rfl)
        (try simp only [Act.put, List.setIfInBounds_toArray, List.set_cons_zero, List.set_cons_succ])
        refine wpAnyH_takeL (i := 1) (v := ?v12) rfl (by kernel_rfl) (by kernel_rfl) (by kernel_rfl) (fun _ _ _ h => h) (Or.inl ⟨by rfl, ?y12⟩) (by assumption) ?r12
        case y12 => (intro W hSw; (try dsimp only at hSw); go_simp; try with_reducible rfl)
        (try simp only [Act.put, List.setIfInBounds_toArray, List.set_cons_zero, List.set_cons_succ])
        refine wpAnyH_takeL (i := 2) (v := ?v13) rfl (by kernel_rfl) (by kernel_rfl) (by kernel_rfl) (fun _ _ _ h => h) (Or.inl ⟨by rfl, ?y13⟩) (by assumption) ?r13
        case y13 => (intro W hSw; (try dsimp only at hSw); go_simp; try with_reducible rfl)
        (try simp only [Act.put, List.setIfInBounds_toArray, List.set_cons_zero, List.set_cons_succ])
        refine wpAnyH_takeL (i := 4) (v := ?v14) rfl (by kernel_rfl) (by kernel_rfl) (by kernel_rfl) (fun _ _ _ h => h) (Or.inl ⟨by rfl, ?y14⟩) (by assumption) ?r14
        case y14 => (intro W hSw; (try dsimp only at hSw); go_simp; try with_reducible rfl)
        (try simp only [Act.put, List.setIfInBounds_toArray, List.set_cons_zero, List.set_cons_succ])
        refine wpAnyH_ready (rs := [3, 5]) (by kernel_rfl) (by simp) ?_
        refine consL rfl (fun K hK => ?_) (consL rfl (fun K hK => ?_) AllReadyH.nil)
        · skip
          go_simp
          refine hK.out _ _ p59 (fun hHeld => ?_)
          clear hK K
          (try simp only [Act.put, List.setIfInBounds_toArray, List.set_cons_zero, List.set_cons_succ])
          refine wpAnyH_ready (rs := [5]) (by kernel_rfl) (by simp) ?_
          refine consL rfl (fun K hK => ?_) AllReadyH.nil
          go_simp
          refine Calls.mono (HA3.out _) ?_
          rintro e w9 ⟨rfl, rfl⟩
          (try dsimp only)
          refine hK.out _ _ p59 (fun hHeld => ?_)
          clear hK K
          (try simp only [Act.put, List.setIfInBounds_toArray, List.set_cons_zero, List.set_cons_succ])
          refine wpAnyH_takeL (i := 6) (v := ?v15) rfl (by kernel_rfl) (by kernel_rfl) (by kernel_rfl) (fun _ _ _ h => h) (Or.inl ⟨by rfl, ?y15⟩) (by assumption) ?r15
          case y15 => (intro W hSw; (try dsimp only at hSw); go_simp; try with_reducible rfl)
          (try simp only [Act.put, List.setIfInBounds_toArray, List.set_cons_zero, List.set_cons_succ])
          refine wpAnyH_ready (rs := [7]) (by kernel_rfl) (by simp) ?_
          refine consL rfl (fun K hK => ?_) AllReadyH.nil
          go_simp
          refine hK.out _ _ p59 (fun hHeld => ?_)
          clear hK K
          (try simp only [Act.put, List.setIfInBounds_toArray, List.set_cons_zero, List.set_cons_succ])
          refine wpAnyH_takeL (i := 8) (v := ?v16) rfl (by kernel_rfl) (by kernel_rfl) (by kernel_rfl) (fun _ _ _ h => h) (Or.inl ⟨by rfl, ?y16⟩) (by assumption) ?r16
          case y16 => (intro W hSw; (try dsimp only at hSw); go_simp; try with_reducible rfl)
          (try simp only [Act.put, List.setIfInBounds_toArray, List.set_cons_zero, List.set_cons_succ])
          refine wpAnyH_takeL (i := 9) (v := ?v17) rfl (by kernel_rfl) (by kernel_rfl) (by kernel_rfl) (fun _ _ _ h => h) (Or.inl ⟨by rfl, ?y17⟩) (by assumption) ?r17
          case y17 => (intro W hSw; (try dsimp only at hSw); go_simp; try with_reducible rfl)
          (try simp only [Act.put, List.setIfInBounds_toArray, List.set_cons_zero, List.set_cons_succ])
          refine wpAnyH_ready (rs := [10]) (by kernel_rfl) (by simp) ?_
          refine consL rfl (fun K hK => ?_) AllReadyH.nil
          go_simp
          refine hK.out _ _ p69 (fun hHeld => ?_)
          clear hK K
          (try simp only [Act.put, List.setIfInBounds_toArray, List.set_cons_zero, List.set_cons_succ])
          refine wpAnyH_done (by kernel_rfl) ?_ _
          go_wp2_with fail
          refine bodyPost_ret (v := .agg #[.int .i64 (k), .int .i64 (n), .int .i64 (ix), .int .u64 (u), .string (s), .slice (some ⟨g, 0, none⟩) n6 c6]) (by simp [results, Try.results39, go_sem, z80, z81, z82, z83, z84, z85]) rfl ?_
          have hok := Hok.out
          have e9 := HML.out
          have hmm : m.length ≤ m.length + 1 := Nat.le_succ _
          have hml : i < m.length := by rw [← e9]; exact HIM.out
          have hfin := HSET.out (m.set i ⟨(m[i]'(by rw [← e9]; exact HIM.out)).i, (m[i]'(by rw [← e9]; exact HIM.out)).u, zt⟩) (i * 3 + 2) (.string zt) (ens_set_s _ m i hml)
          have hW8 : Below w.heap.size w (w8.alloc (.cells #[.string ⟨#[]⟩, .string ⟨#[122]⟩, .string ⟨#[122, 122]⟩] 9)) := hW.out.alloc hW.out.size (.cells #[.string ⟨#[]⟩, .string ⟨#[122]⟩, .string ⟨#[122, 122]⟩] 9)
          have hfin2 := hfin.to (T := fun b => w.heap.size + 2 ≤ b ∧ b < ((w8.alloc (.cells #[.string ⟨#[]⟩, .string ⟨#[122]⟩, .string ⟨#[122, 122]⟩] 9)).setCell ⟨g, i * 3 + 2, none⟩ (.string zt)).heap.size) (fun b hb => ⟨⟨hb.1, by simpa [World.setCell] using hb.2⟩, rfl⟩)
          exact SpoPost.drew (spo_end (x := (⟨k, n, ix, u, s, m⟩ : Va)) rfl (hW8.setCell (p := ⟨g, i * 3 + 2, none⟩) (by have := HG.out.1; show _ ≤ g; omega) (.string zt)) ⟨k, n, ix, u, s, m.set i ⟨(m[i]'(by rw [← e9]; exact HIM.out)).i, (m[i]'(by rw [← e9]; exact HIM.out)).u, zt⟩⟩ ⟨Nat.le_add_right _ 2, by show (m.set _ _).length ≤ m.length + 1; simp⟩ ⟨hok.1, hok.2.1, hok.2.2.1, fun e he => (by
            rcases List.mem_or_eq_of_mem_set he with h | h
            · exact hok.2.2.2.1 e h
            · rw [h]; exact ⟨(hok.2.2.2.1 _ (List.getElem_mem (by rw [← e9]; exact HIM.out))).1, (hok.2.2.2.1 _ (List.getElem_mem (by rw [← e9]; exact HIM.out))).2.1, Nat.le_trans HZT.out (by decide)⟩), by show (m.set _ _).length ≤ 100000; simp; omega⟩ (by show n6 = (m.set _ _).length; rw [List.length_set]; exact e9) hC6.out hfin2 _ _ _ _ _ _)
        · skip
          go_simp
          refine Calls.mono (HA3.out _) ?_
          rintro e w9 ⟨rfl, rfl⟩
          (try dsimp only)
          refine hK.out _ _ q59 (fun hHeld => ?_)
          clear hK K
          (try simp only [Act.put, List.setIfInBounds_toArray, List.set_cons_zero, List.set_cons_succ])
          refine wpAnyH_ready (rs := [3]) (by kernel_rfl) (by simp) ?_
          refine consL rfl (fun K hK => ?_) AllReadyH.nil
          go_simp
          refine hK.out _ _ p59 (fun hHeld => ?_)
          clear hK K
          (try simp only [Act.put, List.setIfInBounds_toArray, List.set_cons_zero, List.set_cons_succ])
          refine wpAnyH_takeL (i := 6) (v := ?v18) rfl (by kernel_rfl) (by kernel_rfl) (by kernel_rfl) (fun _ _ _ h => h) (Or.inl ⟨by rfl, ?y18⟩) (by assumption) ?r18
          case y18 => (intro W hSw; (try dsimp only at hSw); go_simp; try with_reducible rfl)
          (try simp only [Act.put, List.setIfInBounds_toArray, List.set_cons_zero, List.set_cons_succ])
          refine wpAnyH_ready (rs := [7]) (by kernel_rfl) (by simp) ?_
          refine consL rfl (fun K hK => ?_) AllReadyH.nil
          go_simp
          refine hK.out _ _ p59 (fun hHeld => ?_)
          clear hK K
          (try simp only [Act.put, List.setIfInBounds_toArray, List.set_cons_zero, List.set_cons_succ])
          refine wpAnyH_takeL (i := 8) (v := ?v19) rfl (by kernel_rfl) (by kernel_rfl) (by kernel_rfl) (fun _ _ _ h => h) (Or.inl ⟨by rfl, ?y19⟩) (by assumption) ?r19
          case y19 => (intro W hSw; (try dsimp only at hSw); go_simp; try with_reducible rfl)
          (try simp only [Act.put, List.setIfInBounds_toArray, List.set_cons_zero, List.set_cons_succ])
          refine wpAnyH_takeL (i := 9) (v := ?v20) rfl (by kernel_rfl) (by kernel_rfl) (by kernel_rfl) (fun _ _ _ h => h) (Or.inl ⟨by rfl, ?y20⟩) (by assumption) ?r20
          case y20 => (intro W hSw; (try dsimp only at hSw); go_simp; try with_reducible rfl)
          (try simp only [Act.put, List.setIfInBounds_toArray, List.set_cons_zero, List.set_cons_succ])
          refine wpAnyH_ready (rs := [10]) (by kernel_rfl) (by simp) ?_
          refine consL rfl (fun K hK => ?_) AllReadyH.nil
          go_simp
          refine hK.out _ _ p69 (fun hHeld => ?_)
          clear hK K
          (try simp only [Act.put, List.setIfInBounds_toArray, List.set_cons_zero, List.set_cons_succ])
          refine wpAnyH_done (by kernel_rfl) ?_ _
          go_wp2_with fail
          refine bodyPost_ret (v := .agg #[.int .i64 (k), .int .i64 (n), .int .i64 (ix), .int .u64 (u), .string (s), .slice (some ⟨g, 0, none⟩) n6 c6]) (by simp [results, Try.results39, go_sem, z80, z81, z82, z83, z84, z85]) rfl ?_
          have hok := Hok.out
          have e9 := HML.out
          have hmm : m.length ≤ m.length + 1 := Nat.le_succ _
          have hml : i < m.length := by rw [← e9]; exact HIM.out
          have hfin := HSET.out (m.set i ⟨(m[i]'(by rw [← e9]; exact HIM.out)).i, (m[i]'(by rw [← e9]; exact HIM.out)).u, zt⟩) (i * 3 + 2) (.string zt) (ens_set_s _ m i hml)
          have hW8 : Below w.heap.size w (w8.alloc (.cells #[.string ⟨#[]⟩, .string ⟨#[122]⟩, .string ⟨#[122, 122]⟩] 9)) := hW.out.alloc hW.out.size (.cells #[.string ⟨#[]⟩, .string ⟨#[122]⟩, .string ⟨#[122, 122]⟩] 9)
          have hfin2 := hfin.to (T := fun b => w.heap.size + 2 ≤ b ∧ b < ((w8.alloc (.cells #[.string ⟨#[]⟩, .string ⟨#[122]⟩, .string ⟨#[122, 122]⟩] 9)).setCell ⟨g, i * 3 + 2, none⟩ (.string zt)).heap.size) (fun b hb => ⟨⟨hb.1, by simpa [World.setCell] using hb.2⟩, rfl⟩)
          exact SpoPost.drew (spo_end (x := (⟨k, n, ix, u, s, m⟩ : Va)) rfl (hW8.setCell (p := ⟨g, i * 3 + 2, none⟩) (by have := HG.out.1; show _ ≤ g; omega) (.string zt)) ⟨k, n, ix, u, s, m.set i ⟨(m[i]'(by rw [← e9]; exact HIM.out)).i, (m[i]'(by rw [← e9]; exact HIM.out)).u, zt⟩⟩ ⟨Nat.le_add_right _ 2, by show (m.set _ _).length ≤ m.length + 1; simp⟩ ⟨hok.1, hok.2.1, hok.2.2.1, fun e he => (by
            rcases List.mem_or_eq_of_mem_set he with h | h
            · exact hok.2.2.2.1 e h
            · rw [h]; exact ⟨(hok.2.2.2.1 _ (List.getElem_mem (by rw [← e9]; exact HIM.out))).1, (hok.2.2.2.1 _ (List.getElem_mem (by rw [← e9]; exact HIM.out))).2.1, Nat.le_trans HZT.out (by decide)⟩), by show (m.set _ _).length ≤ 100000; simp; omega⟩ (by show n6 = (m.set _ _).length; rw [List.length_set]; exact e9) hC6.out hfin2 _ _ _ _ _ _)
      · have gp : decide (0 < (n6 : Int)) = false := decide_eq_false (by omega)
        clear h1
        go_wp2_with fail
        refine bodyPost_ret (v := .agg #[.int .i64 (k), .int .i64 (n), .int .i64 (ix), .int .u64 (u), .string (s), .slice A6 n6 c6]) (by simp [results, Try.results39, go_sem, z0, z1, z2, z3, z4, z5]) rfl ?_
        have hok := Hok.out
        have e9 := HML.out
        have hmm : m.length ≤ m.length + 1 := Nat.le_succ _
        exact spo_end (x := (⟨k, n, ix, u, s, m⟩ : Va)) rfl hW.out ⟨k, n, ix, u, s, m⟩ ⟨Nat.le_add_right _ 2, hmm⟩ hok e9 hC6.out (e9 ▸ hrow.out).list _ _ _ _ _ _
end Go.Proofs.Ytngfgohchnkidaa
