/-
  THE WALK of the reference's Sort. Written by gen/genr6sort.py.
-/
import Derived.Test.YtngfgohchnkidaaR6Sort
import Derived.Test.YtngfgohchnkidaaR6Bits
import Derived.Test.YtngfgohchnkidaaVaPut
namespace Go.Proofs.Ytngfgohchnkidaa
open Go.RowKit

/-- what Sort hands back -/
def SortPost (q : Nat) (w : World) (e : Ending) (w' : World) : Prop := ∃ k n ix : Int, e = .returned (.agg #[.int .i64 k, .int .i64 n, .int .i64 ix]) ∧ sortOk k n ix = true ∧ k = ((q % 4 : Nat) : Int) ∧ Below w.heap.size w w'
theorem three_set {w : World} {b : Nat} {t : TypeId} {c0 c1 c2 : Value} (hb : w.heap[b]? = some (.cells #[c0, c1, c2] t (0, 0))) (u : Value) : (w.setCell ⟨b, 2, none⟩ u).heap[b]? = some (.cells #[c0, c1, u] t (0, 0)) ∧ (w.setCell ⟨b, 1, none⟩ u).heap[b]? = some (.cells #[c0, u, c2] t (0, 0)) := by
  constructor
  · rw [blk_set hb]; rfl
  · rw [blk_set hb]; rfl
theorem Around_eq (n : Int) (hn : I64 n) : ∀ w : World, Calls Try.prog 24 #[.int .i64 n, .int .i64 1048576] w fun e w' => e = .returned (.int .i64 (((aroundI n 1048576).toNat : Nat) : Int)) ∧ w' = w := fun w => by
  have hb := aroundI_bounds (n := n) (most := 1048576) (by omega)
  rw [show (((aroundI n 1048576).toNat : Nat) : Int) = aroundI n 1048576 by omega]
  have := Around_any n 1048576 w hn (by omega) (by omega)
  exact Calls.mono this (fun e w' h => ⟨h.1, h.2.symm⟩)

set_option maxHeartbeats 2000000 in
set_option maxRecDepth 100000 in
theorem r6Sort_any (n : Int) (w : World) (hn : I64 n) : Calls Try.prog 38 #[.int .i64 n] w fun e w' => SortPost (aroundI n 1048576).toNat w e w' := by
  have hA := Lib.hid (Around_eq n hn)
  obtain ⟨q, hq⟩ : ∃ q : Nat, q = (aroundI n 1048576).toNat := ⟨_, rfl⟩
  have hqb : q < 1048576 := by have := aroundI_bounds (n := n) (most := 1048576) (by omega); omega
  rw [← hq] at hA ⊢
  clear hq
  obtain ⟨k, hk⟩ : ∃ k : Nat, k = q % 4 := ⟨_, rfl⟩
  have hk4 : k < 4 := by omega
  have ek : (q : Int) % 4 = (k : Int) := by omega
  obtain ⟨j, hj⟩ : ∃ j : Nat, j = q / 4 % 6 := ⟨_, rfl⟩
  have hj6 : j < 6 := by omega
  have ej : (q : Int) / 4 % 6 = (j : Int) := by omega
  have hj0 : (0 : Int) ≤ (j : Int) := by omega
  have hj1 : (j : Int) < 6 := by omega
  obtain ⟨i, hi⟩ : ∃ i : Nat, i = q / 24 % 5 := ⟨_, rfl⟩
  have hi5 : i < 5 := by omega
  have ei : (q : Int) / 24 % 5 = (i : Int) := by omega
  have hi0 : (0 : Int) ≤ (i : Int) := by omega
  have hi1 : (i : Int) < 5 := by omega
  obtain ⟨m, hm1, hm2, hmc⟩ : ∃ m : Int, 1 ≤ m ∧ m ≤ 64 ∧ (#[Value.int .i64 1, .int .i64 2, .int .i64 3, .int .i64 4, .int .i64 8, .int .i64 64] : Array Value)[j]? = some (.int .i64 m) := by
    rcases (show j = 0 ∨ j = 1 ∨ j = 2 ∨ j = 3 ∨ j = 4 ∨ j = 5 by omega) with rfl | rfl | rfl | rfl | rfl | rfl
    · exact ⟨1, by decide, by decide, rfl⟩
    · exact ⟨2, by decide, by decide, rfl⟩
    · exact ⟨3, by decide, by decide, rfl⟩
    · exact ⟨4, by decide, by decide, rfl⟩
    · exact ⟨8, by decide, by decide, rfl⟩
    · exact ⟨64, by decide, by decide, rfl⟩
  obtain ⟨x, hx1, hx2, hxc⟩ : ∃ x : Int, 1 ≤ x ∧ x ≤ 16 ∧ (#[Value.int .i64 1, .int .i64 2, .int .i64 2, .int .i64 3, .int .i64 16] : Array Value)[i]? = some (.int .i64 x) := by
    rcases (show i = 0 ∨ i = 1 ∨ i = 2 ∨ i = 3 ∨ i = 4 by omega) with rfl | rfl | rfl | rfl | rfl
    · exact ⟨1, by decide, by decide, rfl⟩
    · exact ⟨2, by decide, by decide, rfl⟩
    · exact ⟨2, by decide, by decide, rfl⟩
    · exact ⟨3, by decide, by decide, rfl⟩
    · exact ⟨16, by decide, by decide, rfl⟩
  have hkq : ((q % 4 : Nat) : Int) = (k : Int) := by omega
  rw [show SortPost q w = fun e w' => ∃ k' n ix : Int, e = .returned (.agg #[.int .i64 k', .int .i64 n, .int .i64 ix]) ∧ sortOk k' n ix = true ∧ k' = (k : Int) ∧ Below w.heap.size w w' from by unfold SortPost; rw [hkq]]
  clear hkq hk hj hi
  have hmc' := Lib.hid hmc
  have hxc' := Lib.hid hxc
  clear hmc hxc
  by_cases hz : q / 120 % 9 = 0
  · have gz : ((q : Int) / 120 % 9 == 0) = true := by rw [beq_iff_eq]; omega
    rcases (show k = 0 ∨ k = 1 ∨ k = 2 ∨ k = 3 by omega) with rfl | rfl | rfl | rfl
    · have ek2 : (q : Int) % 4 = 0 := ek
      clear ek
      have hAr := Lib.hid fun (n ix : Int) W => (show Calls Try.prog 45 #[.agg #[.int .i64 0, .int .i64 n, .int .i64 ix]] W fun e w' => e = .returned (.bool false) ∧ Below W.heap.size W w' from r6Array_any 0 n ix W)
      have hB : Below w.heap.size w w := Below.refl _ _
      have bs_r := Lib.hid (show w.heap.size ≤ w.heap.size from (by have h := hB.size; first | omega | (simp at h; omega)))
      have hb_r := Lib.hid (heap_alloc_new_at w (.cells #[.int .i64 0, .int .i64 0, .int .i64 0] 26) (n := w.heap.size) (by simp))
      have lt_r : w.heap.size < (w.alloc (.cells #[.int .i64 0, .int .i64 0, .int .i64 0] 26)).heap.size := by simp
      replace hB := hB.alloc hB.size (.cells #[.int .i64 0, .int .i64 0, .int .i64 0] 26)
      have bs_t := Lib.hid (show w.heap.size ≤ w.heap.size + 1 from (by have h := hB.size; first | omega | (simp at h; omega)))
      have or_r_t := Lib.hid (show w.heap.size < w.heap.size + 1 from (by have h := lt_r; first | omega | (simp at h; omega)))
      replace hb_r := Lib.hid ((Below.heap_alloc (w.alloc (.cells #[.int .i64 0, .int .i64 0, .int .i64 0] 26)) (.cells #[.int .i64 1, .int .i64 2, .int .i64 3, .int .i64 4, .int .i64 8, .int .i64 64] 3) _ lt_r).trans hb_r.out)
      replace lt_r := Nat.lt_trans lt_r (show (w.alloc (.cells #[.int .i64 0, .int .i64 0, .int .i64 0] 26)).heap.size < ((w.alloc (.cells #[.int .i64 0, .int .i64 0, .int .i64 0] 26)).alloc (.cells #[.int .i64 1, .int .i64 2, .int .i64 3, .int .i64 4, .int .i64 8, .int .i64 64] 3)).heap.size by simp)
      have hb_t := Lib.hid (heap_alloc_new_at (w.alloc (.cells #[.int .i64 0, .int .i64 0, .int .i64 0] 26)) (.cells #[.int .i64 1, .int .i64 2, .int .i64 3, .int .i64 4, .int .i64 8, .int .i64 64] 3) (n := w.heap.size + 1) (by simp))
      have lt_t : w.heap.size + 1 < ((w.alloc (.cells #[.int .i64 0, .int .i64 0, .int .i64 0] 26)).alloc (.cells #[.int .i64 1, .int .i64 2, .int .i64 3, .int .i64 4, .int .i64 8, .int .i64 64] 3)).heap.size := by simp
      replace hB := hB.alloc hB.size (.cells #[.int .i64 1, .int .i64 2, .int .i64 3, .int .i64 4, .int .i64 8, .int .i64 64] 3)
      have hcell : ((w.alloc (.cells #[.int .i64 0, .int .i64 0, .int .i64 0] 26)).alloc (.cells #[.int .i64 1, .int .i64 2, .int .i64 3, .int .i64 4, .int .i64 8, .int .i64 64] 3)).cell? ⟨w.heap.size + 1, j, none⟩ = some (.int .i64 m) := by rw [cell_of_row _ _ j _ _ _ hb_t.out]; exact hmc'.out
      have bs_o := Lib.hid (show w.heap.size ≤ w.heap.size + 1 + 1 from (by have h := hB.size; first | omega | (simp at h; omega)))
      have or_r_o := Lib.hid (show w.heap.size < w.heap.size + 1 + 1 from (by have h := lt_r; first | omega | (simp at h; omega)))
      have or_t_o := Lib.hid (show w.heap.size + 1 < w.heap.size + 1 + 1 from (by have h := lt_t; first | omega | (simp at h; omega)))
      replace hb_r := Lib.hid ((Below.heap_alloc ((w.alloc (.cells #[.int .i64 0, .int .i64 0, .int .i64 0] 26)).alloc (.cells #[.int .i64 1, .int .i64 2, .int .i64 3, .int .i64 4, .int .i64 8, .int .i64 64] 3)) (.cells #[.int .i64 0, .int .i64 m, .int .i64 0] 26) _ lt_r).trans hb_r.out)
      replace lt_r := Nat.lt_trans lt_r (show ((w.alloc (.cells #[.int .i64 0, .int .i64 0, .int .i64 0] 26)).alloc (.cells #[.int .i64 1, .int .i64 2, .int .i64 3, .int .i64 4, .int .i64 8, .int .i64 64] 3)).heap.size < (((w.alloc (.cells #[.int .i64 0, .int .i64 0, .int .i64 0] 26)).alloc (.cells #[.int .i64 1, .int .i64 2, .int .i64 3, .int .i64 4, .int .i64 8, .int .i64 64] 3)).alloc (.cells #[.int .i64 0, .int .i64 m, .int .i64 0] 26)).heap.size by simp)
      replace hb_t := Lib.hid ((Below.heap_alloc ((w.alloc (.cells #[.int .i64 0, .int .i64 0, .int .i64 0] 26)).alloc (.cells #[.int .i64 1, .int .i64 2, .int .i64 3, .int .i64 4, .int .i64 8, .int .i64 64] 3)) (.cells #[.int .i64 0, .int .i64 m, .int .i64 0] 26) _ lt_t).trans hb_t.out)
      replace lt_t := Nat.lt_trans lt_t (show ((w.alloc (.cells #[.int .i64 0, .int .i64 0, .int .i64 0] 26)).alloc (.cells #[.int .i64 1, .int .i64 2, .int .i64 3, .int .i64 4, .int .i64 8, .int .i64 64] 3)).heap.size < (((w.alloc (.cells #[.int .i64 0, .int .i64 0, .int .i64 0] 26)).alloc (.cells #[.int .i64 1, .int .i64 2, .int .i64 3, .int .i64 4, .int .i64 8, .int .i64 64] 3)).alloc (.cells #[.int .i64 0, .int .i64 m, .int .i64 0] 26)).heap.size by simp)
      have hb_o := Lib.hid (heap_alloc_new_at ((w.alloc (.cells #[.int .i64 0, .int .i64 0, .int .i64 0] 26)).alloc (.cells #[.int .i64 1, .int .i64 2, .int .i64 3, .int .i64 4, .int .i64 8, .int .i64 64] 3)) (.cells #[.int .i64 0, .int .i64 m, .int .i64 0] 26) (n := w.heap.size + 1 + 1) (by simp))
      have lt_o : w.heap.size + 1 + 1 < (((w.alloc (.cells #[.int .i64 0, .int .i64 0, .int .i64 0] 26)).alloc (.cells #[.int .i64 1, .int .i64 2, .int .i64 3, .int .i64 4, .int .i64 8, .int .i64 64] 3)).alloc (.cells #[.int .i64 0, .int .i64 m, .int .i64 0] 26)).heap.size := by simp
      replace hB := hB.alloc hB.size (.cells #[.int .i64 0, .int .i64 m, .int .i64 0] 26)
      obtain ⟨c_o0, c_o1, c_o2⟩ := three hb_o.out
      go_enter Try.func38, Try.ntmps38
      go_wp2_with (go_at_call 24; refine Calls.mono (hA.out _) ?_; rintro e w1 ⟨rfl, rfl⟩)
      clear c_o0 c_o1 c_o2 hcell
      generalize (((w.alloc (.cells #[.int .i64 0, .int .i64 0, .int .i64 0] 26)).alloc (.cells #[.int .i64 1, .int .i64 2, .int .i64 3, .int .i64 4, .int .i64 8, .int .i64 64] 3)).alloc (.cells #[.int .i64 0, .int .i64 m, .int .i64 0] 26)) = v4 at *
      refine Calls.mono (hAr.out _ _ _) ?_
      rintro e v5 ⟨rfl, hw⟩
      replace hb_r := Lib.hid ((hw.block _ lt_r).trans hb_r.out)
      replace lt_r := Nat.lt_of_lt_of_le lt_r hw.size
      replace hb_t := Lib.hid ((hw.block _ lt_t).trans hb_t.out)
      replace lt_t := Nat.lt_of_lt_of_le lt_t hw.size
      replace hb_o := Lib.hid ((hw.block _ lt_o).trans hb_o.out)
      replace lt_o := Nat.lt_of_lt_of_le lt_o hw.size
      replace hB := hB.trans (hw.mono hB.size)
      obtain ⟨d_o0, d_o1, d_o2⟩ := three hb_o.out
      have hf_r := blk_frozen hb_r.out
      obtain ⟨c_r0, c_r1, c_r2⟩ := three hb_r.out
      have HB := Lib.hid hB
      go_wp2_with fail
      refine bodyPost_ret (v := .agg #[.int .i64 0, .int .i64 m, .int .i64 0]) (by simp [results, Try.results38, go_sem, c_r0, c_r1, c_r2]) rfl ?_
      exact ⟨0, m, 0, rfl, by simp [sortOk] <;> omega, rfl, ((HB.out.setCell (p := ⟨w.heap.size, 0, none⟩) (Nat.le_refl _) _).setCell (p := ⟨w.heap.size, 1, none⟩) (Nat.le_refl _) _).setCell (p := ⟨w.heap.size, 2, none⟩) (Nat.le_refl _) _⟩
    · have ek2 : (q : Int) % 4 = 1 := ek
      clear ek
      have hAr := Lib.hid fun (n ix : Int) W => (show Calls Try.prog 45 #[.agg #[.int .i64 1, .int .i64 n, .int .i64 ix]] W fun e w' => e = .returned (.bool false) ∧ Below W.heap.size W w' from r6Array_any 1 n ix W)
      have hB : Below w.heap.size w w := Below.refl _ _
      have bs_r := Lib.hid (show w.heap.size ≤ w.heap.size from (by have h := hB.size; first | omega | (simp at h; omega)))
      have hb_r := Lib.hid (heap_alloc_new_at w (.cells #[.int .i64 0, .int .i64 0, .int .i64 0] 26) (n := w.heap.size) (by simp))
      have lt_r : w.heap.size < (w.alloc (.cells #[.int .i64 0, .int .i64 0, .int .i64 0] 26)).heap.size := by simp
      replace hB := hB.alloc hB.size (.cells #[.int .i64 0, .int .i64 0, .int .i64 0] 26)
      have bs_t := Lib.hid (show w.heap.size ≤ w.heap.size + 1 from (by have h := hB.size; first | omega | (simp at h; omega)))
      have or_r_t := Lib.hid (show w.heap.size < w.heap.size + 1 from (by have h := lt_r; first | omega | (simp at h; omega)))
      replace hb_r := Lib.hid ((Below.heap_alloc (w.alloc (.cells #[.int .i64 0, .int .i64 0, .int .i64 0] 26)) (.cells #[.int .i64 1, .int .i64 2, .int .i64 3, .int .i64 4, .int .i64 8, .int .i64 64] 3) _ lt_r).trans hb_r.out)
      replace lt_r := Nat.lt_trans lt_r (show (w.alloc (.cells #[.int .i64 0, .int .i64 0, .int .i64 0] 26)).heap.size < ((w.alloc (.cells #[.int .i64 0, .int .i64 0, .int .i64 0] 26)).alloc (.cells #[.int .i64 1, .int .i64 2, .int .i64 3, .int .i64 4, .int .i64 8, .int .i64 64] 3)).heap.size by simp)
      have hb_t := Lib.hid (heap_alloc_new_at (w.alloc (.cells #[.int .i64 0, .int .i64 0, .int .i64 0] 26)) (.cells #[.int .i64 1, .int .i64 2, .int .i64 3, .int .i64 4, .int .i64 8, .int .i64 64] 3) (n := w.heap.size + 1) (by simp))
      have lt_t : w.heap.size + 1 < ((w.alloc (.cells #[.int .i64 0, .int .i64 0, .int .i64 0] 26)).alloc (.cells #[.int .i64 1, .int .i64 2, .int .i64 3, .int .i64 4, .int .i64 8, .int .i64 64] 3)).heap.size := by simp
      replace hB := hB.alloc hB.size (.cells #[.int .i64 1, .int .i64 2, .int .i64 3, .int .i64 4, .int .i64 8, .int .i64 64] 3)
      have hcell : ((w.alloc (.cells #[.int .i64 0, .int .i64 0, .int .i64 0] 26)).alloc (.cells #[.int .i64 1, .int .i64 2, .int .i64 3, .int .i64 4, .int .i64 8, .int .i64 64] 3)).cell? ⟨w.heap.size + 1, j, none⟩ = some (.int .i64 m) := by rw [cell_of_row _ _ j _ _ _ hb_t.out]; exact hmc'.out
      have bs_o := Lib.hid (show w.heap.size ≤ w.heap.size + 1 + 1 from (by have h := hB.size; first | omega | (simp at h; omega)))
      have or_r_o := Lib.hid (show w.heap.size < w.heap.size + 1 + 1 from (by have h := lt_r; first | omega | (simp at h; omega)))
      have or_t_o := Lib.hid (show w.heap.size + 1 < w.heap.size + 1 + 1 from (by have h := lt_t; first | omega | (simp at h; omega)))
      replace hb_r := Lib.hid ((Below.heap_alloc ((w.alloc (.cells #[.int .i64 0, .int .i64 0, .int .i64 0] 26)).alloc (.cells #[.int .i64 1, .int .i64 2, .int .i64 3, .int .i64 4, .int .i64 8, .int .i64 64] 3)) (.cells #[.int .i64 1, .int .i64 m, .int .i64 0] 26) _ lt_r).trans hb_r.out)
      replace lt_r := Nat.lt_trans lt_r (show ((w.alloc (.cells #[.int .i64 0, .int .i64 0, .int .i64 0] 26)).alloc (.cells #[.int .i64 1, .int .i64 2, .int .i64 3, .int .i64 4, .int .i64 8, .int .i64 64] 3)).heap.size < (((w.alloc (.cells #[.int .i64 0, .int .i64 0, .int .i64 0] 26)).alloc (.cells #[.int .i64 1, .int .i64 2, .int .i64 3, .int .i64 4, .int .i64 8, .int .i64 64] 3)).alloc (.cells #[.int .i64 1, .int .i64 m, .int .i64 0] 26)).heap.size by simp)
      replace hb_t := Lib.hid ((Below.heap_alloc ((w.alloc (.cells #[.int .i64 0, .int .i64 0, .int .i64 0] 26)).alloc (.cells #[.int .i64 1, .int .i64 2, .int .i64 3, .int .i64 4, .int .i64 8, .int .i64 64] 3)) (.cells #[.int .i64 1, .int .i64 m, .int .i64 0] 26) _ lt_t).trans hb_t.out)
      replace lt_t := Nat.lt_trans lt_t (show ((w.alloc (.cells #[.int .i64 0, .int .i64 0, .int .i64 0] 26)).alloc (.cells #[.int .i64 1, .int .i64 2, .int .i64 3, .int .i64 4, .int .i64 8, .int .i64 64] 3)).heap.size < (((w.alloc (.cells #[.int .i64 0, .int .i64 0, .int .i64 0] 26)).alloc (.cells #[.int .i64 1, .int .i64 2, .int .i64 3, .int .i64 4, .int .i64 8, .int .i64 64] 3)).alloc (.cells #[.int .i64 1, .int .i64 m, .int .i64 0] 26)).heap.size by simp)
      have hb_o := Lib.hid (heap_alloc_new_at ((w.alloc (.cells #[.int .i64 0, .int .i64 0, .int .i64 0] 26)).alloc (.cells #[.int .i64 1, .int .i64 2, .int .i64 3, .int .i64 4, .int .i64 8, .int .i64 64] 3)) (.cells #[.int .i64 1, .int .i64 m, .int .i64 0] 26) (n := w.heap.size + 1 + 1) (by simp))
      have lt_o : w.heap.size + 1 + 1 < (((w.alloc (.cells #[.int .i64 0, .int .i64 0, .int .i64 0] 26)).alloc (.cells #[.int .i64 1, .int .i64 2, .int .i64 3, .int .i64 4, .int .i64 8, .int .i64 64] 3)).alloc (.cells #[.int .i64 1, .int .i64 m, .int .i64 0] 26)).heap.size := by simp
      replace hB := hB.alloc hB.size (.cells #[.int .i64 1, .int .i64 m, .int .i64 0] 26)
      obtain ⟨c_o0, c_o1, c_o2⟩ := three hb_o.out
      go_enter Try.func38, Try.ntmps38
      go_wp2_with (go_at_call 24; refine Calls.mono (hA.out _) ?_; rintro e w1 ⟨rfl, rfl⟩)
      clear c_o0 c_o1 c_o2 hcell
      generalize (((w.alloc (.cells #[.int .i64 0, .int .i64 0, .int .i64 0] 26)).alloc (.cells #[.int .i64 1, .int .i64 2, .int .i64 3, .int .i64 4, .int .i64 8, .int .i64 64] 3)).alloc (.cells #[.int .i64 1, .int .i64 m, .int .i64 0] 26)) = v4 at *
      refine Calls.mono (hAr.out _ _ _) ?_
      rintro e v5 ⟨rfl, hw⟩
      replace hb_r := Lib.hid ((hw.block _ lt_r).trans hb_r.out)
      replace lt_r := Nat.lt_of_lt_of_le lt_r hw.size
      replace hb_t := Lib.hid ((hw.block _ lt_t).trans hb_t.out)
      replace lt_t := Nat.lt_of_lt_of_le lt_t hw.size
      replace hb_o := Lib.hid ((hw.block _ lt_o).trans hb_o.out)
      replace lt_o := Nat.lt_of_lt_of_le lt_o hw.size
      replace hB := hB.trans (hw.mono hB.size)
      obtain ⟨d_o0, d_o1, d_o2⟩ := three hb_o.out
      have hg_o := blk_frozen hb_o.out
      have hs_o : w.heap.size + 1 + 1 < v5.heap.size := lt_o
      replace hb_r := Lib.hid ((Below.heap_setCell v5 ⟨w.heap.size + 1 + 1, 1, none⟩ (.int .i64 0) (w.heap.size) (by have := or_r_o.out; first | omega | (simp; done) | (simp; omega))).trans hb_r.out)
      replace hb_t := Lib.hid ((Below.heap_setCell v5 ⟨w.heap.size + 1 + 1, 1, none⟩ (.int .i64 0) (w.heap.size + 1) (by have := or_t_o.out; first | omega | (simp; done) | (simp; omega))).trans hb_t.out)
      have hb_on : (v5.setCell ⟨w.heap.size + 1 + 1, 1, none⟩ (.int .i64 0)).heap[w.heap.size + 1 + 1]? = some (.cells #[.int .i64 1, .int .i64 0, .int .i64 0] 26 (0, 0)) := (blk_set hb_o.out (.int .i64 0)).trans rfl
      replace hb_o := Lib.hid hb_on
      clear hb_on
      replace lt_r : w.heap.size < (v5.setCell ⟨w.heap.size + 1 + 1, 1, none⟩ (.int .i64 0)).heap.size := Nat.lt_of_lt_of_eq lt_r (show v5.heap.size = (v5.setCell ⟨w.heap.size + 1 + 1, 1, none⟩ (.int .i64 0)).heap.size by simp [World.setCell])
      replace lt_t : w.heap.size + 1 < (v5.setCell ⟨w.heap.size + 1 + 1, 1, none⟩ (.int .i64 0)).heap.size := Nat.lt_of_lt_of_eq lt_t (show v5.heap.size = (v5.setCell ⟨w.heap.size + 1 + 1, 1, none⟩ (.int .i64 0)).heap.size by simp [World.setCell])
      replace lt_o : w.heap.size + 1 + 1 < (v5.setCell ⟨w.heap.size + 1 + 1, 1, none⟩ (.int .i64 0)).heap.size := Nat.lt_of_lt_of_eq lt_o (show v5.heap.size = (v5.setCell ⟨w.heap.size + 1 + 1, 1, none⟩ (.int .i64 0)).heap.size by simp [World.setCell])
      replace hB := hB.setCell (p := ⟨w.heap.size + 1 + 1, 1, none⟩) bs_o.out (.int .i64 0)
      obtain ⟨f_o0, f_o1, f_o2⟩ := three hb_o.out
      have hf_r := blk_frozen hb_r.out
      obtain ⟨c_r0, c_r1, c_r2⟩ := three hb_r.out
      have HB := Lib.hid hB
      go_wp2_with fail
      refine bodyPost_ret (v := .agg #[.int .i64 1, .int .i64 0, .int .i64 0]) (by simp [results, Try.results38, go_sem, c_r0, c_r1, c_r2]) rfl ?_
      exact ⟨1, 0, 0, rfl, by simp [sortOk] <;> omega, rfl, ((HB.out.setCell (p := ⟨w.heap.size, 0, none⟩) (Nat.le_refl _) _).setCell (p := ⟨w.heap.size, 1, none⟩) (Nat.le_refl _) _).setCell (p := ⟨w.heap.size, 2, none⟩) (Nat.le_refl _) _⟩
    · have ek2 : (q : Int) % 4 = 2 := ek
      clear ek
      have hAr := Lib.hid fun (n ix : Int) W => (show Calls Try.prog 45 #[.agg #[.int .i64 2, .int .i64 n, .int .i64 ix]] W fun e w' => e = .returned (.bool true) ∧ Below W.heap.size W w' from r6Array_any 2 n ix W)
      have hB : Below w.heap.size w w := Below.refl _ _
      have bs_r := Lib.hid (show w.heap.size ≤ w.heap.size from (by have h := hB.size; first | omega | (simp at h; omega)))
      have hb_r := Lib.hid (heap_alloc_new_at w (.cells #[.int .i64 0, .int .i64 0, .int .i64 0] 26) (n := w.heap.size) (by simp))
      have lt_r : w.heap.size < (w.alloc (.cells #[.int .i64 0, .int .i64 0, .int .i64 0] 26)).heap.size := by simp
      replace hB := hB.alloc hB.size (.cells #[.int .i64 0, .int .i64 0, .int .i64 0] 26)
      have bs_t := Lib.hid (show w.heap.size ≤ w.heap.size + 1 from (by have h := hB.size; first | omega | (simp at h; omega)))
      have or_r_t := Lib.hid (show w.heap.size < w.heap.size + 1 from (by have h := lt_r; first | omega | (simp at h; omega)))
      replace hb_r := Lib.hid ((Below.heap_alloc (w.alloc (.cells #[.int .i64 0, .int .i64 0, .int .i64 0] 26)) (.cells #[.int .i64 1, .int .i64 2, .int .i64 3, .int .i64 4, .int .i64 8, .int .i64 64] 3) _ lt_r).trans hb_r.out)
      replace lt_r := Nat.lt_trans lt_r (show (w.alloc (.cells #[.int .i64 0, .int .i64 0, .int .i64 0] 26)).heap.size < ((w.alloc (.cells #[.int .i64 0, .int .i64 0, .int .i64 0] 26)).alloc (.cells #[.int .i64 1, .int .i64 2, .int .i64 3, .int .i64 4, .int .i64 8, .int .i64 64] 3)).heap.size by simp)
      have hb_t := Lib.hid (heap_alloc_new_at (w.alloc (.cells #[.int .i64 0, .int .i64 0, .int .i64 0] 26)) (.cells #[.int .i64 1, .int .i64 2, .int .i64 3, .int .i64 4, .int .i64 8, .int .i64 64] 3) (n := w.heap.size + 1) (by simp))
      have lt_t : w.heap.size + 1 < ((w.alloc (.cells #[.int .i64 0, .int .i64 0, .int .i64 0] 26)).alloc (.cells #[.int .i64 1, .int .i64 2, .int .i64 3, .int .i64 4, .int .i64 8, .int .i64 64] 3)).heap.size := by simp
      replace hB := hB.alloc hB.size (.cells #[.int .i64 1, .int .i64 2, .int .i64 3, .int .i64 4, .int .i64 8, .int .i64 64] 3)
      have hcell : ((w.alloc (.cells #[.int .i64 0, .int .i64 0, .int .i64 0] 26)).alloc (.cells #[.int .i64 1, .int .i64 2, .int .i64 3, .int .i64 4, .int .i64 8, .int .i64 64] 3)).cell? ⟨w.heap.size + 1, j, none⟩ = some (.int .i64 m) := by rw [cell_of_row _ _ j _ _ _ hb_t.out]; exact hmc'.out
      have bs_o := Lib.hid (show w.heap.size ≤ w.heap.size + 1 + 1 from (by have h := hB.size; first | omega | (simp at h; omega)))
      have or_r_o := Lib.hid (show w.heap.size < w.heap.size + 1 + 1 from (by have h := lt_r; first | omega | (simp at h; omega)))
      have or_t_o := Lib.hid (show w.heap.size + 1 < w.heap.size + 1 + 1 from (by have h := lt_t; first | omega | (simp at h; omega)))
      replace hb_r := Lib.hid ((Below.heap_alloc ((w.alloc (.cells #[.int .i64 0, .int .i64 0, .int .i64 0] 26)).alloc (.cells #[.int .i64 1, .int .i64 2, .int .i64 3, .int .i64 4, .int .i64 8, .int .i64 64] 3)) (.cells #[.int .i64 2, .int .i64 m, .int .i64 0] 26) _ lt_r).trans hb_r.out)
      replace lt_r := Nat.lt_trans lt_r (show ((w.alloc (.cells #[.int .i64 0, .int .i64 0, .int .i64 0] 26)).alloc (.cells #[.int .i64 1, .int .i64 2, .int .i64 3, .int .i64 4, .int .i64 8, .int .i64 64] 3)).heap.size < (((w.alloc (.cells #[.int .i64 0, .int .i64 0, .int .i64 0] 26)).alloc (.cells #[.int .i64 1, .int .i64 2, .int .i64 3, .int .i64 4, .int .i64 8, .int .i64 64] 3)).alloc (.cells #[.int .i64 2, .int .i64 m, .int .i64 0] 26)).heap.size by simp)
      replace hb_t := Lib.hid ((Below.heap_alloc ((w.alloc (.cells #[.int .i64 0, .int .i64 0, .int .i64 0] 26)).alloc (.cells #[.int .i64 1, .int .i64 2, .int .i64 3, .int .i64 4, .int .i64 8, .int .i64 64] 3)) (.cells #[.int .i64 2, .int .i64 m, .int .i64 0] 26) _ lt_t).trans hb_t.out)
      replace lt_t := Nat.lt_trans lt_t (show ((w.alloc (.cells #[.int .i64 0, .int .i64 0, .int .i64 0] 26)).alloc (.cells #[.int .i64 1, .int .i64 2, .int .i64 3, .int .i64 4, .int .i64 8, .int .i64 64] 3)).heap.size < (((w.alloc (.cells #[.int .i64 0, .int .i64 0, .int .i64 0] 26)).alloc (.cells #[.int .i64 1, .int .i64 2, .int .i64 3, .int .i64 4, .int .i64 8, .int .i64 64] 3)).alloc (.cells #[.int .i64 2, .int .i64 m, .int .i64 0] 26)).heap.size by simp)
      have hb_o := Lib.hid (heap_alloc_new_at ((w.alloc (.cells #[.int .i64 0, .int .i64 0, .int .i64 0] 26)).alloc (.cells #[.int .i64 1, .int .i64 2, .int .i64 3, .int .i64 4, .int .i64 8, .int .i64 64] 3)) (.cells #[.int .i64 2, .int .i64 m, .int .i64 0] 26) (n := w.heap.size + 1 + 1) (by simp))
      have lt_o : w.heap.size + 1 + 1 < (((w.alloc (.cells #[.int .i64 0, .int .i64 0, .int .i64 0] 26)).alloc (.cells #[.int .i64 1, .int .i64 2, .int .i64 3, .int .i64 4, .int .i64 8, .int .i64 64] 3)).alloc (.cells #[.int .i64 2, .int .i64 m, .int .i64 0] 26)).heap.size := by simp
      replace hB := hB.alloc hB.size (.cells #[.int .i64 2, .int .i64 m, .int .i64 0] 26)
      obtain ⟨c_o0, c_o1, c_o2⟩ := three hb_o.out
      go_enter Try.func38, Try.ntmps38
      go_wp2_with (go_at_call 24; refine Calls.mono (hA.out _) ?_; rintro e w1 ⟨rfl, rfl⟩)
      clear c_o0 c_o1 c_o2 hcell
      generalize (((w.alloc (.cells #[.int .i64 0, .int .i64 0, .int .i64 0] 26)).alloc (.cells #[.int .i64 1, .int .i64 2, .int .i64 3, .int .i64 4, .int .i64 8, .int .i64 64] 3)).alloc (.cells #[.int .i64 2, .int .i64 m, .int .i64 0] 26)) = v4 at *
      refine Calls.mono (hAr.out _ _ _) ?_
      rintro e v5 ⟨rfl, hw⟩
      replace hb_r := Lib.hid ((hw.block _ lt_r).trans hb_r.out)
      replace lt_r := Nat.lt_of_lt_of_le lt_r hw.size
      replace hb_t := Lib.hid ((hw.block _ lt_t).trans hb_t.out)
      replace lt_t := Nat.lt_of_lt_of_le lt_t hw.size
      replace hb_o := Lib.hid ((hw.block _ lt_o).trans hb_o.out)
      replace lt_o := Nat.lt_of_lt_of_le lt_o hw.size
      replace hB := hB.trans (hw.mono hB.size)
      have bs_t2 := Lib.hid (show w.heap.size ≤ v5.heap.size from (by have h := hB.size; first | omega | (simp at h; omega)))
      have or_r_t2 := Lib.hid (show w.heap.size < v5.heap.size from (by have h := lt_r; first | omega | (simp at h; omega)))
      have or_t_t2 := Lib.hid (show w.heap.size + 1 < v5.heap.size from (by have h := lt_t; first | omega | (simp at h; omega)))
      have or_o_t2 := Lib.hid (show w.heap.size + 1 + 1 < v5.heap.size from (by have h := lt_o; first | omega | (simp at h; omega)))
      replace hb_r := Lib.hid ((Below.heap_alloc v5 (.cells #[.int .i64 1, .int .i64 2, .int .i64 2, .int .i64 3, .int .i64 16] 3) _ lt_r).trans hb_r.out)
      replace lt_r := Nat.lt_trans lt_r (show v5.heap.size < (v5.alloc (.cells #[.int .i64 1, .int .i64 2, .int .i64 2, .int .i64 3, .int .i64 16] 3)).heap.size by simp)
      replace hb_t := Lib.hid ((Below.heap_alloc v5 (.cells #[.int .i64 1, .int .i64 2, .int .i64 2, .int .i64 3, .int .i64 16] 3) _ lt_t).trans hb_t.out)
      replace lt_t := Nat.lt_trans lt_t (show v5.heap.size < (v5.alloc (.cells #[.int .i64 1, .int .i64 2, .int .i64 2, .int .i64 3, .int .i64 16] 3)).heap.size by simp)
      replace hb_o := Lib.hid ((Below.heap_alloc v5 (.cells #[.int .i64 1, .int .i64 2, .int .i64 2, .int .i64 3, .int .i64 16] 3) _ lt_o).trans hb_o.out)
      replace lt_o := Nat.lt_trans lt_o (show v5.heap.size < (v5.alloc (.cells #[.int .i64 1, .int .i64 2, .int .i64 2, .int .i64 3, .int .i64 16] 3)).heap.size by simp)
      have hb_t2 := Lib.hid (heap_alloc_new_at v5 (.cells #[.int .i64 1, .int .i64 2, .int .i64 2, .int .i64 3, .int .i64 16] 3) (n := v5.heap.size) (by simp))
      have lt_t2 : v5.heap.size < (v5.alloc (.cells #[.int .i64 1, .int .i64 2, .int .i64 2, .int .i64 3, .int .i64 16] 3)).heap.size := by simp
      replace hB := hB.alloc hB.size (.cells #[.int .i64 1, .int .i64 2, .int .i64 2, .int .i64 3, .int .i64 16] 3)
      have hcell : (v5.alloc (.cells #[.int .i64 1, .int .i64 2, .int .i64 2, .int .i64 3, .int .i64 16] 3)).cell? ⟨v5.heap.size, i, none⟩ = some (.int .i64 x) := by rw [cell_of_row _ _ i _ _ _ hb_t2.out]; exact hxc'.out
      obtain ⟨c_o0, c_o1, c_o2⟩ := three hb_o.out
      have hf_o := blk_frozen hb_o.out
      have hs_o : w.heap.size + 1 + 1 < (v5.alloc (.cells #[.int .i64 1, .int .i64 2, .int .i64 2, .int .i64 3, .int .i64 16] 3)).heap.size := lt_o
      replace hb_r := Lib.hid ((Below.heap_setCell (v5.alloc (.cells #[.int .i64 1, .int .i64 2, .int .i64 2, .int .i64 3, .int .i64 16] 3)) ⟨w.heap.size + 1 + 1, 2, none⟩ (.int .i64 x) (w.heap.size) (by have := or_r_o.out; first | omega | (simp; done) | (simp; omega))).trans hb_r.out)
      replace hb_t := Lib.hid ((Below.heap_setCell (v5.alloc (.cells #[.int .i64 1, .int .i64 2, .int .i64 2, .int .i64 3, .int .i64 16] 3)) ⟨w.heap.size + 1 + 1, 2, none⟩ (.int .i64 x) (w.heap.size + 1) (by have := or_t_o.out; first | omega | (simp; done) | (simp; omega))).trans hb_t.out)
      replace hb_t2 := Lib.hid ((Below.heap_setCell (v5.alloc (.cells #[.int .i64 1, .int .i64 2, .int .i64 2, .int .i64 3, .int .i64 16] 3)) ⟨w.heap.size + 1 + 1, 2, none⟩ (.int .i64 x) (v5.heap.size) (by have := or_o_t2.out; first | omega | (simp; done) | (simp; omega))).trans hb_t2.out)
      have hb_on : ((v5.alloc (.cells #[.int .i64 1, .int .i64 2, .int .i64 2, .int .i64 3, .int .i64 16] 3)).setCell ⟨w.heap.size + 1 + 1, 2, none⟩ (.int .i64 x)).heap[w.heap.size + 1 + 1]? = some (.cells #[.int .i64 2, .int .i64 m, .int .i64 x] 26 (0, 0)) := (blk_set hb_o.out (.int .i64 x)).trans rfl
      replace hb_o := Lib.hid hb_on
      clear hb_on
      replace lt_r : w.heap.size < ((v5.alloc (.cells #[.int .i64 1, .int .i64 2, .int .i64 2, .int .i64 3, .int .i64 16] 3)).setCell ⟨w.heap.size + 1 + 1, 2, none⟩ (.int .i64 x)).heap.size := Nat.lt_of_lt_of_eq lt_r (show (v5.alloc (.cells #[.int .i64 1, .int .i64 2, .int .i64 2, .int .i64 3, .int .i64 16] 3)).heap.size = ((v5.alloc (.cells #[.int .i64 1, .int .i64 2, .int .i64 2, .int .i64 3, .int .i64 16] 3)).setCell ⟨w.heap.size + 1 + 1, 2, none⟩ (.int .i64 x)).heap.size by simp [World.setCell])
      replace lt_t : w.heap.size + 1 < ((v5.alloc (.cells #[.int .i64 1, .int .i64 2, .int .i64 2, .int .i64 3, .int .i64 16] 3)).setCell ⟨w.heap.size + 1 + 1, 2, none⟩ (.int .i64 x)).heap.size := Nat.lt_of_lt_of_eq lt_t (show (v5.alloc (.cells #[.int .i64 1, .int .i64 2, .int .i64 2, .int .i64 3, .int .i64 16] 3)).heap.size = ((v5.alloc (.cells #[.int .i64 1, .int .i64 2, .int .i64 2, .int .i64 3, .int .i64 16] 3)).setCell ⟨w.heap.size + 1 + 1, 2, none⟩ (.int .i64 x)).heap.size by simp [World.setCell])
      replace lt_o : w.heap.size + 1 + 1 < ((v5.alloc (.cells #[.int .i64 1, .int .i64 2, .int .i64 2, .int .i64 3, .int .i64 16] 3)).setCell ⟨w.heap.size + 1 + 1, 2, none⟩ (.int .i64 x)).heap.size := Nat.lt_of_lt_of_eq lt_o (show (v5.alloc (.cells #[.int .i64 1, .int .i64 2, .int .i64 2, .int .i64 3, .int .i64 16] 3)).heap.size = ((v5.alloc (.cells #[.int .i64 1, .int .i64 2, .int .i64 2, .int .i64 3, .int .i64 16] 3)).setCell ⟨w.heap.size + 1 + 1, 2, none⟩ (.int .i64 x)).heap.size by simp [World.setCell])
      replace lt_t2 : v5.heap.size < ((v5.alloc (.cells #[.int .i64 1, .int .i64 2, .int .i64 2, .int .i64 3, .int .i64 16] 3)).setCell ⟨w.heap.size + 1 + 1, 2, none⟩ (.int .i64 x)).heap.size := Nat.lt_of_lt_of_eq lt_t2 (show (v5.alloc (.cells #[.int .i64 1, .int .i64 2, .int .i64 2, .int .i64 3, .int .i64 16] 3)).heap.size = ((v5.alloc (.cells #[.int .i64 1, .int .i64 2, .int .i64 2, .int .i64 3, .int .i64 16] 3)).setCell ⟨w.heap.size + 1 + 1, 2, none⟩ (.int .i64 x)).heap.size by simp [World.setCell])
      replace hB := hB.setCell (p := ⟨w.heap.size + 1 + 1, 2, none⟩) bs_o.out (.int .i64 x)
      obtain ⟨d_o0, d_o1, d_o2⟩ := three hb_o.out
      have hf_r := blk_frozen hb_r.out
      obtain ⟨c_r0, c_r1, c_r2⟩ := three hb_r.out
      have HB := Lib.hid hB
      go_wp2_with fail
      refine bodyPost_ret (v := .agg #[.int .i64 2, .int .i64 m, .int .i64 x]) (by simp [results, Try.results38, go_sem, c_r0, c_r1, c_r2]) rfl ?_
      exact ⟨2, m, x, rfl, by simp [sortOk] <;> omega, rfl, ((HB.out.setCell (p := ⟨w.heap.size, 0, none⟩) (Nat.le_refl _) _).setCell (p := ⟨w.heap.size, 1, none⟩) (Nat.le_refl _) _).setCell (p := ⟨w.heap.size, 2, none⟩) (Nat.le_refl _) _⟩
    · have ek2 : (q : Int) % 4 = 3 := ek
      clear ek
      have hAr := Lib.hid fun (n ix : Int) W => (show Calls Try.prog 45 #[.agg #[.int .i64 3, .int .i64 n, .int .i64 ix]] W fun e w' => e = .returned (.bool true) ∧ Below W.heap.size W w' from r6Array_any 3 n ix W)
      have hB : Below w.heap.size w w := Below.refl _ _
      have bs_r := Lib.hid (show w.heap.size ≤ w.heap.size from (by have h := hB.size; first | omega | (simp at h; omega)))
      have hb_r := Lib.hid (heap_alloc_new_at w (.cells #[.int .i64 0, .int .i64 0, .int .i64 0] 26) (n := w.heap.size) (by simp))
      have lt_r : w.heap.size < (w.alloc (.cells #[.int .i64 0, .int .i64 0, .int .i64 0] 26)).heap.size := by simp
      replace hB := hB.alloc hB.size (.cells #[.int .i64 0, .int .i64 0, .int .i64 0] 26)
      have bs_t := Lib.hid (show w.heap.size ≤ w.heap.size + 1 from (by have h := hB.size; first | omega | (simp at h; omega)))
      have or_r_t := Lib.hid (show w.heap.size < w.heap.size + 1 from (by have h := lt_r; first | omega | (simp at h; omega)))
      replace hb_r := Lib.hid ((Below.heap_alloc (w.alloc (.cells #[.int .i64 0, .int .i64 0, .int .i64 0] 26)) (.cells #[.int .i64 1, .int .i64 2, .int .i64 3, .int .i64 4, .int .i64 8, .int .i64 64] 3) _ lt_r).trans hb_r.out)
      replace lt_r := Nat.lt_trans lt_r (show (w.alloc (.cells #[.int .i64 0, .int .i64 0, .int .i64 0] 26)).heap.size < ((w.alloc (.cells #[.int .i64 0, .int .i64 0, .int .i64 0] 26)).alloc (.cells #[.int .i64 1, .int .i64 2, .int .i64 3, .int .i64 4, .int .i64 8, .int .i64 64] 3)).heap.size by simp)
      have hb_t := Lib.hid (heap_alloc_new_at (w.alloc (.cells #[.int .i64 0, .int .i64 0, .int .i64 0] 26)) (.cells #[.int .i64 1, .int .i64 2, .int .i64 3, .int .i64 4, .int .i64 8, .int .i64 64] 3) (n := w.heap.size + 1) (by simp))
      have lt_t : w.heap.size + 1 < ((w.alloc (.cells #[.int .i64 0, .int .i64 0, .int .i64 0] 26)).alloc (.cells #[.int .i64 1, .int .i64 2, .int .i64 3, .int .i64 4, .int .i64 8, .int .i64 64] 3)).heap.size := by simp
      replace hB := hB.alloc hB.size (.cells #[.int .i64 1, .int .i64 2, .int .i64 3, .int .i64 4, .int .i64 8, .int .i64 64] 3)
      have hcell : ((w.alloc (.cells #[.int .i64 0, .int .i64 0, .int .i64 0] 26)).alloc (.cells #[.int .i64 1, .int .i64 2, .int .i64 3, .int .i64 4, .int .i64 8, .int .i64 64] 3)).cell? ⟨w.heap.size + 1, j, none⟩ = some (.int .i64 m) := by rw [cell_of_row _ _ j _ _ _ hb_t.out]; exact hmc'.out
      have bs_o := Lib.hid (show w.heap.size ≤ w.heap.size + 1 + 1 from (by have h := hB.size; first | omega | (simp at h; omega)))
      have or_r_o := Lib.hid (show w.heap.size < w.heap.size + 1 + 1 from (by have h := lt_r; first | omega | (simp at h; omega)))
      have or_t_o := Lib.hid (show w.heap.size + 1 < w.heap.size + 1 + 1 from (by have h := lt_t; first | omega | (simp at h; omega)))
      replace hb_r := Lib.hid ((Below.heap_alloc ((w.alloc (.cells #[.int .i64 0, .int .i64 0, .int .i64 0] 26)).alloc (.cells #[.int .i64 1, .int .i64 2, .int .i64 3, .int .i64 4, .int .i64 8, .int .i64 64] 3)) (.cells #[.int .i64 3, .int .i64 m, .int .i64 0] 26) _ lt_r).trans hb_r.out)
      replace lt_r := Nat.lt_trans lt_r (show ((w.alloc (.cells #[.int .i64 0, .int .i64 0, .int .i64 0] 26)).alloc (.cells #[.int .i64 1, .int .i64 2, .int .i64 3, .int .i64 4, .int .i64 8, .int .i64 64] 3)).heap.size < (((w.alloc (.cells #[.int .i64 0, .int .i64 0, .int .i64 0] 26)).alloc (.cells #[.int .i64 1, .int .i64 2, .int .i64 3, .int .i64 4, .int .i64 8, .int .i64 64] 3)).alloc (.cells #[.int .i64 3, .int .i64 m, .int .i64 0] 26)).heap.size by simp)
      replace hb_t := Lib.hid ((Below.heap_alloc ((w.alloc (.cells #[.int .i64 0, .int .i64 0, .int .i64 0] 26)).alloc (.cells #[.int .i64 1, .int .i64 2, .int .i64 3, .int .i64 4, .int .i64 8, .int .i64 64] 3)) (.cells #[.int .i64 3, .int .i64 m, .int .i64 0] 26) _ lt_t).trans hb_t.out)
      replace lt_t := Nat.lt_trans lt_t (show ((w.alloc (.cells #[.int .i64 0, .int .i64 0, .int .i64 0] 26)).alloc (.cells #[.int .i64 1, .int .i64 2, .int .i64 3, .int .i64 4, .int .i64 8, .int .i64 64] 3)).heap.size < (((w.alloc (.cells #[.int .i64 0, .int .i64 0, .int .i64 0] 26)).alloc (.cells #[.int .i64 1, .int .i64 2, .int .i64 3, .int .i64 4, .int .i64 8, .int .i64 64] 3)).alloc (.cells #[.int .i64 3, .int .i64 m, .int .i64 0] 26)).heap.size by simp)
      have hb_o := Lib.hid (heap_alloc_new_at ((w.alloc (.cells #[.int .i64 0, .int .i64 0, .int .i64 0] 26)).alloc (.cells #[.int .i64 1, .int .i64 2, .int .i64 3, .int .i64 4, .int .i64 8, .int .i64 64] 3)) (.cells #[.int .i64 3, .int .i64 m, .int .i64 0] 26) (n := w.heap.size + 1 + 1) (by simp))
      have lt_o : w.heap.size + 1 + 1 < (((w.alloc (.cells #[.int .i64 0, .int .i64 0, .int .i64 0] 26)).alloc (.cells #[.int .i64 1, .int .i64 2, .int .i64 3, .int .i64 4, .int .i64 8, .int .i64 64] 3)).alloc (.cells #[.int .i64 3, .int .i64 m, .int .i64 0] 26)).heap.size := by simp
      replace hB := hB.alloc hB.size (.cells #[.int .i64 3, .int .i64 m, .int .i64 0] 26)
      obtain ⟨c_o0, c_o1, c_o2⟩ := three hb_o.out
      go_enter Try.func38, Try.ntmps38
      go_wp2_with (go_at_call 24; refine Calls.mono (hA.out _) ?_; rintro e w1 ⟨rfl, rfl⟩)
      clear c_o0 c_o1 c_o2 hcell
      generalize (((w.alloc (.cells #[.int .i64 0, .int .i64 0, .int .i64 0] 26)).alloc (.cells #[.int .i64 1, .int .i64 2, .int .i64 3, .int .i64 4, .int .i64 8, .int .i64 64] 3)).alloc (.cells #[.int .i64 3, .int .i64 m, .int .i64 0] 26)) = v4 at *
      refine Calls.mono (hAr.out _ _ _) ?_
      rintro e v5 ⟨rfl, hw⟩
      replace hb_r := Lib.hid ((hw.block _ lt_r).trans hb_r.out)
      replace lt_r := Nat.lt_of_lt_of_le lt_r hw.size
      replace hb_t := Lib.hid ((hw.block _ lt_t).trans hb_t.out)
      replace lt_t := Nat.lt_of_lt_of_le lt_t hw.size
      replace hb_o := Lib.hid ((hw.block _ lt_o).trans hb_o.out)
      replace lt_o := Nat.lt_of_lt_of_le lt_o hw.size
      replace hB := hB.trans (hw.mono hB.size)
      have bs_t2 := Lib.hid (show w.heap.size ≤ v5.heap.size from (by have h := hB.size; first | omega | (simp at h; omega)))
      have or_r_t2 := Lib.hid (show w.heap.size < v5.heap.size from (by have h := lt_r; first | omega | (simp at h; omega)))
      have or_t_t2 := Lib.hid (show w.heap.size + 1 < v5.heap.size from (by have h := lt_t; first | omega | (simp at h; omega)))
      have or_o_t2 := Lib.hid (show w.heap.size + 1 + 1 < v5.heap.size from (by have h := lt_o; first | omega | (simp at h; omega)))
      replace hb_r := Lib.hid ((Below.heap_alloc v5 (.cells #[.int .i64 1, .int .i64 2, .int .i64 2, .int .i64 3, .int .i64 16] 3) _ lt_r).trans hb_r.out)
      replace lt_r := Nat.lt_trans lt_r (show v5.heap.size < (v5.alloc (.cells #[.int .i64 1, .int .i64 2, .int .i64 2, .int .i64 3, .int .i64 16] 3)).heap.size by simp)
      replace hb_t := Lib.hid ((Below.heap_alloc v5 (.cells #[.int .i64 1, .int .i64 2, .int .i64 2, .int .i64 3, .int .i64 16] 3) _ lt_t).trans hb_t.out)
      replace lt_t := Nat.lt_trans lt_t (show v5.heap.size < (v5.alloc (.cells #[.int .i64 1, .int .i64 2, .int .i64 2, .int .i64 3, .int .i64 16] 3)).heap.size by simp)
      replace hb_o := Lib.hid ((Below.heap_alloc v5 (.cells #[.int .i64 1, .int .i64 2, .int .i64 2, .int .i64 3, .int .i64 16] 3) _ lt_o).trans hb_o.out)
      replace lt_o := Nat.lt_trans lt_o (show v5.heap.size < (v5.alloc (.cells #[.int .i64 1, .int .i64 2, .int .i64 2, .int .i64 3, .int .i64 16] 3)).heap.size by simp)
      have hb_t2 := Lib.hid (heap_alloc_new_at v5 (.cells #[.int .i64 1, .int .i64 2, .int .i64 2, .int .i64 3, .int .i64 16] 3) (n := v5.heap.size) (by simp))
      have lt_t2 : v5.heap.size < (v5.alloc (.cells #[.int .i64 1, .int .i64 2, .int .i64 2, .int .i64 3, .int .i64 16] 3)).heap.size := by simp
      replace hB := hB.alloc hB.size (.cells #[.int .i64 1, .int .i64 2, .int .i64 2, .int .i64 3, .int .i64 16] 3)
      have hcell : (v5.alloc (.cells #[.int .i64 1, .int .i64 2, .int .i64 2, .int .i64 3, .int .i64 16] 3)).cell? ⟨v5.heap.size, i, none⟩ = some (.int .i64 x) := by rw [cell_of_row _ _ i _ _ _ hb_t2.out]; exact hxc'.out
      obtain ⟨c_o0, c_o1, c_o2⟩ := three hb_o.out
      have hf_o := blk_frozen hb_o.out
      have hs_o : w.heap.size + 1 + 1 < (v5.alloc (.cells #[.int .i64 1, .int .i64 2, .int .i64 2, .int .i64 3, .int .i64 16] 3)).heap.size := lt_o
      replace hb_r := Lib.hid ((Below.heap_setCell (v5.alloc (.cells #[.int .i64 1, .int .i64 2, .int .i64 2, .int .i64 3, .int .i64 16] 3)) ⟨w.heap.size + 1 + 1, 2, none⟩ (.int .i64 x) (w.heap.size) (by have := or_r_o.out; first | omega | (simp; done) | (simp; omega))).trans hb_r.out)
      replace hb_t := Lib.hid ((Below.heap_setCell (v5.alloc (.cells #[.int .i64 1, .int .i64 2, .int .i64 2, .int .i64 3, .int .i64 16] 3)) ⟨w.heap.size + 1 + 1, 2, none⟩ (.int .i64 x) (w.heap.size + 1) (by have := or_t_o.out; first | omega | (simp; done) | (simp; omega))).trans hb_t.out)
      replace hb_t2 := Lib.hid ((Below.heap_setCell (v5.alloc (.cells #[.int .i64 1, .int .i64 2, .int .i64 2, .int .i64 3, .int .i64 16] 3)) ⟨w.heap.size + 1 + 1, 2, none⟩ (.int .i64 x) (v5.heap.size) (by have := or_o_t2.out; first | omega | (simp; done) | (simp; omega))).trans hb_t2.out)
      have hb_on : ((v5.alloc (.cells #[.int .i64 1, .int .i64 2, .int .i64 2, .int .i64 3, .int .i64 16] 3)).setCell ⟨w.heap.size + 1 + 1, 2, none⟩ (.int .i64 x)).heap[w.heap.size + 1 + 1]? = some (.cells #[.int .i64 3, .int .i64 m, .int .i64 x] 26 (0, 0)) := (blk_set hb_o.out (.int .i64 x)).trans rfl
      replace hb_o := Lib.hid hb_on
      clear hb_on
      replace lt_r : w.heap.size < ((v5.alloc (.cells #[.int .i64 1, .int .i64 2, .int .i64 2, .int .i64 3, .int .i64 16] 3)).setCell ⟨w.heap.size + 1 + 1, 2, none⟩ (.int .i64 x)).heap.size := Nat.lt_of_lt_of_eq lt_r (show (v5.alloc (.cells #[.int .i64 1, .int .i64 2, .int .i64 2, .int .i64 3, .int .i64 16] 3)).heap.size = ((v5.alloc (.cells #[.int .i64 1, .int .i64 2, .int .i64 2, .int .i64 3, .int .i64 16] 3)).setCell ⟨w.heap.size + 1 + 1, 2, none⟩ (.int .i64 x)).heap.size by simp [World.setCell])
      replace lt_t : w.heap.size + 1 < ((v5.alloc (.cells #[.int .i64 1, .int .i64 2, .int .i64 2, .int .i64 3, .int .i64 16] 3)).setCell ⟨w.heap.size + 1 + 1, 2, none⟩ (.int .i64 x)).heap.size := Nat.lt_of_lt_of_eq lt_t (show (v5.alloc (.cells #[.int .i64 1, .int .i64 2, .int .i64 2, .int .i64 3, .int .i64 16] 3)).heap.size = ((v5.alloc (.cells #[.int .i64 1, .int .i64 2, .int .i64 2, .int .i64 3, .int .i64 16] 3)).setCell ⟨w.heap.size + 1 + 1, 2, none⟩ (.int .i64 x)).heap.size by simp [World.setCell])
      replace lt_o : w.heap.size + 1 + 1 < ((v5.alloc (.cells #[.int .i64 1, .int .i64 2, .int .i64 2, .int .i64 3, .int .i64 16] 3)).setCell ⟨w.heap.size + 1 + 1, 2, none⟩ (.int .i64 x)).heap.size := Nat.lt_of_lt_of_eq lt_o (show (v5.alloc (.cells #[.int .i64 1, .int .i64 2, .int .i64 2, .int .i64 3, .int .i64 16] 3)).heap.size = ((v5.alloc (.cells #[.int .i64 1, .int .i64 2, .int .i64 2, .int .i64 3, .int .i64 16] 3)).setCell ⟨w.heap.size + 1 + 1, 2, none⟩ (.int .i64 x)).heap.size by simp [World.setCell])
      replace lt_t2 : v5.heap.size < ((v5.alloc (.cells #[.int .i64 1, .int .i64 2, .int .i64 2, .int .i64 3, .int .i64 16] 3)).setCell ⟨w.heap.size + 1 + 1, 2, none⟩ (.int .i64 x)).heap.size := Nat.lt_of_lt_of_eq lt_t2 (show (v5.alloc (.cells #[.int .i64 1, .int .i64 2, .int .i64 2, .int .i64 3, .int .i64 16] 3)).heap.size = ((v5.alloc (.cells #[.int .i64 1, .int .i64 2, .int .i64 2, .int .i64 3, .int .i64 16] 3)).setCell ⟨w.heap.size + 1 + 1, 2, none⟩ (.int .i64 x)).heap.size by simp [World.setCell])
      replace hB := hB.setCell (p := ⟨w.heap.size + 1 + 1, 2, none⟩) bs_o.out (.int .i64 x)
      obtain ⟨d_o0, d_o1, d_o2⟩ := three hb_o.out
      have hg_o := blk_frozen hb_o.out
      have hs_o : w.heap.size + 1 + 1 < ((v5.alloc (.cells #[.int .i64 1, .int .i64 2, .int .i64 2, .int .i64 3, .int .i64 16] 3)).setCell ⟨w.heap.size + 1 + 1, 2, none⟩ (.int .i64 x)).heap.size := lt_o
      replace hb_r := Lib.hid ((Below.heap_setCell ((v5.alloc (.cells #[.int .i64 1, .int .i64 2, .int .i64 2, .int .i64 3, .int .i64 16] 3)).setCell ⟨w.heap.size + 1 + 1, 2, none⟩ (.int .i64 x)) ⟨w.heap.size + 1 + 1, 1, none⟩ (.int .i64 0) (w.heap.size) (by have := or_r_o.out; first | omega | (simp; done) | (simp; omega))).trans hb_r.out)
      replace hb_t := Lib.hid ((Below.heap_setCell ((v5.alloc (.cells #[.int .i64 1, .int .i64 2, .int .i64 2, .int .i64 3, .int .i64 16] 3)).setCell ⟨w.heap.size + 1 + 1, 2, none⟩ (.int .i64 x)) ⟨w.heap.size + 1 + 1, 1, none⟩ (.int .i64 0) (w.heap.size + 1) (by have := or_t_o.out; first | omega | (simp; done) | (simp; omega))).trans hb_t.out)
      replace hb_t2 := Lib.hid ((Below.heap_setCell ((v5.alloc (.cells #[.int .i64 1, .int .i64 2, .int .i64 2, .int .i64 3, .int .i64 16] 3)).setCell ⟨w.heap.size + 1 + 1, 2, none⟩ (.int .i64 x)) ⟨w.heap.size + 1 + 1, 1, none⟩ (.int .i64 0) (v5.heap.size) (by have := or_o_t2.out; first | omega | (simp; done) | (simp; omega))).trans hb_t2.out)
      have hb_on : (((v5.alloc (.cells #[.int .i64 1, .int .i64 2, .int .i64 2, .int .i64 3, .int .i64 16] 3)).setCell ⟨w.heap.size + 1 + 1, 2, none⟩ (.int .i64 x)).setCell ⟨w.heap.size + 1 + 1, 1, none⟩ (.int .i64 0)).heap[w.heap.size + 1 + 1]? = some (.cells #[.int .i64 3, .int .i64 0, .int .i64 x] 26 (0, 0)) := (blk_set hb_o.out (.int .i64 0)).trans rfl
      replace hb_o := Lib.hid hb_on
      clear hb_on
      replace lt_r : w.heap.size < (((v5.alloc (.cells #[.int .i64 1, .int .i64 2, .int .i64 2, .int .i64 3, .int .i64 16] 3)).setCell ⟨w.heap.size + 1 + 1, 2, none⟩ (.int .i64 x)).setCell ⟨w.heap.size + 1 + 1, 1, none⟩ (.int .i64 0)).heap.size := Nat.lt_of_lt_of_eq lt_r (show ((v5.alloc (.cells #[.int .i64 1, .int .i64 2, .int .i64 2, .int .i64 3, .int .i64 16] 3)).setCell ⟨w.heap.size + 1 + 1, 2, none⟩ (.int .i64 x)).heap.size = (((v5.alloc (.cells #[.int .i64 1, .int .i64 2, .int .i64 2, .int .i64 3, .int .i64 16] 3)).setCell ⟨w.heap.size + 1 + 1, 2, none⟩ (.int .i64 x)).setCell ⟨w.heap.size + 1 + 1, 1, none⟩ (.int .i64 0)).heap.size by simp [World.setCell])
      replace lt_t : w.heap.size + 1 < (((v5.alloc (.cells #[.int .i64 1, .int .i64 2, .int .i64 2, .int .i64 3, .int .i64 16] 3)).setCell ⟨w.heap.size + 1 + 1, 2, none⟩ (.int .i64 x)).setCell ⟨w.heap.size + 1 + 1, 1, none⟩ (.int .i64 0)).heap.size := Nat.lt_of_lt_of_eq lt_t (show ((v5.alloc (.cells #[.int .i64 1, .int .i64 2, .int .i64 2, .int .i64 3, .int .i64 16] 3)).setCell ⟨w.heap.size + 1 + 1, 2, none⟩ (.int .i64 x)).heap.size = (((v5.alloc (.cells #[.int .i64 1, .int .i64 2, .int .i64 2, .int .i64 3, .int .i64 16] 3)).setCell ⟨w.heap.size + 1 + 1, 2, none⟩ (.int .i64 x)).setCell ⟨w.heap.size + 1 + 1, 1, none⟩ (.int .i64 0)).heap.size by simp [World.setCell])
      replace lt_o : w.heap.size + 1 + 1 < (((v5.alloc (.cells #[.int .i64 1, .int .i64 2, .int .i64 2, .int .i64 3, .int .i64 16] 3)).setCell ⟨w.heap.size + 1 + 1, 2, none⟩ (.int .i64 x)).setCell ⟨w.heap.size + 1 + 1, 1, none⟩ (.int .i64 0)).heap.size := Nat.lt_of_lt_of_eq lt_o (show ((v5.alloc (.cells #[.int .i64 1, .int .i64 2, .int .i64 2, .int .i64 3, .int .i64 16] 3)).setCell ⟨w.heap.size + 1 + 1, 2, none⟩ (.int .i64 x)).heap.size = (((v5.alloc (.cells #[.int .i64 1, .int .i64 2, .int .i64 2, .int .i64 3, .int .i64 16] 3)).setCell ⟨w.heap.size + 1 + 1, 2, none⟩ (.int .i64 x)).setCell ⟨w.heap.size + 1 + 1, 1, none⟩ (.int .i64 0)).heap.size by simp [World.setCell])
      replace lt_t2 : v5.heap.size < (((v5.alloc (.cells #[.int .i64 1, .int .i64 2, .int .i64 2, .int .i64 3, .int .i64 16] 3)).setCell ⟨w.heap.size + 1 + 1, 2, none⟩ (.int .i64 x)).setCell ⟨w.heap.size + 1 + 1, 1, none⟩ (.int .i64 0)).heap.size := Nat.lt_of_lt_of_eq lt_t2 (show ((v5.alloc (.cells #[.int .i64 1, .int .i64 2, .int .i64 2, .int .i64 3, .int .i64 16] 3)).setCell ⟨w.heap.size + 1 + 1, 2, none⟩ (.int .i64 x)).heap.size = (((v5.alloc (.cells #[.int .i64 1, .int .i64 2, .int .i64 2, .int .i64 3, .int .i64 16] 3)).setCell ⟨w.heap.size + 1 + 1, 2, none⟩ (.int .i64 x)).setCell ⟨w.heap.size + 1 + 1, 1, none⟩ (.int .i64 0)).heap.size by simp [World.setCell])
      replace hB := hB.setCell (p := ⟨w.heap.size + 1 + 1, 1, none⟩) bs_o.out (.int .i64 0)
      obtain ⟨f_o0, f_o1, f_o2⟩ := three hb_o.out
      have hf_r := blk_frozen hb_r.out
      obtain ⟨c_r0, c_r1, c_r2⟩ := three hb_r.out
      have HB := Lib.hid hB
      go_wp2_with fail
      refine bodyPost_ret (v := .agg #[.int .i64 3, .int .i64 0, .int .i64 x]) (by simp [results, Try.results38, go_sem, c_r0, c_r1, c_r2]) rfl ?_
      exact ⟨3, 0, x, rfl, by simp [sortOk] <;> omega, rfl, ((HB.out.setCell (p := ⟨w.heap.size, 0, none⟩) (Nat.le_refl _) _).setCell (p := ⟨w.heap.size, 1, none⟩) (Nat.le_refl _) _).setCell (p := ⟨w.heap.size, 2, none⟩) (Nat.le_refl _) _⟩
  · have gz : ((q : Int) / 120 % 9 == 0) = false := by rw [beq_eq_false_iff_ne]; omega
    rcases (show k = 0 ∨ k = 1 ∨ k = 2 ∨ k = 3 by omega) with rfl | rfl | rfl | rfl
    · have ek2 : (q : Int) % 4 = 0 := ek
      clear ek
      have hAr := Lib.hid fun (n ix : Int) W => (show Calls Try.prog 45 #[.agg #[.int .i64 0, .int .i64 n, .int .i64 ix]] W fun e w' => e = .returned (.bool false) ∧ Below W.heap.size W w' from r6Array_any 0 n ix W)
      have hB : Below w.heap.size w w := Below.refl _ _
      have bs_r := Lib.hid (show w.heap.size ≤ w.heap.size from (by have h := hB.size; first | omega | (simp at h; omega)))
      have hb_r := Lib.hid (heap_alloc_new_at w (.cells #[.int .i64 0, .int .i64 0, .int .i64 0] 26) (n := w.heap.size) (by simp))
      have lt_r : w.heap.size < (w.alloc (.cells #[.int .i64 0, .int .i64 0, .int .i64 0] 26)).heap.size := by simp
      replace hB := hB.alloc hB.size (.cells #[.int .i64 0, .int .i64 0, .int .i64 0] 26)
      have bs_t := Lib.hid (show w.heap.size ≤ w.heap.size + 1 from (by have h := hB.size; first | omega | (simp at h; omega)))
      have or_r_t := Lib.hid (show w.heap.size < w.heap.size + 1 from (by have h := lt_r; first | omega | (simp at h; omega)))
      replace hb_r := Lib.hid ((Below.heap_alloc (w.alloc (.cells #[.int .i64 0, .int .i64 0, .int .i64 0] 26)) (.cells #[.int .i64 1, .int .i64 2, .int .i64 3, .int .i64 4, .int .i64 8, .int .i64 64] 3) _ lt_r).trans hb_r.out)
      replace lt_r := Nat.lt_trans lt_r (show (w.alloc (.cells #[.int .i64 0, .int .i64 0, .int .i64 0] 26)).heap.size < ((w.alloc (.cells #[.int .i64 0, .int .i64 0, .int .i64 0] 26)).alloc (.cells #[.int .i64 1, .int .i64 2, .int .i64 3, .int .i64 4, .int .i64 8, .int .i64 64] 3)).heap.size by simp)
      have hb_t := Lib.hid (heap_alloc_new_at (w.alloc (.cells #[.int .i64 0, .int .i64 0, .int .i64 0] 26)) (.cells #[.int .i64 1, .int .i64 2, .int .i64 3, .int .i64 4, .int .i64 8, .int .i64 64] 3) (n := w.heap.size + 1) (by simp))
      have lt_t : w.heap.size + 1 < ((w.alloc (.cells #[.int .i64 0, .int .i64 0, .int .i64 0] 26)).alloc (.cells #[.int .i64 1, .int .i64 2, .int .i64 3, .int .i64 4, .int .i64 8, .int .i64 64] 3)).heap.size := by simp
      replace hB := hB.alloc hB.size (.cells #[.int .i64 1, .int .i64 2, .int .i64 3, .int .i64 4, .int .i64 8, .int .i64 64] 3)
      have hcell : ((w.alloc (.cells #[.int .i64 0, .int .i64 0, .int .i64 0] 26)).alloc (.cells #[.int .i64 1, .int .i64 2, .int .i64 3, .int .i64 4, .int .i64 8, .int .i64 64] 3)).cell? ⟨w.heap.size + 1, j, none⟩ = some (.int .i64 m) := by rw [cell_of_row _ _ j _ _ _ hb_t.out]; exact hmc'.out
      have bs_o := Lib.hid (show w.heap.size ≤ w.heap.size + 1 + 1 from (by have h := hB.size; first | omega | (simp at h; omega)))
      have or_r_o := Lib.hid (show w.heap.size < w.heap.size + 1 + 1 from (by have h := lt_r; first | omega | (simp at h; omega)))
      have or_t_o := Lib.hid (show w.heap.size + 1 < w.heap.size + 1 + 1 from (by have h := lt_t; first | omega | (simp at h; omega)))
      replace hb_r := Lib.hid ((Below.heap_alloc ((w.alloc (.cells #[.int .i64 0, .int .i64 0, .int .i64 0] 26)).alloc (.cells #[.int .i64 1, .int .i64 2, .int .i64 3, .int .i64 4, .int .i64 8, .int .i64 64] 3)) (.cells #[.int .i64 0, .int .i64 m, .int .i64 0] 26) _ lt_r).trans hb_r.out)
      replace lt_r := Nat.lt_trans lt_r (show ((w.alloc (.cells #[.int .i64 0, .int .i64 0, .int .i64 0] 26)).alloc (.cells #[.int .i64 1, .int .i64 2, .int .i64 3, .int .i64 4, .int .i64 8, .int .i64 64] 3)).heap.size < (((w.alloc (.cells #[.int .i64 0, .int .i64 0, .int .i64 0] 26)).alloc (.cells #[.int .i64 1, .int .i64 2, .int .i64 3, .int .i64 4, .int .i64 8, .int .i64 64] 3)).alloc (.cells #[.int .i64 0, .int .i64 m, .int .i64 0] 26)).heap.size by simp)
      replace hb_t := Lib.hid ((Below.heap_alloc ((w.alloc (.cells #[.int .i64 0, .int .i64 0, .int .i64 0] 26)).alloc (.cells #[.int .i64 1, .int .i64 2, .int .i64 3, .int .i64 4, .int .i64 8, .int .i64 64] 3)) (.cells #[.int .i64 0, .int .i64 m, .int .i64 0] 26) _ lt_t).trans hb_t.out)
      replace lt_t := Nat.lt_trans lt_t (show ((w.alloc (.cells #[.int .i64 0, .int .i64 0, .int .i64 0] 26)).alloc (.cells #[.int .i64 1, .int .i64 2, .int .i64 3, .int .i64 4, .int .i64 8, .int .i64 64] 3)).heap.size < (((w.alloc (.cells #[.int .i64 0, .int .i64 0, .int .i64 0] 26)).alloc (.cells #[.int .i64 1, .int .i64 2, .int .i64 3, .int .i64 4, .int .i64 8, .int .i64 64] 3)).alloc (.cells #[.int .i64 0, .int .i64 m, .int .i64 0] 26)).heap.size by simp)
      have hb_o := Lib.hid (heap_alloc_new_at ((w.alloc (.cells #[.int .i64 0, .int .i64 0, .int .i64 0] 26)).alloc (.cells #[.int .i64 1, .int .i64 2, .int .i64 3, .int .i64 4, .int .i64 8, .int .i64 64] 3)) (.cells #[.int .i64 0, .int .i64 m, .int .i64 0] 26) (n := w.heap.size + 1 + 1) (by simp))
      have lt_o : w.heap.size + 1 + 1 < (((w.alloc (.cells #[.int .i64 0, .int .i64 0, .int .i64 0] 26)).alloc (.cells #[.int .i64 1, .int .i64 2, .int .i64 3, .int .i64 4, .int .i64 8, .int .i64 64] 3)).alloc (.cells #[.int .i64 0, .int .i64 m, .int .i64 0] 26)).heap.size := by simp
      replace hB := hB.alloc hB.size (.cells #[.int .i64 0, .int .i64 m, .int .i64 0] 26)
      obtain ⟨c_o0, c_o1, c_o2⟩ := three hb_o.out
      go_enter Try.func38, Try.ntmps38
      go_wp2_with (go_at_call 24; refine Calls.mono (hA.out _) ?_; rintro e w1 ⟨rfl, rfl⟩)
      clear c_o0 c_o1 c_o2 hcell
      generalize (((w.alloc (.cells #[.int .i64 0, .int .i64 0, .int .i64 0] 26)).alloc (.cells #[.int .i64 1, .int .i64 2, .int .i64 3, .int .i64 4, .int .i64 8, .int .i64 64] 3)).alloc (.cells #[.int .i64 0, .int .i64 m, .int .i64 0] 26)) = v4 at *
      refine Calls.mono (hAr.out _ _ _) ?_
      rintro e v5 ⟨rfl, hw⟩
      replace hb_r := Lib.hid ((hw.block _ lt_r).trans hb_r.out)
      replace lt_r := Nat.lt_of_lt_of_le lt_r hw.size
      replace hb_t := Lib.hid ((hw.block _ lt_t).trans hb_t.out)
      replace lt_t := Nat.lt_of_lt_of_le lt_t hw.size
      replace hb_o := Lib.hid ((hw.block _ lt_o).trans hb_o.out)
      replace lt_o := Nat.lt_of_lt_of_le lt_o hw.size
      replace hB := hB.trans (hw.mono hB.size)
      obtain ⟨d_o0, d_o1, d_o2⟩ := three hb_o.out
      have hf_r := blk_frozen hb_r.out
      obtain ⟨c_r0, c_r1, c_r2⟩ := three hb_r.out
      have HB := Lib.hid hB
      go_wp2_with fail
      refine bodyPost_ret (v := .agg #[.int .i64 0, .int .i64 m, .int .i64 0]) (by simp [results, Try.results38, go_sem, c_r0, c_r1, c_r2]) rfl ?_
      exact ⟨0, m, 0, rfl, by simp [sortOk] <;> omega, rfl, ((HB.out.setCell (p := ⟨w.heap.size, 0, none⟩) (Nat.le_refl _) _).setCell (p := ⟨w.heap.size, 1, none⟩) (Nat.le_refl _) _).setCell (p := ⟨w.heap.size, 2, none⟩) (Nat.le_refl _) _⟩
    · have ek2 : (q : Int) % 4 = 1 := ek
      clear ek
      have hAr := Lib.hid fun (n ix : Int) W => (show Calls Try.prog 45 #[.agg #[.int .i64 1, .int .i64 n, .int .i64 ix]] W fun e w' => e = .returned (.bool false) ∧ Below W.heap.size W w' from r6Array_any 1 n ix W)
      have hB : Below w.heap.size w w := Below.refl _ _
      have bs_r := Lib.hid (show w.heap.size ≤ w.heap.size from (by have h := hB.size; first | omega | (simp at h; omega)))
      have hb_r := Lib.hid (heap_alloc_new_at w (.cells #[.int .i64 0, .int .i64 0, .int .i64 0] 26) (n := w.heap.size) (by simp))
      have lt_r : w.heap.size < (w.alloc (.cells #[.int .i64 0, .int .i64 0, .int .i64 0] 26)).heap.size := by simp
      replace hB := hB.alloc hB.size (.cells #[.int .i64 0, .int .i64 0, .int .i64 0] 26)
      have bs_t := Lib.hid (show w.heap.size ≤ w.heap.size + 1 from (by have h := hB.size; first | omega | (simp at h; omega)))
      have or_r_t := Lib.hid (show w.heap.size < w.heap.size + 1 from (by have h := lt_r; first | omega | (simp at h; omega)))
      replace hb_r := Lib.hid ((Below.heap_alloc (w.alloc (.cells #[.int .i64 0, .int .i64 0, .int .i64 0] 26)) (.cells #[.int .i64 1, .int .i64 2, .int .i64 3, .int .i64 4, .int .i64 8, .int .i64 64] 3) _ lt_r).trans hb_r.out)
      replace lt_r := Nat.lt_trans lt_r (show (w.alloc (.cells #[.int .i64 0, .int .i64 0, .int .i64 0] 26)).heap.size < ((w.alloc (.cells #[.int .i64 0, .int .i64 0, .int .i64 0] 26)).alloc (.cells #[.int .i64 1, .int .i64 2, .int .i64 3, .int .i64 4, .int .i64 8, .int .i64 64] 3)).heap.size by simp)
      have hb_t := Lib.hid (heap_alloc_new_at (w.alloc (.cells #[.int .i64 0, .int .i64 0, .int .i64 0] 26)) (.cells #[.int .i64 1, .int .i64 2, .int .i64 3, .int .i64 4, .int .i64 8, .int .i64 64] 3) (n := w.heap.size + 1) (by simp))
      have lt_t : w.heap.size + 1 < ((w.alloc (.cells #[.int .i64 0, .int .i64 0, .int .i64 0] 26)).alloc (.cells #[.int .i64 1, .int .i64 2, .int .i64 3, .int .i64 4, .int .i64 8, .int .i64 64] 3)).heap.size := by simp
      replace hB := hB.alloc hB.size (.cells #[.int .i64 1, .int .i64 2, .int .i64 3, .int .i64 4, .int .i64 8, .int .i64 64] 3)
      have hcell : ((w.alloc (.cells #[.int .i64 0, .int .i64 0, .int .i64 0] 26)).alloc (.cells #[.int .i64 1, .int .i64 2, .int .i64 3, .int .i64 4, .int .i64 8, .int .i64 64] 3)).cell? ⟨w.heap.size + 1, j, none⟩ = some (.int .i64 m) := by rw [cell_of_row _ _ j _ _ _ hb_t.out]; exact hmc'.out
      have bs_o := Lib.hid (show w.heap.size ≤ w.heap.size + 1 + 1 from (by have h := hB.size; first | omega | (simp at h; omega)))
      have or_r_o := Lib.hid (show w.heap.size < w.heap.size + 1 + 1 from (by have h := lt_r; first | omega | (simp at h; omega)))
      have or_t_o := Lib.hid (show w.heap.size + 1 < w.heap.size + 1 + 1 from (by have h := lt_t; first | omega | (simp at h; omega)))
      replace hb_r := Lib.hid ((Below.heap_alloc ((w.alloc (.cells #[.int .i64 0, .int .i64 0, .int .i64 0] 26)).alloc (.cells #[.int .i64 1, .int .i64 2, .int .i64 3, .int .i64 4, .int .i64 8, .int .i64 64] 3)) (.cells #[.int .i64 1, .int .i64 m, .int .i64 0] 26) _ lt_r).trans hb_r.out)
      replace lt_r := Nat.lt_trans lt_r (show ((w.alloc (.cells #[.int .i64 0, .int .i64 0, .int .i64 0] 26)).alloc (.cells #[.int .i64 1, .int .i64 2, .int .i64 3, .int .i64 4, .int .i64 8, .int .i64 64] 3)).heap.size < (((w.alloc (.cells #[.int .i64 0, .int .i64 0, .int .i64 0] 26)).alloc (.cells #[.int .i64 1, .int .i64 2, .int .i64 3, .int .i64 4, .int .i64 8, .int .i64 64] 3)).alloc (.cells #[.int .i64 1, .int .i64 m, .int .i64 0] 26)).heap.size by simp)
      replace hb_t := Lib.hid ((Below.heap_alloc ((w.alloc (.cells #[.int .i64 0, .int .i64 0, .int .i64 0] 26)).alloc (.cells #[.int .i64 1, .int .i64 2, .int .i64 3, .int .i64 4, .int .i64 8, .int .i64 64] 3)) (.cells #[.int .i64 1, .int .i64 m, .int .i64 0] 26) _ lt_t).trans hb_t.out)
      replace lt_t := Nat.lt_trans lt_t (show ((w.alloc (.cells #[.int .i64 0, .int .i64 0, .int .i64 0] 26)).alloc (.cells #[.int .i64 1, .int .i64 2, .int .i64 3, .int .i64 4, .int .i64 8, .int .i64 64] 3)).heap.size < (((w.alloc (.cells #[.int .i64 0, .int .i64 0, .int .i64 0] 26)).alloc (.cells #[.int .i64 1, .int .i64 2, .int .i64 3, .int .i64 4, .int .i64 8, .int .i64 64] 3)).alloc (.cells #[.int .i64 1, .int .i64 m, .int .i64 0] 26)).heap.size by simp)
      have hb_o := Lib.hid (heap_alloc_new_at ((w.alloc (.cells #[.int .i64 0, .int .i64 0, .int .i64 0] 26)).alloc (.cells #[.int .i64 1, .int .i64 2, .int .i64 3, .int .i64 4, .int .i64 8, .int .i64 64] 3)) (.cells #[.int .i64 1, .int .i64 m, .int .i64 0] 26) (n := w.heap.size + 1 + 1) (by simp))
      have lt_o : w.heap.size + 1 + 1 < (((w.alloc (.cells #[.int .i64 0, .int .i64 0, .int .i64 0] 26)).alloc (.cells #[.int .i64 1, .int .i64 2, .int .i64 3, .int .i64 4, .int .i64 8, .int .i64 64] 3)).alloc (.cells #[.int .i64 1, .int .i64 m, .int .i64 0] 26)).heap.size := by simp
      replace hB := hB.alloc hB.size (.cells #[.int .i64 1, .int .i64 m, .int .i64 0] 26)
      obtain ⟨c_o0, c_o1, c_o2⟩ := three hb_o.out
      go_enter Try.func38, Try.ntmps38
      go_wp2_with (go_at_call 24; refine Calls.mono (hA.out _) ?_; rintro e w1 ⟨rfl, rfl⟩)
      clear c_o0 c_o1 c_o2 hcell
      generalize (((w.alloc (.cells #[.int .i64 0, .int .i64 0, .int .i64 0] 26)).alloc (.cells #[.int .i64 1, .int .i64 2, .int .i64 3, .int .i64 4, .int .i64 8, .int .i64 64] 3)).alloc (.cells #[.int .i64 1, .int .i64 m, .int .i64 0] 26)) = v4 at *
      refine Calls.mono (hAr.out _ _ _) ?_
      rintro e v5 ⟨rfl, hw⟩
      replace hb_r := Lib.hid ((hw.block _ lt_r).trans hb_r.out)
      replace lt_r := Nat.lt_of_lt_of_le lt_r hw.size
      replace hb_t := Lib.hid ((hw.block _ lt_t).trans hb_t.out)
      replace lt_t := Nat.lt_of_lt_of_le lt_t hw.size
      replace hb_o := Lib.hid ((hw.block _ lt_o).trans hb_o.out)
      replace lt_o := Nat.lt_of_lt_of_le lt_o hw.size
      replace hB := hB.trans (hw.mono hB.size)
      obtain ⟨d_o0, d_o1, d_o2⟩ := three hb_o.out
      have hf_r := blk_frozen hb_r.out
      obtain ⟨c_r0, c_r1, c_r2⟩ := three hb_r.out
      have HB := Lib.hid hB
      go_wp2_with fail
      refine bodyPost_ret (v := .agg #[.int .i64 1, .int .i64 m, .int .i64 0]) (by simp [results, Try.results38, go_sem, c_r0, c_r1, c_r2]) rfl ?_
      exact ⟨1, m, 0, rfl, by simp [sortOk] <;> omega, rfl, ((HB.out.setCell (p := ⟨w.heap.size, 0, none⟩) (Nat.le_refl _) _).setCell (p := ⟨w.heap.size, 1, none⟩) (Nat.le_refl _) _).setCell (p := ⟨w.heap.size, 2, none⟩) (Nat.le_refl _) _⟩
    · have ek2 : (q : Int) % 4 = 2 := ek
      clear ek
      have hAr := Lib.hid fun (n ix : Int) W => (show Calls Try.prog 45 #[.agg #[.int .i64 2, .int .i64 n, .int .i64 ix]] W fun e w' => e = .returned (.bool true) ∧ Below W.heap.size W w' from r6Array_any 2 n ix W)
      have hB : Below w.heap.size w w := Below.refl _ _
      have bs_r := Lib.hid (show w.heap.size ≤ w.heap.size from (by have h := hB.size; first | omega | (simp at h; omega)))
      have hb_r := Lib.hid (heap_alloc_new_at w (.cells #[.int .i64 0, .int .i64 0, .int .i64 0] 26) (n := w.heap.size) (by simp))
      have lt_r : w.heap.size < (w.alloc (.cells #[.int .i64 0, .int .i64 0, .int .i64 0] 26)).heap.size := by simp
      replace hB := hB.alloc hB.size (.cells #[.int .i64 0, .int .i64 0, .int .i64 0] 26)
      have bs_t := Lib.hid (show w.heap.size ≤ w.heap.size + 1 from (by have h := hB.size; first | omega | (simp at h; omega)))
      have or_r_t := Lib.hid (show w.heap.size < w.heap.size + 1 from (by have h := lt_r; first | omega | (simp at h; omega)))
      replace hb_r := Lib.hid ((Below.heap_alloc (w.alloc (.cells #[.int .i64 0, .int .i64 0, .int .i64 0] 26)) (.cells #[.int .i64 1, .int .i64 2, .int .i64 3, .int .i64 4, .int .i64 8, .int .i64 64] 3) _ lt_r).trans hb_r.out)
      replace lt_r := Nat.lt_trans lt_r (show (w.alloc (.cells #[.int .i64 0, .int .i64 0, .int .i64 0] 26)).heap.size < ((w.alloc (.cells #[.int .i64 0, .int .i64 0, .int .i64 0] 26)).alloc (.cells #[.int .i64 1, .int .i64 2, .int .i64 3, .int .i64 4, .int .i64 8, .int .i64 64] 3)).heap.size by simp)
      have hb_t := Lib.hid (heap_alloc_new_at (w.alloc (.cells #[.int .i64 0, .int .i64 0, .int .i64 0] 26)) (.cells #[.int .i64 1, .int .i64 2, .int .i64 3, .int .i64 4, .int .i64 8, .int .i64 64] 3) (n := w.heap.size + 1) (by simp))
      have lt_t : w.heap.size + 1 < ((w.alloc (.cells #[.int .i64 0, .int .i64 0, .int .i64 0] 26)).alloc (.cells #[.int .i64 1, .int .i64 2, .int .i64 3, .int .i64 4, .int .i64 8, .int .i64 64] 3)).heap.size := by simp
      replace hB := hB.alloc hB.size (.cells #[.int .i64 1, .int .i64 2, .int .i64 3, .int .i64 4, .int .i64 8, .int .i64 64] 3)
      have hcell : ((w.alloc (.cells #[.int .i64 0, .int .i64 0, .int .i64 0] 26)).alloc (.cells #[.int .i64 1, .int .i64 2, .int .i64 3, .int .i64 4, .int .i64 8, .int .i64 64] 3)).cell? ⟨w.heap.size + 1, j, none⟩ = some (.int .i64 m) := by rw [cell_of_row _ _ j _ _ _ hb_t.out]; exact hmc'.out
      have bs_o := Lib.hid (show w.heap.size ≤ w.heap.size + 1 + 1 from (by have h := hB.size; first | omega | (simp at h; omega)))
      have or_r_o := Lib.hid (show w.heap.size < w.heap.size + 1 + 1 from (by have h := lt_r; first | omega | (simp at h; omega)))
      have or_t_o := Lib.hid (show w.heap.size + 1 < w.heap.size + 1 + 1 from (by have h := lt_t; first | omega | (simp at h; omega)))
      replace hb_r := Lib.hid ((Below.heap_alloc ((w.alloc (.cells #[.int .i64 0, .int .i64 0, .int .i64 0] 26)).alloc (.cells #[.int .i64 1, .int .i64 2, .int .i64 3, .int .i64 4, .int .i64 8, .int .i64 64] 3)) (.cells #[.int .i64 2, .int .i64 m, .int .i64 0] 26) _ lt_r).trans hb_r.out)
      replace lt_r := Nat.lt_trans lt_r (show ((w.alloc (.cells #[.int .i64 0, .int .i64 0, .int .i64 0] 26)).alloc (.cells #[.int .i64 1, .int .i64 2, .int .i64 3, .int .i64 4, .int .i64 8, .int .i64 64] 3)).heap.size < (((w.alloc (.cells #[.int .i64 0, .int .i64 0, .int .i64 0] 26)).alloc (.cells #[.int .i64 1, .int .i64 2, .int .i64 3, .int .i64 4, .int .i64 8, .int .i64 64] 3)).alloc (.cells #[.int .i64 2, .int .i64 m, .int .i64 0] 26)).heap.size by simp)
      replace hb_t := Lib.hid ((Below.heap_alloc ((w.alloc (.cells #[.int .i64 0, .int .i64 0, .int .i64 0] 26)).alloc (.cells #[.int .i64 1, .int .i64 2, .int .i64 3, .int .i64 4, .int .i64 8, .int .i64 64] 3)) (.cells #[.int .i64 2, .int .i64 m, .int .i64 0] 26) _ lt_t).trans hb_t.out)
      replace lt_t := Nat.lt_trans lt_t (show ((w.alloc (.cells #[.int .i64 0, .int .i64 0, .int .i64 0] 26)).alloc (.cells #[.int .i64 1, .int .i64 2, .int .i64 3, .int .i64 4, .int .i64 8, .int .i64 64] 3)).heap.size < (((w.alloc (.cells #[.int .i64 0, .int .i64 0, .int .i64 0] 26)).alloc (.cells #[.int .i64 1, .int .i64 2, .int .i64 3, .int .i64 4, .int .i64 8, .int .i64 64] 3)).alloc (.cells #[.int .i64 2, .int .i64 m, .int .i64 0] 26)).heap.size by simp)
      have hb_o := Lib.hid (heap_alloc_new_at ((w.alloc (.cells #[.int .i64 0, .int .i64 0, .int .i64 0] 26)).alloc (.cells #[.int .i64 1, .int .i64 2, .int .i64 3, .int .i64 4, .int .i64 8, .int .i64 64] 3)) (.cells #[.int .i64 2, .int .i64 m, .int .i64 0] 26) (n := w.heap.size + 1 + 1) (by simp))
      have lt_o : w.heap.size + 1 + 1 < (((w.alloc (.cells #[.int .i64 0, .int .i64 0, .int .i64 0] 26)).alloc (.cells #[.int .i64 1, .int .i64 2, .int .i64 3, .int .i64 4, .int .i64 8, .int .i64 64] 3)).alloc (.cells #[.int .i64 2, .int .i64 m, .int .i64 0] 26)).heap.size := by simp
      replace hB := hB.alloc hB.size (.cells #[.int .i64 2, .int .i64 m, .int .i64 0] 26)
      obtain ⟨c_o0, c_o1, c_o2⟩ := three hb_o.out
      go_enter Try.func38, Try.ntmps38
      go_wp2_with (go_at_call 24; refine Calls.mono (hA.out _) ?_; rintro e w1 ⟨rfl, rfl⟩)
      clear c_o0 c_o1 c_o2 hcell
      generalize (((w.alloc (.cells #[.int .i64 0, .int .i64 0, .int .i64 0] 26)).alloc (.cells #[.int .i64 1, .int .i64 2, .int .i64 3, .int .i64 4, .int .i64 8, .int .i64 64] 3)).alloc (.cells #[.int .i64 2, .int .i64 m, .int .i64 0] 26)) = v4 at *
      refine Calls.mono (hAr.out _ _ _) ?_
      rintro e v5 ⟨rfl, hw⟩
      replace hb_r := Lib.hid ((hw.block _ lt_r).trans hb_r.out)
      replace lt_r := Nat.lt_of_lt_of_le lt_r hw.size
      replace hb_t := Lib.hid ((hw.block _ lt_t).trans hb_t.out)
      replace lt_t := Nat.lt_of_lt_of_le lt_t hw.size
      replace hb_o := Lib.hid ((hw.block _ lt_o).trans hb_o.out)
      replace lt_o := Nat.lt_of_lt_of_le lt_o hw.size
      replace hB := hB.trans (hw.mono hB.size)
      have bs_t2 := Lib.hid (show w.heap.size ≤ v5.heap.size from (by have h := hB.size; first | omega | (simp at h; omega)))
      have or_r_t2 := Lib.hid (show w.heap.size < v5.heap.size from (by have h := lt_r; first | omega | (simp at h; omega)))
      have or_t_t2 := Lib.hid (show w.heap.size + 1 < v5.heap.size from (by have h := lt_t; first | omega | (simp at h; omega)))
      have or_o_t2 := Lib.hid (show w.heap.size + 1 + 1 < v5.heap.size from (by have h := lt_o; first | omega | (simp at h; omega)))
      replace hb_r := Lib.hid ((Below.heap_alloc v5 (.cells #[.int .i64 1, .int .i64 2, .int .i64 2, .int .i64 3, .int .i64 16] 3) _ lt_r).trans hb_r.out)
      replace lt_r := Nat.lt_trans lt_r (show v5.heap.size < (v5.alloc (.cells #[.int .i64 1, .int .i64 2, .int .i64 2, .int .i64 3, .int .i64 16] 3)).heap.size by simp)
      replace hb_t := Lib.hid ((Below.heap_alloc v5 (.cells #[.int .i64 1, .int .i64 2, .int .i64 2, .int .i64 3, .int .i64 16] 3) _ lt_t).trans hb_t.out)
      replace lt_t := Nat.lt_trans lt_t (show v5.heap.size < (v5.alloc (.cells #[.int .i64 1, .int .i64 2, .int .i64 2, .int .i64 3, .int .i64 16] 3)).heap.size by simp)
      replace hb_o := Lib.hid ((Below.heap_alloc v5 (.cells #[.int .i64 1, .int .i64 2, .int .i64 2, .int .i64 3, .int .i64 16] 3) _ lt_o).trans hb_o.out)
      replace lt_o := Nat.lt_trans lt_o (show v5.heap.size < (v5.alloc (.cells #[.int .i64 1, .int .i64 2, .int .i64 2, .int .i64 3, .int .i64 16] 3)).heap.size by simp)
      have hb_t2 := Lib.hid (heap_alloc_new_at v5 (.cells #[.int .i64 1, .int .i64 2, .int .i64 2, .int .i64 3, .int .i64 16] 3) (n := v5.heap.size) (by simp))
      have lt_t2 : v5.heap.size < (v5.alloc (.cells #[.int .i64 1, .int .i64 2, .int .i64 2, .int .i64 3, .int .i64 16] 3)).heap.size := by simp
      replace hB := hB.alloc hB.size (.cells #[.int .i64 1, .int .i64 2, .int .i64 2, .int .i64 3, .int .i64 16] 3)
      have hcell : (v5.alloc (.cells #[.int .i64 1, .int .i64 2, .int .i64 2, .int .i64 3, .int .i64 16] 3)).cell? ⟨v5.heap.size, i, none⟩ = some (.int .i64 x) := by rw [cell_of_row _ _ i _ _ _ hb_t2.out]; exact hxc'.out
      obtain ⟨c_o0, c_o1, c_o2⟩ := three hb_o.out
      have hf_o := blk_frozen hb_o.out
      have hs_o : w.heap.size + 1 + 1 < (v5.alloc (.cells #[.int .i64 1, .int .i64 2, .int .i64 2, .int .i64 3, .int .i64 16] 3)).heap.size := lt_o
      replace hb_r := Lib.hid ((Below.heap_setCell (v5.alloc (.cells #[.int .i64 1, .int .i64 2, .int .i64 2, .int .i64 3, .int .i64 16] 3)) ⟨w.heap.size + 1 + 1, 2, none⟩ (.int .i64 x) (w.heap.size) (by have := or_r_o.out; first | omega | (simp; done) | (simp; omega))).trans hb_r.out)
      replace hb_t := Lib.hid ((Below.heap_setCell (v5.alloc (.cells #[.int .i64 1, .int .i64 2, .int .i64 2, .int .i64 3, .int .i64 16] 3)) ⟨w.heap.size + 1 + 1, 2, none⟩ (.int .i64 x) (w.heap.size + 1) (by have := or_t_o.out; first | omega | (simp; done) | (simp; omega))).trans hb_t.out)
      replace hb_t2 := Lib.hid ((Below.heap_setCell (v5.alloc (.cells #[.int .i64 1, .int .i64 2, .int .i64 2, .int .i64 3, .int .i64 16] 3)) ⟨w.heap.size + 1 + 1, 2, none⟩ (.int .i64 x) (v5.heap.size) (by have := or_o_t2.out; first | omega | (simp; done) | (simp; omega))).trans hb_t2.out)
      have hb_on : ((v5.alloc (.cells #[.int .i64 1, .int .i64 2, .int .i64 2, .int .i64 3, .int .i64 16] 3)).setCell ⟨w.heap.size + 1 + 1, 2, none⟩ (.int .i64 x)).heap[w.heap.size + 1 + 1]? = some (.cells #[.int .i64 2, .int .i64 m, .int .i64 x] 26 (0, 0)) := (blk_set hb_o.out (.int .i64 x)).trans rfl
      replace hb_o := Lib.hid hb_on
      clear hb_on
      replace lt_r : w.heap.size < ((v5.alloc (.cells #[.int .i64 1, .int .i64 2, .int .i64 2, .int .i64 3, .int .i64 16] 3)).setCell ⟨w.heap.size + 1 + 1, 2, none⟩ (.int .i64 x)).heap.size := Nat.lt_of_lt_of_eq lt_r (show (v5.alloc (.cells #[.int .i64 1, .int .i64 2, .int .i64 2, .int .i64 3, .int .i64 16] 3)).heap.size = ((v5.alloc (.cells #[.int .i64 1, .int .i64 2, .int .i64 2, .int .i64 3, .int .i64 16] 3)).setCell ⟨w.heap.size + 1 + 1, 2, none⟩ (.int .i64 x)).heap.size by simp [World.setCell])
      replace lt_t : w.heap.size + 1 < ((v5.alloc (.cells #[.int .i64 1, .int .i64 2, .int .i64 2, .int .i64 3, .int .i64 16] 3)).setCell ⟨w.heap.size + 1 + 1, 2, none⟩ (.int .i64 x)).heap.size := Nat.lt_of_lt_of_eq lt_t (show (v5.alloc (.cells #[.int .i64 1, .int .i64 2, .int .i64 2, .int .i64 3, .int .i64 16] 3)).heap.size = ((v5.alloc (.cells #[.int .i64 1, .int .i64 2, .int .i64 2, .int .i64 3, .int .i64 16] 3)).setCell ⟨w.heap.size + 1 + 1, 2, none⟩ (.int .i64 x)).heap.size by simp [World.setCell])
      replace lt_o : w.heap.size + 1 + 1 < ((v5.alloc (.cells #[.int .i64 1, .int .i64 2, .int .i64 2, .int .i64 3, .int .i64 16] 3)).setCell ⟨w.heap.size + 1 + 1, 2, none⟩ (.int .i64 x)).heap.size := Nat.lt_of_lt_of_eq lt_o (show (v5.alloc (.cells #[.int .i64 1, .int .i64 2, .int .i64 2, .int .i64 3, .int .i64 16] 3)).heap.size = ((v5.alloc (.cells #[.int .i64 1, .int .i64 2, .int .i64 2, .int .i64 3, .int .i64 16] 3)).setCell ⟨w.heap.size + 1 + 1, 2, none⟩ (.int .i64 x)).heap.size by simp [World.setCell])
      replace lt_t2 : v5.heap.size < ((v5.alloc (.cells #[.int .i64 1, .int .i64 2, .int .i64 2, .int .i64 3, .int .i64 16] 3)).setCell ⟨w.heap.size + 1 + 1, 2, none⟩ (.int .i64 x)).heap.size := Nat.lt_of_lt_of_eq lt_t2 (show (v5.alloc (.cells #[.int .i64 1, .int .i64 2, .int .i64 2, .int .i64 3, .int .i64 16] 3)).heap.size = ((v5.alloc (.cells #[.int .i64 1, .int .i64 2, .int .i64 2, .int .i64 3, .int .i64 16] 3)).setCell ⟨w.heap.size + 1 + 1, 2, none⟩ (.int .i64 x)).heap.size by simp [World.setCell])
      replace hB := hB.setCell (p := ⟨w.heap.size + 1 + 1, 2, none⟩) bs_o.out (.int .i64 x)
      obtain ⟨d_o0, d_o1, d_o2⟩ := three hb_o.out
      have hf_r := blk_frozen hb_r.out
      obtain ⟨c_r0, c_r1, c_r2⟩ := three hb_r.out
      have HB := Lib.hid hB
      go_wp2_with fail
      refine bodyPost_ret (v := .agg #[.int .i64 2, .int .i64 m, .int .i64 x]) (by simp [results, Try.results38, go_sem, c_r0, c_r1, c_r2]) rfl ?_
      exact ⟨2, m, x, rfl, by simp [sortOk] <;> omega, rfl, ((HB.out.setCell (p := ⟨w.heap.size, 0, none⟩) (Nat.le_refl _) _).setCell (p := ⟨w.heap.size, 1, none⟩) (Nat.le_refl _) _).setCell (p := ⟨w.heap.size, 2, none⟩) (Nat.le_refl _) _⟩
    · have ek2 : (q : Int) % 4 = 3 := ek
      clear ek
      have hAr := Lib.hid fun (n ix : Int) W => (show Calls Try.prog 45 #[.agg #[.int .i64 3, .int .i64 n, .int .i64 ix]] W fun e w' => e = .returned (.bool true) ∧ Below W.heap.size W w' from r6Array_any 3 n ix W)
      have hB : Below w.heap.size w w := Below.refl _ _
      have bs_r := Lib.hid (show w.heap.size ≤ w.heap.size from (by have h := hB.size; first | omega | (simp at h; omega)))
      have hb_r := Lib.hid (heap_alloc_new_at w (.cells #[.int .i64 0, .int .i64 0, .int .i64 0] 26) (n := w.heap.size) (by simp))
      have lt_r : w.heap.size < (w.alloc (.cells #[.int .i64 0, .int .i64 0, .int .i64 0] 26)).heap.size := by simp
      replace hB := hB.alloc hB.size (.cells #[.int .i64 0, .int .i64 0, .int .i64 0] 26)
      have bs_t := Lib.hid (show w.heap.size ≤ w.heap.size + 1 from (by have h := hB.size; first | omega | (simp at h; omega)))
      have or_r_t := Lib.hid (show w.heap.size < w.heap.size + 1 from (by have h := lt_r; first | omega | (simp at h; omega)))
      replace hb_r := Lib.hid ((Below.heap_alloc (w.alloc (.cells #[.int .i64 0, .int .i64 0, .int .i64 0] 26)) (.cells #[.int .i64 1, .int .i64 2, .int .i64 3, .int .i64 4, .int .i64 8, .int .i64 64] 3) _ lt_r).trans hb_r.out)
      replace lt_r := Nat.lt_trans lt_r (show (w.alloc (.cells #[.int .i64 0, .int .i64 0, .int .i64 0] 26)).heap.size < ((w.alloc (.cells #[.int .i64 0, .int .i64 0, .int .i64 0] 26)).alloc (.cells #[.int .i64 1, .int .i64 2, .int .i64 3, .int .i64 4, .int .i64 8, .int .i64 64] 3)).heap.size by simp)
      have hb_t := Lib.hid (heap_alloc_new_at (w.alloc (.cells #[.int .i64 0, .int .i64 0, .int .i64 0] 26)) (.cells #[.int .i64 1, .int .i64 2, .int .i64 3, .int .i64 4, .int .i64 8, .int .i64 64] 3) (n := w.heap.size + 1) (by simp))
      have lt_t : w.heap.size + 1 < ((w.alloc (.cells #[.int .i64 0, .int .i64 0, .int .i64 0] 26)).alloc (.cells #[.int .i64 1, .int .i64 2, .int .i64 3, .int .i64 4, .int .i64 8, .int .i64 64] 3)).heap.size := by simp
      replace hB := hB.alloc hB.size (.cells #[.int .i64 1, .int .i64 2, .int .i64 3, .int .i64 4, .int .i64 8, .int .i64 64] 3)
      have hcell : ((w.alloc (.cells #[.int .i64 0, .int .i64 0, .int .i64 0] 26)).alloc (.cells #[.int .i64 1, .int .i64 2, .int .i64 3, .int .i64 4, .int .i64 8, .int .i64 64] 3)).cell? ⟨w.heap.size + 1, j, none⟩ = some (.int .i64 m) := by rw [cell_of_row _ _ j _ _ _ hb_t.out]; exact hmc'.out
      have bs_o := Lib.hid (show w.heap.size ≤ w.heap.size + 1 + 1 from (by have h := hB.size; first | omega | (simp at h; omega)))
      have or_r_o := Lib.hid (show w.heap.size < w.heap.size + 1 + 1 from (by have h := lt_r; first | omega | (simp at h; omega)))
      have or_t_o := Lib.hid (show w.heap.size + 1 < w.heap.size + 1 + 1 from (by have h := lt_t; first | omega | (simp at h; omega)))
      replace hb_r := Lib.hid ((Below.heap_alloc ((w.alloc (.cells #[.int .i64 0, .int .i64 0, .int .i64 0] 26)).alloc (.cells #[.int .i64 1, .int .i64 2, .int .i64 3, .int .i64 4, .int .i64 8, .int .i64 64] 3)) (.cells #[.int .i64 3, .int .i64 m, .int .i64 0] 26) _ lt_r).trans hb_r.out)
      replace lt_r := Nat.lt_trans lt_r (show ((w.alloc (.cells #[.int .i64 0, .int .i64 0, .int .i64 0] 26)).alloc (.cells #[.int .i64 1, .int .i64 2, .int .i64 3, .int .i64 4, .int .i64 8, .int .i64 64] 3)).heap.size < (((w.alloc (.cells #[.int .i64 0, .int .i64 0, .int .i64 0] 26)).alloc (.cells #[.int .i64 1, .int .i64 2, .int .i64 3, .int .i64 4, .int .i64 8, .int .i64 64] 3)).alloc (.cells #[.int .i64 3, .int .i64 m, .int .i64 0] 26)).heap.size by simp)
      replace hb_t := Lib.hid ((Below.heap_alloc ((w.alloc (.cells #[.int .i64 0, .int .i64 0, .int .i64 0] 26)).alloc (.cells #[.int .i64 1, .int .i64 2, .int .i64 3, .int .i64 4, .int .i64 8, .int .i64 64] 3)) (.cells #[.int .i64 3, .int .i64 m, .int .i64 0] 26) _ lt_t).trans hb_t.out)
      replace lt_t := Nat.lt_trans lt_t (show ((w.alloc (.cells #[.int .i64 0, .int .i64 0, .int .i64 0] 26)).alloc (.cells #[.int .i64 1, .int .i64 2, .int .i64 3, .int .i64 4, .int .i64 8, .int .i64 64] 3)).heap.size < (((w.alloc (.cells #[.int .i64 0, .int .i64 0, .int .i64 0] 26)).alloc (.cells #[.int .i64 1, .int .i64 2, .int .i64 3, .int .i64 4, .int .i64 8, .int .i64 64] 3)).alloc (.cells #[.int .i64 3, .int .i64 m, .int .i64 0] 26)).heap.size by simp)
      have hb_o := Lib.hid (heap_alloc_new_at ((w.alloc (.cells #[.int .i64 0, .int .i64 0, .int .i64 0] 26)).alloc (.cells #[.int .i64 1, .int .i64 2, .int .i64 3, .int .i64 4, .int .i64 8, .int .i64 64] 3)) (.cells #[.int .i64 3, .int .i64 m, .int .i64 0] 26) (n := w.heap.size + 1 + 1) (by simp))
      have lt_o : w.heap.size + 1 + 1 < (((w.alloc (.cells #[.int .i64 0, .int .i64 0, .int .i64 0] 26)).alloc (.cells #[.int .i64 1, .int .i64 2, .int .i64 3, .int .i64 4, .int .i64 8, .int .i64 64] 3)).alloc (.cells #[.int .i64 3, .int .i64 m, .int .i64 0] 26)).heap.size := by simp
      replace hB := hB.alloc hB.size (.cells #[.int .i64 3, .int .i64 m, .int .i64 0] 26)
      obtain ⟨c_o0, c_o1, c_o2⟩ := three hb_o.out
      go_enter Try.func38, Try.ntmps38
      go_wp2_with (go_at_call 24; refine Calls.mono (hA.out _) ?_; rintro e w1 ⟨rfl, rfl⟩)
      clear c_o0 c_o1 c_o2 hcell
      generalize (((w.alloc (.cells #[.int .i64 0, .int .i64 0, .int .i64 0] 26)).alloc (.cells #[.int .i64 1, .int .i64 2, .int .i64 3, .int .i64 4, .int .i64 8, .int .i64 64] 3)).alloc (.cells #[.int .i64 3, .int .i64 m, .int .i64 0] 26)) = v4 at *
      refine Calls.mono (hAr.out _ _ _) ?_
      rintro e v5 ⟨rfl, hw⟩
      replace hb_r := Lib.hid ((hw.block _ lt_r).trans hb_r.out)
      replace lt_r := Nat.lt_of_lt_of_le lt_r hw.size
      replace hb_t := Lib.hid ((hw.block _ lt_t).trans hb_t.out)
      replace lt_t := Nat.lt_of_lt_of_le lt_t hw.size
      replace hb_o := Lib.hid ((hw.block _ lt_o).trans hb_o.out)
      replace lt_o := Nat.lt_of_lt_of_le lt_o hw.size
      replace hB := hB.trans (hw.mono hB.size)
      have bs_t2 := Lib.hid (show w.heap.size ≤ v5.heap.size from (by have h := hB.size; first | omega | (simp at h; omega)))
      have or_r_t2 := Lib.hid (show w.heap.size < v5.heap.size from (by have h := lt_r; first | omega | (simp at h; omega)))
      have or_t_t2 := Lib.hid (show w.heap.size + 1 < v5.heap.size from (by have h := lt_t; first | omega | (simp at h; omega)))
      have or_o_t2 := Lib.hid (show w.heap.size + 1 + 1 < v5.heap.size from (by have h := lt_o; first | omega | (simp at h; omega)))
      replace hb_r := Lib.hid ((Below.heap_alloc v5 (.cells #[.int .i64 1, .int .i64 2, .int .i64 2, .int .i64 3, .int .i64 16] 3) _ lt_r).trans hb_r.out)
      replace lt_r := Nat.lt_trans lt_r (show v5.heap.size < (v5.alloc (.cells #[.int .i64 1, .int .i64 2, .int .i64 2, .int .i64 3, .int .i64 16] 3)).heap.size by simp)
      replace hb_t := Lib.hid ((Below.heap_alloc v5 (.cells #[.int .i64 1, .int .i64 2, .int .i64 2, .int .i64 3, .int .i64 16] 3) _ lt_t).trans hb_t.out)
      replace lt_t := Nat.lt_trans lt_t (show v5.heap.size < (v5.alloc (.cells #[.int .i64 1, .int .i64 2, .int .i64 2, .int .i64 3, .int .i64 16] 3)).heap.size by simp)
      replace hb_o := Lib.hid ((Below.heap_alloc v5 (.cells #[.int .i64 1, .int .i64 2, .int .i64 2, .int .i64 3, .int .i64 16] 3) _ lt_o).trans hb_o.out)
      replace lt_o := Nat.lt_trans lt_o (show v5.heap.size < (v5.alloc (.cells #[.int .i64 1, .int .i64 2, .int .i64 2, .int .i64 3, .int .i64 16] 3)).heap.size by simp)
      have hb_t2 := Lib.hid (heap_alloc_new_at v5 (.cells #[.int .i64 1, .int .i64 2, .int .i64 2, .int .i64 3, .int .i64 16] 3) (n := v5.heap.size) (by simp))
      have lt_t2 : v5.heap.size < (v5.alloc (.cells #[.int .i64 1, .int .i64 2, .int .i64 2, .int .i64 3, .int .i64 16] 3)).heap.size := by simp
      replace hB := hB.alloc hB.size (.cells #[.int .i64 1, .int .i64 2, .int .i64 2, .int .i64 3, .int .i64 16] 3)
      have hcell : (v5.alloc (.cells #[.int .i64 1, .int .i64 2, .int .i64 2, .int .i64 3, .int .i64 16] 3)).cell? ⟨v5.heap.size, i, none⟩ = some (.int .i64 x) := by rw [cell_of_row _ _ i _ _ _ hb_t2.out]; exact hxc'.out
      obtain ⟨c_o0, c_o1, c_o2⟩ := three hb_o.out
      have hf_o := blk_frozen hb_o.out
      have hs_o : w.heap.size + 1 + 1 < (v5.alloc (.cells #[.int .i64 1, .int .i64 2, .int .i64 2, .int .i64 3, .int .i64 16] 3)).heap.size := lt_o
      replace hb_r := Lib.hid ((Below.heap_setCell (v5.alloc (.cells #[.int .i64 1, .int .i64 2, .int .i64 2, .int .i64 3, .int .i64 16] 3)) ⟨w.heap.size + 1 + 1, 2, none⟩ (.int .i64 x) (w.heap.size) (by have := or_r_o.out; first | omega | (simp; done) | (simp; omega))).trans hb_r.out)
      replace hb_t := Lib.hid ((Below.heap_setCell (v5.alloc (.cells #[.int .i64 1, .int .i64 2, .int .i64 2, .int .i64 3, .int .i64 16] 3)) ⟨w.heap.size + 1 + 1, 2, none⟩ (.int .i64 x) (w.heap.size + 1) (by have := or_t_o.out; first | omega | (simp; done) | (simp; omega))).trans hb_t.out)
      replace hb_t2 := Lib.hid ((Below.heap_setCell (v5.alloc (.cells #[.int .i64 1, .int .i64 2, .int .i64 2, .int .i64 3, .int .i64 16] 3)) ⟨w.heap.size + 1 + 1, 2, none⟩ (.int .i64 x) (v5.heap.size) (by have := or_o_t2.out; first | omega | (simp; done) | (simp; omega))).trans hb_t2.out)
      have hb_on : ((v5.alloc (.cells #[.int .i64 1, .int .i64 2, .int .i64 2, .int .i64 3, .int .i64 16] 3)).setCell ⟨w.heap.size + 1 + 1, 2, none⟩ (.int .i64 x)).heap[w.heap.size + 1 + 1]? = some (.cells #[.int .i64 3, .int .i64 m, .int .i64 x] 26 (0, 0)) := (blk_set hb_o.out (.int .i64 x)).trans rfl
      replace hb_o := Lib.hid hb_on
      clear hb_on
      replace lt_r : w.heap.size < ((v5.alloc (.cells #[.int .i64 1, .int .i64 2, .int .i64 2, .int .i64 3, .int .i64 16] 3)).setCell ⟨w.heap.size + 1 + 1, 2, none⟩ (.int .i64 x)).heap.size := Nat.lt_of_lt_of_eq lt_r (show (v5.alloc (.cells #[.int .i64 1, .int .i64 2, .int .i64 2, .int .i64 3, .int .i64 16] 3)).heap.size = ((v5.alloc (.cells #[.int .i64 1, .int .i64 2, .int .i64 2, .int .i64 3, .int .i64 16] 3)).setCell ⟨w.heap.size + 1 + 1, 2, none⟩ (.int .i64 x)).heap.size by simp [World.setCell])
      replace lt_t : w.heap.size + 1 < ((v5.alloc (.cells #[.int .i64 1, .int .i64 2, .int .i64 2, .int .i64 3, .int .i64 16] 3)).setCell ⟨w.heap.size + 1 + 1, 2, none⟩ (.int .i64 x)).heap.size := Nat.lt_of_lt_of_eq lt_t (show (v5.alloc (.cells #[.int .i64 1, .int .i64 2, .int .i64 2, .int .i64 3, .int .i64 16] 3)).heap.size = ((v5.alloc (.cells #[.int .i64 1, .int .i64 2, .int .i64 2, .int .i64 3, .int .i64 16] 3)).setCell ⟨w.heap.size + 1 + 1, 2, none⟩ (.int .i64 x)).heap.size by simp [World.setCell])
      replace lt_o : w.heap.size + 1 + 1 < ((v5.alloc (.cells #[.int .i64 1, .int .i64 2, .int .i64 2, .int .i64 3, .int .i64 16] 3)).setCell ⟨w.heap.size + 1 + 1, 2, none⟩ (.int .i64 x)).heap.size := Nat.lt_of_lt_of_eq lt_o (show (v5.alloc (.cells #[.int .i64 1, .int .i64 2, .int .i64 2, .int .i64 3, .int .i64 16] 3)).heap.size = ((v5.alloc (.cells #[.int .i64 1, .int .i64 2, .int .i64 2, .int .i64 3, .int .i64 16] 3)).setCell ⟨w.heap.size + 1 + 1, 2, none⟩ (.int .i64 x)).heap.size by simp [World.setCell])
      replace lt_t2 : v5.heap.size < ((v5.alloc (.cells #[.int .i64 1, .int .i64 2, .int .i64 2, .int .i64 3, .int .i64 16] 3)).setCell ⟨w.heap.size + 1 + 1, 2, none⟩ (.int .i64 x)).heap.size := Nat.lt_of_lt_of_eq lt_t2 (show (v5.alloc (.cells #[.int .i64 1, .int .i64 2, .int .i64 2, .int .i64 3, .int .i64 16] 3)).heap.size = ((v5.alloc (.cells #[.int .i64 1, .int .i64 2, .int .i64 2, .int .i64 3, .int .i64 16] 3)).setCell ⟨w.heap.size + 1 + 1, 2, none⟩ (.int .i64 x)).heap.size by simp [World.setCell])
      replace hB := hB.setCell (p := ⟨w.heap.size + 1 + 1, 2, none⟩) bs_o.out (.int .i64 x)
      obtain ⟨d_o0, d_o1, d_o2⟩ := three hb_o.out
      have hf_r := blk_frozen hb_r.out
      obtain ⟨c_r0, c_r1, c_r2⟩ := three hb_r.out
      have HB := Lib.hid hB
      go_wp2_with fail
      refine bodyPost_ret (v := .agg #[.int .i64 3, .int .i64 m, .int .i64 x]) (by simp [results, Try.results38, go_sem, c_r0, c_r1, c_r2]) rfl ?_
      exact ⟨3, m, x, rfl, by simp [sortOk] <;> omega, rfl, ((HB.out.setCell (p := ⟨w.heap.size, 0, none⟩) (Nat.le_refl _) _).setCell (p := ⟨w.heap.size, 1, none⟩) (Nat.le_refl _) _).setCell (p := ⟨w.heap.size, 2, none⟩) (Nat.le_refl _) _⟩
end Go.Proofs.Ytngfgohchnkidaa
