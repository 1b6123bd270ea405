/-
  THE WALK of the law's own example. Written by gen/genlives6.py.
-/
import Derived.Test.YtngfgohchnkidaaVaSto
import Derived.Test.YtngfgohchnkidaaVaDiff
import Derived.Test.YtngfgohchnkidaaVaEqv
namespace Go.Proofs.Ytngfgohchnkidaa
open Go.RowKit

def zV : Va := ⟨2, 8, 4, 0, .empty, []⟩
def fV (u : Int) : Va := ⟨0, 8, 0, u, .empty, []⟩
def aV : Va := ⟨2, 8, 4, 0, .empty, [⟨3, 5, .empty⟩]⟩
theorem lv_sto1 : stoE zV 3 (fV 5) = 0 ∧ stoV zV 3 (fV 5) = aV := ⟨by decide, rfl⟩
theorem lv_sto2 : stoE aV 3 (fV 0) = 0 ∧ stoV aV 3 (fV 0) = zV := ⟨by decide, rfl⟩
theorem lv_sel3 : selE aV 3 = 0 ∧ selV aV 3 = fV 5 := ⟨by decide, rfl⟩
theorem lv_sel2 : selE aV 2 = 0 ∧ selV aV 2 = fV 0 := ⟨by decide, rfl⟩
theorem lv_val : valE zV = 0 ∧ valE aV = 0 := ⟨by decide, by decide⟩
theorem lv_dff : dffI zV.m aV.m = 3 := by decide
theorem lv_cmp : vaCmp zV zV = 0 := (vaCmp_zero _ _).2 rfl
theorem zV_ok : zV.ok := by refine ⟨⟨?_, ?_, ?_⟩, ?_, ?_, fun e he => ?_, ?_⟩ <;> simp [zV, I64, U64] at *
theorem fV_ok (u : Int) (h : U64 u) : (fV u).ok := by refine ⟨⟨?_, ?_, ?_⟩, ?_, ?_, fun e he => ?_, ?_⟩ <;> simp [fV, I64] at * <;> exact h
theorem aV_ok : aV.ok := by refine ⟨⟨?_, ?_, ?_⟩, ?_, ?_, fun e he => ?_, ?_⟩ <;> simp [aV, I64, U64] at * <;> (subst he; exact ⟨⟨by decide, by decide⟩, ⟨by decide, by decide⟩, by decide⟩)
theorem aVal {W : World} {A : Option Addr} {n c : Nat} (hn : n = 1) (hc : n ≤ c) (hA : A = none → c = 0) (hl : EnL W (LoV W.heap.size) aV.m A) : VaV W (LoV W.heap.size) aV (.agg #[.int .i64 2, .int .i64 8, .int .i64 4, .int .u64 0, .string ⟨#[]⟩, .slice A n c]) := by
  subst hn
  exact VaV.mk (x := aV) aV_ok hc hA hl
theorem zVal {W : World} {A : Option Addr} {n c : Nat} (hn : n = 0) (hc : n ≤ c) (hA : A = none → c = 0) : VaV W (LoV W.heap.size) zV (.agg #[.int .i64 2, .int .i64 8, .int .i64 4, .int .u64 0, .string ⟨#[]⟩, .slice A n c]) := by
  subst hn
  exact VaV.mk (x := zV) zV_ok hc hA (.inl rfl)
theorem lo_mid {w : World} {n : Nat} : ∀ b, MidV n w.heap.size b → LoV w.heap.size b := fun _ h => h.2

set_option maxHeartbeats 2000000 in
set_option maxRecDepth 100000 in
theorem l6lives_any (w : World) : Calls Try.prog 19 #[] w fun e w' => e = .returned (.bool true) ∧ Below w.heap.size w w' := by
  have hem : (.empty : ByteArray) = ⟨#[]⟩ := rfl
  have hB : Below w.heap.size w w := Below.refl _ _
  go_enter Try.func19, Try.ntmps19
  have c_s := three (heap_alloc_new w (.cells #[.int .i64 2, .int .i64 8, .int .i64 4] 26))
  obtain ⟨c_s0, c_s1, c_s2⟩ := c_s
  go_wp2_with fail
  clear c_s0 c_s1 c_s2
  have bs_s := Lib.hid (show w.heap.size ≤ w.heap.size from (by have h := hB.size; first | omega | (simp at h; omega)))
  have hb_s := Lib.hid (heap_alloc_new_at w (.cells #[.int .i64 2, .int .i64 8, .int .i64 4] 26) (n := w.heap.size) (by simp))
  have lt_s : w.heap.size < (w.alloc (.cells #[.int .i64 2, .int .i64 8, .int .i64 4] 26)).heap.size := by simp
  replace hB := hB.alloc hB.size (.cells #[.int .i64 2, .int .i64 8, .int .i64 4] 26)
  generalize (w.alloc (.cells #[.int .i64 2, .int .i64 8, .int .i64 4] 26)) = v2 at *
  have hz := vZero_any 2 8 4 v2
  simp only [sortE, show sortOk 2 8 4 = true from rfl, if_true, vav, hem] at hz
  refine Calls.mono (hz) ?_
  rintro e v3 ⟨rfl, hw⟩
  replace hb_s := Lib.hid ((hw.block _ lt_s).trans hb_s.out)
  replace lt_s := Nat.lt_of_lt_of_le lt_s hw.size
  replace hB := hB.trans (hw.mono hB.size)
  clear hz
  have bs_z := Lib.hid (show w.heap.size ≤ v3.heap.size from (by have h := hB.size; first | omega | (simp at h; omega)))
  have or_s_z := Lib.hid (show w.heap.size < v3.heap.size from (by have h := lt_s; first | omega | (simp at h; omega)))
  replace hb_s := Lib.hid ((Below.heap_alloc v3 (.cells #[.int .i64 2, .int .i64 8, .int .i64 4, .int .u64 0, .string ⟨#[]⟩, .slice none 0 0] 35) _ lt_s).trans hb_s.out)
  replace lt_s := Nat.lt_trans lt_s (show v3.heap.size < (v3.alloc (.cells #[.int .i64 2, .int .i64 8, .int .i64 4, .int .u64 0, .string ⟨#[]⟩, .slice none 0 0] 35)).heap.size by simp)
  have hb_z := Lib.hid (heap_alloc_new_at v3 (.cells #[.int .i64 2, .int .i64 8, .int .i64 4, .int .u64 0, .string ⟨#[]⟩, .slice none 0 0] 35) (n := v3.heap.size) (by simp))
  have lt_z : v3.heap.size < (v3.alloc (.cells #[.int .i64 2, .int .i64 8, .int .i64 4, .int .u64 0, .string ⟨#[]⟩, .slice none 0 0] 35)).heap.size := by simp
  replace hB := hB.alloc hB.size (.cells #[.int .i64 2, .int .i64 8, .int .i64 4, .int .u64 0, .string ⟨#[]⟩, .slice none 0 0] 35)
  have bs_f := Lib.hid (show w.heap.size ≤ v3.heap.size + 1 from (by have h := hB.size; first | omega | (simp at h; omega)))
  have or_s_f := Lib.hid (show w.heap.size < v3.heap.size + 1 from (by have h := lt_s; first | omega | (simp at h; omega)))
  have or_z_f := Lib.hid (show v3.heap.size < v3.heap.size + 1 from (by have h := lt_z; first | omega | (simp at h; omega)))
  replace hb_s := Lib.hid ((Below.heap_alloc (v3.alloc (.cells #[.int .i64 2, .int .i64 8, .int .i64 4, .int .u64 0, .string ⟨#[]⟩, .slice none 0 0] 35)) (.cells #[.int .i64 0, .int .i64 8, .int .i64 0, .int .u64 5, .string ⟨#[]⟩, .slice none 0 0] 35) _ lt_s).trans hb_s.out)
  replace lt_s := Nat.lt_trans lt_s (show (v3.alloc (.cells #[.int .i64 2, .int .i64 8, .int .i64 4, .int .u64 0, .string ⟨#[]⟩, .slice none 0 0] 35)).heap.size < ((v3.alloc (.cells #[.int .i64 2, .int .i64 8, .int .i64 4, .int .u64 0, .string ⟨#[]⟩, .slice none 0 0] 35)).alloc (.cells #[.int .i64 0, .int .i64 8, .int .i64 0, .int .u64 5, .string ⟨#[]⟩, .slice none 0 0] 35)).heap.size by simp)
  replace hb_z := Lib.hid ((Below.heap_alloc (v3.alloc (.cells #[.int .i64 2, .int .i64 8, .int .i64 4, .int .u64 0, .string ⟨#[]⟩, .slice none 0 0] 35)) (.cells #[.int .i64 0, .int .i64 8, .int .i64 0, .int .u64 5, .string ⟨#[]⟩, .slice none 0 0] 35) _ lt_z).trans hb_z.out)
  replace lt_z := Nat.lt_trans lt_z (show (v3.alloc (.cells #[.int .i64 2, .int .i64 8, .int .i64 4, .int .u64 0, .string ⟨#[]⟩, .slice none 0 0] 35)).heap.size < ((v3.alloc (.cells #[.int .i64 2, .int .i64 8, .int .i64 4, .int .u64 0, .string ⟨#[]⟩, .slice none 0 0] 35)).alloc (.cells #[.int .i64 0, .int .i64 8, .int .i64 0, .int .u64 5, .string ⟨#[]⟩, .slice none 0 0] 35)).heap.size by simp)
  have hb_f := Lib.hid (heap_alloc_new_at (v3.alloc (.cells #[.int .i64 2, .int .i64 8, .int .i64 4, .int .u64 0, .string ⟨#[]⟩, .slice none 0 0] 35)) (.cells #[.int .i64 0, .int .i64 8, .int .i64 0, .int .u64 5, .string ⟨#[]⟩, .slice none 0 0] 35) (n := v3.heap.size + 1) (by simp))
  have lt_f : v3.heap.size + 1 < ((v3.alloc (.cells #[.int .i64 2, .int .i64 8, .int .i64 4, .int .u64 0, .string ⟨#[]⟩, .slice none 0 0] 35)).alloc (.cells #[.int .i64 0, .int .i64 8, .int .i64 0, .int .u64 5, .string ⟨#[]⟩, .slice none 0 0] 35)).heap.size := by simp
  replace hB := hB.alloc hB.size (.cells #[.int .i64 0, .int .i64 8, .int .i64 0, .int .u64 5, .string ⟨#[]⟩, .slice none 0 0] 35)
  obtain ⟨c_z0, c_z1, c_z2, c_z3, c_z4, c_z5⟩ := six hb_z.out
  obtain ⟨c_f0, c_f1, c_f2, c_f3, c_f4, c_f5⟩ := six hb_f.out
  go_wp2_with fail
  clear c_z0 c_z1 c_z2 c_z3 c_z4 c_z5
  clear c_f0 c_f1 c_f2 c_f3 c_f4 c_f5
  generalize ((v3.alloc (.cells #[.int .i64 2, .int .i64 8, .int .i64 4, .int .u64 0, .string ⟨#[]⟩, .slice none 0 0] 35)).alloc (.cells #[.int .i64 0, .int .i64 8, .int .i64 0, .int .u64 5, .string ⟨#[]⟩, .slice none 0 0] 35)) = v6 at *
  have hS := vStore_any zV (fV 5) (.agg #[.int .i64 2, .int .i64 8, .int .i64 4, .int .u64 0, .string ⟨#[]⟩, .slice none 0 0]) (.agg #[.int .i64 0, .int .i64 8, .int .i64 0, .int .u64 5, .string ⟨#[]⟩, .slice none 0 0]) 3 v6 (show VaV v6 (LoV v6.heap.size) zV (.agg #[.int .i64 2, .int .i64 8, .int .i64 4, .int .u64 0, .string ⟨#[]⟩, .slice none 0 0]) from VaV.mk (x := zV) (A := none) (c := 0) zV_ok (Nat.le_refl _) (fun _ => rfl) (.inl rfl)) (show VaV v6 (LoV v6.heap.size) (fV 5) (.agg #[.int .i64 0, .int .i64 8, .int .i64 0, .int .u64 5, .string ⟨#[]⟩, .slice none 0 0]) from VaV.mk (x := (fV 5)) (A := none) (c := 0) (fV_ok 5 ⟨by decide, by decide⟩) (Nat.le_refl _) (fun _ => rfl) (.inl rfl)) ⟨by decide, by decide⟩
  rw [lv_sto1.1, lv_sto1.2] at hS
  have lt_f0 := Lib.hid lt_f
  refine Calls.mono (hS) ?_
  rintro e v7 ⟨va, rfl, hva, hw⟩
  replace hb_s := Lib.hid ((hw.block _ lt_s).trans hb_s.out)
  replace lt_s := Nat.lt_of_lt_of_le lt_s hw.size
  replace hb_z := Lib.hid ((hw.block _ lt_z).trans hb_z.out)
  replace lt_z := Nat.lt_of_lt_of_le lt_z hw.size
  replace hb_f := Lib.hid ((hw.block _ lt_f).trans hb_f.out)
  replace lt_f := Nat.lt_of_lt_of_le lt_f hw.size
  replace hB := hB.trans (hw.mono hB.size)
  clear hS
  obtain ⟨_, A, c, hve, hc, hA, hl0⟩ := hva
  obtain ⟨n1, hn1⟩ : ∃ n1, n1 = aV.m.length := ⟨_, rfl⟩
  rw [← hn1] at hve hc
  have hve2 : va = .agg #[.int .i64 2, .int .i64 8, .int .i64 4, .int .u64 0, .string ⟨#[]⟩, .slice A n1 c] := hve
  subst hve2
  clear hve
  have Hn1 := Lib.hid (show n1 = 1 from hn1)
  clear hn1
  have hl_a := Lib.hid hl0
  clear hl0
  have lr_a := Lib.hid (show ∀ b, (MidV v6.heap.size v7.heap.size) b → b < v7.heap.size from fun b hb => hb.2)
  have ne_a_f := Lib.hid (show ∀ b, (MidV v6.heap.size v7.heap.size) b → b ≠ v3.heap.size + 1 from fun b hb => by have h1 := hb.1; have h2 := lt_f0.out; omega)
  replace hA := Lib.hid hA
  replace hc := Lib.hid hc
  have bs_a := Lib.hid (show w.heap.size ≤ v7.heap.size from (by have h := hB.size; first | omega | (simp at h; omega)))
  have or_s_a := Lib.hid (show w.heap.size < v7.heap.size from (by have h := lt_s; first | omega | (simp at h; omega)))
  have or_z_a := Lib.hid (show v3.heap.size < v7.heap.size from (by have h := lt_z; first | omega | (simp at h; omega)))
  have or_f_a := Lib.hid (show v3.heap.size + 1 < v7.heap.size from (by have h := lt_f; first | omega | (simp at h; omega)))
  replace hb_s := Lib.hid ((Below.heap_alloc v7 (.cells #[.int .i64 2, .int .i64 8, .int .i64 4, .int .u64 0, .string ⟨#[]⟩, .slice A n1 c] 35) _ lt_s).trans hb_s.out)
  replace lt_s := Nat.lt_trans lt_s (show v7.heap.size < (v7.alloc (.cells #[.int .i64 2, .int .i64 8, .int .i64 4, .int .u64 0, .string ⟨#[]⟩, .slice A n1 c] 35)).heap.size by simp)
  replace hb_z := Lib.hid ((Below.heap_alloc v7 (.cells #[.int .i64 2, .int .i64 8, .int .i64 4, .int .u64 0, .string ⟨#[]⟩, .slice A n1 c] 35) _ lt_z).trans hb_z.out)
  replace lt_z := Nat.lt_trans lt_z (show v7.heap.size < (v7.alloc (.cells #[.int .i64 2, .int .i64 8, .int .i64 4, .int .u64 0, .string ⟨#[]⟩, .slice A n1 c] 35)).heap.size by simp)
  replace hb_f := Lib.hid ((Below.heap_alloc v7 (.cells #[.int .i64 2, .int .i64 8, .int .i64 4, .int .u64 0, .string ⟨#[]⟩, .slice A n1 c] 35) _ lt_f).trans hb_f.out)
  replace lt_f := Nat.lt_trans lt_f (show v7.heap.size < (v7.alloc (.cells #[.int .i64 2, .int .i64 8, .int .i64 4, .int .u64 0, .string ⟨#[]⟩, .slice A n1 c] 35)).heap.size by simp)
  replace hl_a := Lib.hid (hl_a.out.to (w' := (v7.alloc (.cells #[.int .i64 2, .int .i64 8, .int .i64 4, .int .u64 0, .string ⟨#[]⟩, .slice A n1 c] 35))) (T := (MidV v6.heap.size v7.heap.size)) (fun b hb => ⟨hb, Below.heap_alloc v7 (.cells #[.int .i64 2, .int .i64 8, .int .i64 4, .int .u64 0, .string ⟨#[]⟩, .slice A n1 c] 35) b (lr_a.out b hb)⟩))
  replace lr_a := Lib.hid (show ∀ b, (MidV v6.heap.size v7.heap.size) b → b < (v7.alloc (.cells #[.int .i64 2, .int .i64 8, .int .i64 4, .int .u64 0, .string ⟨#[]⟩, .slice A n1 c] 35)).heap.size from fun b hb => Nat.lt_trans (lr_a.out b hb) (by simp))
  have hb_a := Lib.hid (heap_alloc_new_at v7 (.cells #[.int .i64 2, .int .i64 8, .int .i64 4, .int .u64 0, .string ⟨#[]⟩, .slice A n1 c] 35) (n := v7.heap.size) (by simp))
  have lt_a : v7.heap.size < (v7.alloc (.cells #[.int .i64 2, .int .i64 8, .int .i64 4, .int .u64 0, .string ⟨#[]⟩, .slice A n1 c] 35)).heap.size := by simp
  replace hB := hB.alloc hB.size (.cells #[.int .i64 2, .int .i64 8, .int .i64 4, .int .u64 0, .string ⟨#[]⟩, .slice A n1 c] 35)
  obtain ⟨c_a0, c_a1, c_a2, c_a3, c_a4, c_a5⟩ := six hb_a.out
  go_wp2_with fail
  clear c_a0 c_a1 c_a2 c_a3 c_a4 c_a5
  generalize (v7.alloc (.cells #[.int .i64 2, .int .i64 8, .int .i64 4, .int .u64 0, .string ⟨#[]⟩, .slice A n1 c] 35)) = v9 at *
  have hS := vSelect_any aV (.agg #[.int .i64 2, .int .i64 8, .int .i64 4, .int .u64 0, .string ⟨#[]⟩, .slice A n1 c]) 3 v9 (aVal Hn1.out hc.out hA.out (hl_a.out.to (T := LoV v9.heap.size) (fun b hb => ⟨lr_a.out b hb, rfl⟩)))
  rw [lv_sel3.1, lv_sel3.2] at hS
  simp only [fV, vav, hem] at hS
  refine Calls.mono (hS) ?_
  rintro e v10 ⟨rfl, hw⟩
  replace hb_s := Lib.hid ((hw.block _ lt_s).trans hb_s.out)
  replace lt_s := Nat.lt_of_lt_of_le lt_s hw.size
  replace hb_z := Lib.hid ((hw.block _ lt_z).trans hb_z.out)
  replace lt_z := Nat.lt_of_lt_of_le lt_z hw.size
  replace hb_f := Lib.hid ((hw.block _ lt_f).trans hb_f.out)
  replace lt_f := Nat.lt_of_lt_of_le lt_f hw.size
  replace hb_a := Lib.hid ((hw.block _ lt_a).trans hb_a.out)
  replace lt_a := Nat.lt_of_lt_of_le lt_a hw.size
  replace hl_a := Lib.hid (hl_a.out.to (w' := v10) (T := (MidV v6.heap.size v7.heap.size)) (fun b hb => ⟨hb, hw.block b (lr_a.out b hb)⟩))
  replace lr_a := Lib.hid (show ∀ b, (MidV v6.heap.size v7.heap.size) b → b < v10.heap.size from fun b hb => Nat.lt_of_lt_of_le (lr_a.out b hb) hw.size)
  replace hB := hB.trans (hw.mono hB.size)
  clear hS
  have bs_x := Lib.hid (show w.heap.size ≤ v10.heap.size from (by have h := hB.size; first | omega | (simp at h; omega)))
  have or_s_x := Lib.hid (show w.heap.size < v10.heap.size from (by have h := lt_s; first | omega | (simp at h; omega)))
  have or_z_x := Lib.hid (show v3.heap.size < v10.heap.size from (by have h := lt_z; first | omega | (simp at h; omega)))
  have or_f_x := Lib.hid (show v3.heap.size + 1 < v10.heap.size from (by have h := lt_f; first | omega | (simp at h; omega)))
  have or_a_x := Lib.hid (show v7.heap.size < v10.heap.size from (by have h := lt_a; first | omega | (simp at h; omega)))
  replace hb_s := Lib.hid ((Below.heap_alloc v10 (.cells #[.int .i64 0, .int .i64 8, .int .i64 0, .int .u64 5, .string ⟨#[]⟩, .slice none 0 0] 35) _ lt_s).trans hb_s.out)
  replace lt_s := Nat.lt_trans lt_s (show v10.heap.size < (v10.alloc (.cells #[.int .i64 0, .int .i64 8, .int .i64 0, .int .u64 5, .string ⟨#[]⟩, .slice none 0 0] 35)).heap.size by simp)
  replace hb_z := Lib.hid ((Below.heap_alloc v10 (.cells #[.int .i64 0, .int .i64 8, .int .i64 0, .int .u64 5, .string ⟨#[]⟩, .slice none 0 0] 35) _ lt_z).trans hb_z.out)
  replace lt_z := Nat.lt_trans lt_z (show v10.heap.size < (v10.alloc (.cells #[.int .i64 0, .int .i64 8, .int .i64 0, .int .u64 5, .string ⟨#[]⟩, .slice none 0 0] 35)).heap.size by simp)
  replace hb_f := Lib.hid ((Below.heap_alloc v10 (.cells #[.int .i64 0, .int .i64 8, .int .i64 0, .int .u64 5, .string ⟨#[]⟩, .slice none 0 0] 35) _ lt_f).trans hb_f.out)
  replace lt_f := Nat.lt_trans lt_f (show v10.heap.size < (v10.alloc (.cells #[.int .i64 0, .int .i64 8, .int .i64 0, .int .u64 5, .string ⟨#[]⟩, .slice none 0 0] 35)).heap.size by simp)
  replace hb_a := Lib.hid ((Below.heap_alloc v10 (.cells #[.int .i64 0, .int .i64 8, .int .i64 0, .int .u64 5, .string ⟨#[]⟩, .slice none 0 0] 35) _ lt_a).trans hb_a.out)
  replace lt_a := Nat.lt_trans lt_a (show v10.heap.size < (v10.alloc (.cells #[.int .i64 0, .int .i64 8, .int .i64 0, .int .u64 5, .string ⟨#[]⟩, .slice none 0 0] 35)).heap.size by simp)
  replace hl_a := Lib.hid (hl_a.out.to (w' := (v10.alloc (.cells #[.int .i64 0, .int .i64 8, .int .i64 0, .int .u64 5, .string ⟨#[]⟩, .slice none 0 0] 35))) (T := (MidV v6.heap.size v7.heap.size)) (fun b hb => ⟨hb, Below.heap_alloc v10 (.cells #[.int .i64 0, .int .i64 8, .int .i64 0, .int .u64 5, .string ⟨#[]⟩, .slice none 0 0] 35) b (lr_a.out b hb)⟩))
  replace lr_a := Lib.hid (show ∀ b, (MidV v6.heap.size v7.heap.size) b → b < (v10.alloc (.cells #[.int .i64 0, .int .i64 8, .int .i64 0, .int .u64 5, .string ⟨#[]⟩, .slice none 0 0] 35)).heap.size from fun b hb => Nat.lt_trans (lr_a.out b hb) (by simp))
  have hb_x := Lib.hid (heap_alloc_new_at v10 (.cells #[.int .i64 0, .int .i64 8, .int .i64 0, .int .u64 5, .string ⟨#[]⟩, .slice none 0 0] 35) (n := v10.heap.size) (by simp))
  have lt_x : v10.heap.size < (v10.alloc (.cells #[.int .i64 0, .int .i64 8, .int .i64 0, .int .u64 5, .string ⟨#[]⟩, .slice none 0 0] 35)).heap.size := by simp
  replace hB := hB.alloc hB.size (.cells #[.int .i64 0, .int .i64 8, .int .i64 0, .int .u64 5, .string ⟨#[]⟩, .slice none 0 0] 35)
  obtain ⟨c_a0, c_a1, c_a2, c_a3, c_a4, c_a5⟩ := six hb_a.out
  obtain ⟨c_x0, c_x1, c_x2, c_x3, c_x4, c_x5⟩ := six hb_x.out
  obtain ⟨c_z0, c_z1, c_z2, c_z3, c_z4, c_z5⟩ := six hb_z.out
  go_wp2_with fail
  clear c_a0 c_a1 c_a2 c_a3 c_a4 c_a5
  clear c_x0 c_x1 c_x2 c_x3 c_x4 c_x5
  clear c_z0 c_z1 c_z2 c_z3 c_z4 c_z5
  generalize (v10.alloc (.cells #[.int .i64 0, .int .i64 8, .int .i64 0, .int .u64 5, .string ⟨#[]⟩, .slice none 0 0] 35)) = v12 at *
  have hS := vSelect_any aV (.agg #[.int .i64 2, .int .i64 8, .int .i64 4, .int .u64 0, .string ⟨#[]⟩, .slice A n1 c]) 2 v12 (aVal Hn1.out hc.out hA.out (hl_a.out.to (T := LoV v12.heap.size) (fun b hb => ⟨lr_a.out b hb, rfl⟩)))
  rw [lv_sel2.1, lv_sel2.2] at hS
  simp only [fV, vav, hem] at hS
  refine Calls.mono (hS) ?_
  rintro e v13 ⟨rfl, hw⟩
  replace hb_s := Lib.hid ((hw.block _ lt_s).trans hb_s.out)
  replace lt_s := Nat.lt_of_lt_of_le lt_s hw.size
  replace hb_z := Lib.hid ((hw.block _ lt_z).trans hb_z.out)
  replace lt_z := Nat.lt_of_lt_of_le lt_z hw.size
  replace hb_f := Lib.hid ((hw.block _ lt_f).trans hb_f.out)
  replace lt_f := Nat.lt_of_lt_of_le lt_f hw.size
  replace hb_a := Lib.hid ((hw.block _ lt_a).trans hb_a.out)
  replace lt_a := Nat.lt_of_lt_of_le lt_a hw.size
  replace hb_x := Lib.hid ((hw.block _ lt_x).trans hb_x.out)
  replace lt_x := Nat.lt_of_lt_of_le lt_x hw.size
  replace hl_a := Lib.hid (hl_a.out.to (w' := v13) (T := (MidV v6.heap.size v7.heap.size)) (fun b hb => ⟨hb, hw.block b (lr_a.out b hb)⟩))
  replace lr_a := Lib.hid (show ∀ b, (MidV v6.heap.size v7.heap.size) b → b < v13.heap.size from fun b hb => Nat.lt_of_lt_of_le (lr_a.out b hb) hw.size)
  replace hB := hB.trans (hw.mono hB.size)
  clear hS
  have bs_y := Lib.hid (show w.heap.size ≤ v13.heap.size from (by have h := hB.size; first | omega | (simp at h; omega)))
  have or_s_y := Lib.hid (show w.heap.size < v13.heap.size from (by have h := lt_s; first | omega | (simp at h; omega)))
  have or_z_y := Lib.hid (show v3.heap.size < v13.heap.size from (by have h := lt_z; first | omega | (simp at h; omega)))
  have or_f_y := Lib.hid (show v3.heap.size + 1 < v13.heap.size from (by have h := lt_f; first | omega | (simp at h; omega)))
  have or_a_y := Lib.hid (show v7.heap.size < v13.heap.size from (by have h := lt_a; first | omega | (simp at h; omega)))
  have or_x_y := Lib.hid (show v10.heap.size < v13.heap.size from (by have h := lt_x; first | omega | (simp at h; omega)))
  replace hb_s := Lib.hid ((Below.heap_alloc v13 (.cells #[.int .i64 0, .int .i64 8, .int .i64 0, .int .u64 0, .string ⟨#[]⟩, .slice none 0 0] 35) _ lt_s).trans hb_s.out)
  replace lt_s := Nat.lt_trans lt_s (show v13.heap.size < (v13.alloc (.cells #[.int .i64 0, .int .i64 8, .int .i64 0, .int .u64 0, .string ⟨#[]⟩, .slice none 0 0] 35)).heap.size by simp)
  replace hb_z := Lib.hid ((Below.heap_alloc v13 (.cells #[.int .i64 0, .int .i64 8, .int .i64 0, .int .u64 0, .string ⟨#[]⟩, .slice none 0 0] 35) _ lt_z).trans hb_z.out)
  replace lt_z := Nat.lt_trans lt_z (show v13.heap.size < (v13.alloc (.cells #[.int .i64 0, .int .i64 8, .int .i64 0, .int .u64 0, .string ⟨#[]⟩, .slice none 0 0] 35)).heap.size by simp)
  replace hb_f := Lib.hid ((Below.heap_alloc v13 (.cells #[.int .i64 0, .int .i64 8, .int .i64 0, .int .u64 0, .string ⟨#[]⟩, .slice none 0 0] 35) _ lt_f).trans hb_f.out)
  replace lt_f := Nat.lt_trans lt_f (show v13.heap.size < (v13.alloc (.cells #[.int .i64 0, .int .i64 8, .int .i64 0, .int .u64 0, .string ⟨#[]⟩, .slice none 0 0] 35)).heap.size by simp)
  replace hb_a := Lib.hid ((Below.heap_alloc v13 (.cells #[.int .i64 0, .int .i64 8, .int .i64 0, .int .u64 0, .string ⟨#[]⟩, .slice none 0 0] 35) _ lt_a).trans hb_a.out)
  replace lt_a := Nat.lt_trans lt_a (show v13.heap.size < (v13.alloc (.cells #[.int .i64 0, .int .i64 8, .int .i64 0, .int .u64 0, .string ⟨#[]⟩, .slice none 0 0] 35)).heap.size by simp)
  replace hb_x := Lib.hid ((Below.heap_alloc v13 (.cells #[.int .i64 0, .int .i64 8, .int .i64 0, .int .u64 0, .string ⟨#[]⟩, .slice none 0 0] 35) _ lt_x).trans hb_x.out)
  replace lt_x := Nat.lt_trans lt_x (show v13.heap.size < (v13.alloc (.cells #[.int .i64 0, .int .i64 8, .int .i64 0, .int .u64 0, .string ⟨#[]⟩, .slice none 0 0] 35)).heap.size by simp)
  replace hl_a := Lib.hid (hl_a.out.to (w' := (v13.alloc (.cells #[.int .i64 0, .int .i64 8, .int .i64 0, .int .u64 0, .string ⟨#[]⟩, .slice none 0 0] 35))) (T := (MidV v6.heap.size v7.heap.size)) (fun b hb => ⟨hb, Below.heap_alloc v13 (.cells #[.int .i64 0, .int .i64 8, .int .i64 0, .int .u64 0, .string ⟨#[]⟩, .slice none 0 0] 35) b (lr_a.out b hb)⟩))
  replace lr_a := Lib.hid (show ∀ b, (MidV v6.heap.size v7.heap.size) b → b < (v13.alloc (.cells #[.int .i64 0, .int .i64 8, .int .i64 0, .int .u64 0, .string ⟨#[]⟩, .slice none 0 0] 35)).heap.size from fun b hb => Nat.lt_trans (lr_a.out b hb) (by simp))
  have hb_y := Lib.hid (heap_alloc_new_at v13 (.cells #[.int .i64 0, .int .i64 8, .int .i64 0, .int .u64 0, .string ⟨#[]⟩, .slice none 0 0] 35) (n := v13.heap.size) (by simp))
  have lt_y : v13.heap.size < (v13.alloc (.cells #[.int .i64 0, .int .i64 8, .int .i64 0, .int .u64 0, .string ⟨#[]⟩, .slice none 0 0] 35)).heap.size := by simp
  replace hB := hB.alloc hB.size (.cells #[.int .i64 0, .int .i64 8, .int .i64 0, .int .u64 0, .string ⟨#[]⟩, .slice none 0 0] 35)
  obtain ⟨c_a0, c_a1, c_a2, c_a3, c_a4, c_a5⟩ := six hb_a.out
  obtain ⟨c_y0, c_y1, c_y2, c_y3, c_y4, c_y5⟩ := six hb_y.out
  obtain ⟨c_z0, c_z1, c_z2, c_z3, c_z4, c_z5⟩ := six hb_z.out
  go_wp2_with fail
  clear c_a0 c_a1 c_a2 c_a3 c_a4 c_a5
  clear c_y0 c_y1 c_y2 c_y3 c_y4 c_y5
  clear c_z0 c_z1 c_z2 c_z3 c_z4 c_z5
  generalize (v13.alloc (.cells #[.int .i64 0, .int .i64 8, .int .i64 0, .int .u64 0, .string ⟨#[]⟩, .slice none 0 0] 35)) = v15 at *
  have hS := vDiff_any 2 8 4 0 0 .empty .empty [] aV.m (.agg #[.int .i64 2, .int .i64 8, .int .i64 4, .int .u64 0, .string ⟨#[]⟩, .slice none 0 0]) (.agg #[.int .i64 2, .int .i64 8, .int .i64 4, .int .u64 0, .string ⟨#[]⟩, .slice A n1 c]) v15 (show VaV v15 (LoV v15.heap.size) zV (.agg #[.int .i64 2, .int .i64 8, .int .i64 4, .int .u64 0, .string ⟨#[]⟩, .slice none 0 0]) from VaV.mk (x := zV) (A := none) (c := 0) zV_ok (Nat.le_refl _) (fun _ => rfl) (.inl rfl)) (aVal Hn1.out hc.out hA.out (hl_a.out.to (T := LoV v15.heap.size) (fun b hb => ⟨lr_a.out b hb, rfl⟩))) lv_val.1 lv_val.2 rfl
  rw [show dffI [] aV.m = 3 from lv_dff] at hS
  refine Calls.mono (hS) ?_
  rintro e v16 ⟨rfl, hw⟩
  replace hb_s := Lib.hid ((hw.block _ lt_s).trans hb_s.out)
  replace lt_s := Nat.lt_of_lt_of_le lt_s hw.size
  replace hb_z := Lib.hid ((hw.block _ lt_z).trans hb_z.out)
  replace lt_z := Nat.lt_of_lt_of_le lt_z hw.size
  replace hb_f := Lib.hid ((hw.block _ lt_f).trans hb_f.out)
  replace lt_f := Nat.lt_of_lt_of_le lt_f hw.size
  replace hb_a := Lib.hid ((hw.block _ lt_a).trans hb_a.out)
  replace lt_a := Nat.lt_of_lt_of_le lt_a hw.size
  replace hb_x := Lib.hid ((hw.block _ lt_x).trans hb_x.out)
  replace lt_x := Nat.lt_of_lt_of_le lt_x hw.size
  replace hb_y := Lib.hid ((hw.block _ lt_y).trans hb_y.out)
  replace lt_y := Nat.lt_of_lt_of_le lt_y hw.size
  replace hl_a := Lib.hid (hl_a.out.to (w' := v16) (T := (MidV v6.heap.size v7.heap.size)) (fun b hb => ⟨hb, hw.block b (lr_a.out b hb)⟩))
  replace lr_a := Lib.hid (show ∀ b, (MidV v6.heap.size v7.heap.size) b → b < v16.heap.size from fun b hb => Nat.lt_of_lt_of_le (lr_a.out b hb) hw.size)
  replace hB := hB.trans (hw.mono hB.size)
  clear hS
  obtain ⟨c_f0, c_f1, c_f2, c_f3, c_f4, c_f5⟩ := six hb_f.out
  have hf_f := blk_frozen hb_f.out
  have hs_f : v3.heap.size + 1 < v16.heap.size := lt_f
  replace hb_s := Lib.hid ((Below.heap_setCell v16 ⟨v3.heap.size + 1, 3, none⟩ (.int .u64 0) (w.heap.size) (by have := or_s_f.out; first | omega | (simp; done) | (simp; omega))).trans hb_s.out)
  replace hb_z := Lib.hid ((Below.heap_setCell v16 ⟨v3.heap.size + 1, 3, none⟩ (.int .u64 0) (v3.heap.size) (by have := or_z_f.out; first | omega | (simp; done) | (simp; omega))).trans hb_z.out)
  replace hb_a := Lib.hid ((Below.heap_setCell v16 ⟨v3.heap.size + 1, 3, none⟩ (.int .u64 0) (v7.heap.size) (by have := or_f_a.out; first | omega | (simp; done) | (simp; omega))).trans hb_a.out)
  replace hb_x := Lib.hid ((Below.heap_setCell v16 ⟨v3.heap.size + 1, 3, none⟩ (.int .u64 0) (v10.heap.size) (by have := or_f_x.out; first | omega | (simp; done) | (simp; omega))).trans hb_x.out)
  replace hb_y := Lib.hid ((Below.heap_setCell v16 ⟨v3.heap.size + 1, 3, none⟩ (.int .u64 0) (v13.heap.size) (by have := or_f_y.out; first | omega | (simp; done) | (simp; omega))).trans hb_y.out)
  have hb_fn : (v16.setCell ⟨v3.heap.size + 1, 3, none⟩ (.int .u64 0)).heap[v3.heap.size + 1]? = some (.cells #[.int .i64 0, .int .i64 8, .int .i64 0, .int .u64 0, .string ⟨#[]⟩, .slice none 0 0] 35 (0, 0)) := (blk_set hb_f.out (.int .u64 0)).trans rfl
  replace hb_f := Lib.hid hb_fn
  clear hb_fn
  replace lt_s : w.heap.size < (v16.setCell ⟨v3.heap.size + 1, 3, none⟩ (.int .u64 0)).heap.size := Nat.lt_of_lt_of_eq lt_s (show v16.heap.size = (v16.setCell ⟨v3.heap.size + 1, 3, none⟩ (.int .u64 0)).heap.size by simp [World.setCell])
  replace lt_z : v3.heap.size < (v16.setCell ⟨v3.heap.size + 1, 3, none⟩ (.int .u64 0)).heap.size := Nat.lt_of_lt_of_eq lt_z (show v16.heap.size = (v16.setCell ⟨v3.heap.size + 1, 3, none⟩ (.int .u64 0)).heap.size by simp [World.setCell])
  replace lt_f : v3.heap.size + 1 < (v16.setCell ⟨v3.heap.size + 1, 3, none⟩ (.int .u64 0)).heap.size := Nat.lt_of_lt_of_eq lt_f (show v16.heap.size = (v16.setCell ⟨v3.heap.size + 1, 3, none⟩ (.int .u64 0)).heap.size by simp [World.setCell])
  replace lt_a : v7.heap.size < (v16.setCell ⟨v3.heap.size + 1, 3, none⟩ (.int .u64 0)).heap.size := Nat.lt_of_lt_of_eq lt_a (show v16.heap.size = (v16.setCell ⟨v3.heap.size + 1, 3, none⟩ (.int .u64 0)).heap.size by simp [World.setCell])
  replace lt_x : v10.heap.size < (v16.setCell ⟨v3.heap.size + 1, 3, none⟩ (.int .u64 0)).heap.size := Nat.lt_of_lt_of_eq lt_x (show v16.heap.size = (v16.setCell ⟨v3.heap.size + 1, 3, none⟩ (.int .u64 0)).heap.size by simp [World.setCell])
  replace lt_y : v13.heap.size < (v16.setCell ⟨v3.heap.size + 1, 3, none⟩ (.int .u64 0)).heap.size := Nat.lt_of_lt_of_eq lt_y (show v16.heap.size = (v16.setCell ⟨v3.heap.size + 1, 3, none⟩ (.int .u64 0)).heap.size by simp [World.setCell])
  replace hl_a := Lib.hid (hl_a.out.to (w' := (v16.setCell ⟨v3.heap.size + 1, 3, none⟩ (.int .u64 0))) (T := (MidV v6.heap.size v7.heap.size)) (fun b hb => ⟨hb, Below.heap_setCell v16 ⟨v3.heap.size + 1, 3, none⟩ (.int .u64 0) b (by have := ne_a_f.out b hb; simpa using this)⟩))
  replace lr_a := Lib.hid (show ∀ b, (MidV v6.heap.size v7.heap.size) b → b < (v16.setCell ⟨v3.heap.size + 1, 3, none⟩ (.int .u64 0)).heap.size from fun b hb => Nat.lt_of_lt_of_eq (lr_a.out b hb) (show v16.heap.size = (v16.setCell ⟨v3.heap.size + 1, 3, none⟩ (.int .u64 0)).heap.size by simp [World.setCell]))
  replace hB := hB.setCell (p := ⟨v3.heap.size + 1, 3, none⟩) bs_f.out (.int .u64 0)
  obtain ⟨d_f0, d_f1, d_f2, d_f3, d_f4, d_f5⟩ := six hb_f.out
  obtain ⟨c_a0, c_a1, c_a2, c_a3, c_a4, c_a5⟩ := six hb_a.out
  go_wp2_with fail
  clear c_a0 c_a1 c_a2 c_a3 c_a4 c_a5
  clear c_f0 c_f1 c_f2 c_f3 c_f4 c_f5 d_f0 d_f1 d_f2 d_f3 d_f4 d_f5 hf_f
  generalize (v16.setCell ⟨v3.heap.size + 1, 3, none⟩ (.int .u64 0)) = v17 at *
  have hS := vStore_any aV (fV 0) (.agg #[.int .i64 2, .int .i64 8, .int .i64 4, .int .u64 0, .string ⟨#[]⟩, .slice A n1 c]) (.agg #[.int .i64 0, .int .i64 8, .int .i64 0, .int .u64 0, .string ⟨#[]⟩, .slice none 0 0]) 3 v17 (aVal Hn1.out hc.out hA.out (hl_a.out.to (T := LoV v17.heap.size) (fun b hb => ⟨lr_a.out b hb, rfl⟩))) (show VaV v17 (LoV v17.heap.size) (fV 0) (.agg #[.int .i64 0, .int .i64 8, .int .i64 0, .int .u64 0, .string ⟨#[]⟩, .slice none 0 0]) from VaV.mk (x := (fV 0)) (A := none) (c := 0) (fV_ok 0 ⟨by decide, by decide⟩) (Nat.le_refl _) (fun _ => rfl) (.inl rfl)) ⟨by decide, by decide⟩
  rw [lv_sto2.1, lv_sto2.2] at hS
  refine Calls.mono (hS) ?_
  rintro e v18 ⟨vb, rfl, hvb, hw⟩
  replace hb_s := Lib.hid ((hw.block _ lt_s).trans hb_s.out)
  replace lt_s := Nat.lt_of_lt_of_le lt_s hw.size
  replace hb_z := Lib.hid ((hw.block _ lt_z).trans hb_z.out)
  replace lt_z := Nat.lt_of_lt_of_le lt_z hw.size
  replace hb_f := Lib.hid ((hw.block _ lt_f).trans hb_f.out)
  replace lt_f := Nat.lt_of_lt_of_le lt_f hw.size
  replace hb_a := Lib.hid ((hw.block _ lt_a).trans hb_a.out)
  replace lt_a := Nat.lt_of_lt_of_le lt_a hw.size
  replace hb_x := Lib.hid ((hw.block _ lt_x).trans hb_x.out)
  replace lt_x := Nat.lt_of_lt_of_le lt_x hw.size
  replace hb_y := Lib.hid ((hw.block _ lt_y).trans hb_y.out)
  replace lt_y := Nat.lt_of_lt_of_le lt_y hw.size
  replace hl_a := Lib.hid (hl_a.out.to (w' := v18) (T := (MidV v6.heap.size v7.heap.size)) (fun b hb => ⟨hb, hw.block b (lr_a.out b hb)⟩))
  replace lr_a := Lib.hid (show ∀ b, (MidV v6.heap.size v7.heap.size) b → b < v18.heap.size from fun b hb => Nat.lt_of_lt_of_le (lr_a.out b hb) hw.size)
  replace hB := hB.trans (hw.mono hB.size)
  clear hS
  obtain ⟨_, B, d, hve, hcb, hAb, hl0⟩ := hvb
  obtain ⟨n2, hn2⟩ : ∃ n2, n2 = zV.m.length := ⟨_, rfl⟩
  rw [← hn2] at hve hcb
  have hve2 : vb = .agg #[.int .i64 2, .int .i64 8, .int .i64 4, .int .u64 0, .string ⟨#[]⟩, .slice B n2 d] := hve
  subst hve2
  clear hve
  have Hn2 := Lib.hid (show n2 = 0 from hn2)
  clear hn2 hl0
  replace hAb := Lib.hid hAb
  replace hcb := Lib.hid hcb
  have bs_b := Lib.hid (show w.heap.size ≤ v18.heap.size from (by have h := hB.size; first | omega | (simp at h; omega)))
  have or_s_b := Lib.hid (show w.heap.size < v18.heap.size from (by have h := lt_s; first | omega | (simp at h; omega)))
  have or_z_b := Lib.hid (show v3.heap.size < v18.heap.size from (by have h := lt_z; first | omega | (simp at h; omega)))
  have or_f_b := Lib.hid (show v3.heap.size + 1 < v18.heap.size from (by have h := lt_f; first | omega | (simp at h; omega)))
  have or_a_b := Lib.hid (show v7.heap.size < v18.heap.size from (by have h := lt_a; first | omega | (simp at h; omega)))
  have or_x_b := Lib.hid (show v10.heap.size < v18.heap.size from (by have h := lt_x; first | omega | (simp at h; omega)))
  have or_y_b := Lib.hid (show v13.heap.size < v18.heap.size from (by have h := lt_y; first | omega | (simp at h; omega)))
  replace hb_s := Lib.hid ((Below.heap_alloc v18 (.cells #[.int .i64 2, .int .i64 8, .int .i64 4, .int .u64 0, .string ⟨#[]⟩, .slice B n2 d] 35) _ lt_s).trans hb_s.out)
  replace lt_s := Nat.lt_trans lt_s (show v18.heap.size < (v18.alloc (.cells #[.int .i64 2, .int .i64 8, .int .i64 4, .int .u64 0, .string ⟨#[]⟩, .slice B n2 d] 35)).heap.size by simp)
  replace hb_z := Lib.hid ((Below.heap_alloc v18 (.cells #[.int .i64 2, .int .i64 8, .int .i64 4, .int .u64 0, .string ⟨#[]⟩, .slice B n2 d] 35) _ lt_z).trans hb_z.out)
  replace lt_z := Nat.lt_trans lt_z (show v18.heap.size < (v18.alloc (.cells #[.int .i64 2, .int .i64 8, .int .i64 4, .int .u64 0, .string ⟨#[]⟩, .slice B n2 d] 35)).heap.size by simp)
  replace hb_f := Lib.hid ((Below.heap_alloc v18 (.cells #[.int .i64 2, .int .i64 8, .int .i64 4, .int .u64 0, .string ⟨#[]⟩, .slice B n2 d] 35) _ lt_f).trans hb_f.out)
  replace lt_f := Nat.lt_trans lt_f (show v18.heap.size < (v18.alloc (.cells #[.int .i64 2, .int .i64 8, .int .i64 4, .int .u64 0, .string ⟨#[]⟩, .slice B n2 d] 35)).heap.size by simp)
  replace hb_a := Lib.hid ((Below.heap_alloc v18 (.cells #[.int .i64 2, .int .i64 8, .int .i64 4, .int .u64 0, .string ⟨#[]⟩, .slice B n2 d] 35) _ lt_a).trans hb_a.out)
  replace lt_a := Nat.lt_trans lt_a (show v18.heap.size < (v18.alloc (.cells #[.int .i64 2, .int .i64 8, .int .i64 4, .int .u64 0, .string ⟨#[]⟩, .slice B n2 d] 35)).heap.size by simp)
  replace hb_x := Lib.hid ((Below.heap_alloc v18 (.cells #[.int .i64 2, .int .i64 8, .int .i64 4, .int .u64 0, .string ⟨#[]⟩, .slice B n2 d] 35) _ lt_x).trans hb_x.out)
  replace lt_x := Nat.lt_trans lt_x (show v18.heap.size < (v18.alloc (.cells #[.int .i64 2, .int .i64 8, .int .i64 4, .int .u64 0, .string ⟨#[]⟩, .slice B n2 d] 35)).heap.size by simp)
  replace hb_y := Lib.hid ((Below.heap_alloc v18 (.cells #[.int .i64 2, .int .i64 8, .int .i64 4, .int .u64 0, .string ⟨#[]⟩, .slice B n2 d] 35) _ lt_y).trans hb_y.out)
  replace lt_y := Nat.lt_trans lt_y (show v18.heap.size < (v18.alloc (.cells #[.int .i64 2, .int .i64 8, .int .i64 4, .int .u64 0, .string ⟨#[]⟩, .slice B n2 d] 35)).heap.size by simp)
  replace hl_a := Lib.hid (hl_a.out.to (w' := (v18.alloc (.cells #[.int .i64 2, .int .i64 8, .int .i64 4, .int .u64 0, .string ⟨#[]⟩, .slice B n2 d] 35))) (T := (MidV v6.heap.size v7.heap.size)) (fun b hb => ⟨hb, Below.heap_alloc v18 (.cells #[.int .i64 2, .int .i64 8, .int .i64 4, .int .u64 0, .string ⟨#[]⟩, .slice B n2 d] 35) b (lr_a.out b hb)⟩))
  replace lr_a := Lib.hid (show ∀ b, (MidV v6.heap.size v7.heap.size) b → b < (v18.alloc (.cells #[.int .i64 2, .int .i64 8, .int .i64 4, .int .u64 0, .string ⟨#[]⟩, .slice B n2 d] 35)).heap.size from fun b hb => Nat.lt_trans (lr_a.out b hb) (by simp))
  have hb_b := Lib.hid (heap_alloc_new_at v18 (.cells #[.int .i64 2, .int .i64 8, .int .i64 4, .int .u64 0, .string ⟨#[]⟩, .slice B n2 d] 35) (n := v18.heap.size) (by simp))
  have lt_b : v18.heap.size < (v18.alloc (.cells #[.int .i64 2, .int .i64 8, .int .i64 4, .int .u64 0, .string ⟨#[]⟩, .slice B n2 d] 35)).heap.size := by simp
  replace hB := hB.alloc hB.size (.cells #[.int .i64 2, .int .i64 8, .int .i64 4, .int .u64 0, .string ⟨#[]⟩, .slice B n2 d] 35)
  have Hn1b := Hn1.out
  have gn1 : ((n1 : Int) == 1) = true := by rw [Hn1b]; rfl
  clear Hn1b
  obtain ⟨c_a0, c_a1, c_a2, c_a3, c_a4, c_a5⟩ := six hb_a.out
  obtain ⟨c_b0, c_b1, c_b2, c_b3, c_b4, c_b5⟩ := six hb_b.out
  obtain ⟨c_x0, c_x1, c_x2, c_x3, c_x4, c_x5⟩ := six hb_x.out
  obtain ⟨c_y0, c_y1, c_y2, c_y3, c_y4, c_y5⟩ := six hb_y.out
  obtain ⟨c_z0, c_z1, c_z2, c_z3, c_z4, c_z5⟩ := six hb_z.out
  have hS := vCompare_any zV zV (.agg #[.int .i64 2, .int .i64 8, .int .i64 4, .int .u64 0, .string ⟨#[]⟩, .slice B n2 d]) (.agg #[.int .i64 2, .int .i64 8, .int .i64 4, .int .u64 0, .string ⟨#[]⟩, .slice none 0 0]) (v18.alloc (.cells #[.int .i64 2, .int .i64 8, .int .i64 4, .int .u64 0, .string ⟨#[]⟩, .slice B n2 d] 35)) (zVal Hn2.out hcb.out hAb.out) (show VaV (v18.alloc (.cells #[.int .i64 2, .int .i64 8, .int .i64 4, .int .u64 0, .string ⟨#[]⟩, .slice B n2 d] 35)) (LoV (v18.alloc (.cells #[.int .i64 2, .int .i64 8, .int .i64 4, .int .u64 0, .string ⟨#[]⟩, .slice B n2 d] 35)).heap.size) zV (.agg #[.int .i64 2, .int .i64 8, .int .i64 4, .int .u64 0, .string ⟨#[]⟩, .slice none 0 0]) from VaV.mk (x := zV) (A := none) (c := 0) zV_ok (Nat.le_refl _) (fun _ => rfl) (.inl rfl))
  rw [lv_cmp] at hS
  go_wp2_with (go_at_call 20; refine Calls.mono hS ?_; clear hS; rintro e v99 ⟨rfl, hw⟩)
  go_ret
  exact ⟨rfl, hB.trans (hw.mono hB.size)⟩
end Go.Proofs.Ytngfgohchnkidaa
