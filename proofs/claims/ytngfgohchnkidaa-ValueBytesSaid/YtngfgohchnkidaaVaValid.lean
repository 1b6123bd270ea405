/-
  THE WALKS of the program's Valid and areEntries. Written by gen/genvvalid.py.
-/
import Derived.Test.YtngfgohchnkidaaVaEl
import Derived.Deep.RegionHeld3
import Derived.LoopN
import Derived.Deep.RegionLaw
namespace Go.Proofs.Ytngfgohchnkidaa
open Go.RowKit

/-- a bit-vector's, a string's fields -/
def bvOk (n u : Int) (s len : Nat) : Bool := decide (u ≤ grI n) && s == 0 && len == 0
def stOk (n u : Int) (s len : Nat) : Bool := u == 0 && decide ((s : Int) ≤ n) && len == 0

set_option maxHeartbeats 1000000 in
set_option maxRecDepth 100000 in
theorem vValid0_any (n ix u : Int) (s : ByteArray) (A : Option Addr) (len c : Nat) (w : World) (hok : sortOk 0 n ix = true) : Calls Try.prog 13 #[vav 0 n ix u s A len c] w fun e w' => e = .returned (.int .i64 (if bvOk n u s.size len then 0 else 1)) ∧ Below w.heap.size w w' := by
  have hb0 : ∀ o, Below w.heap.size w (w.alloc o) := fun o => (Below.refl _ _).alloc (Nat.le_refl _) o
  have hV := fun W => vValidSort_any 0 n ix W
  have hn : 0 ≤ n ∧ n ≤ 64 := by unfold sortOk at hok; simp at hok; omega
  have hG := fun W => vgreatest_any n W hn
  have hsn := str_nil s
  unfold sortE at hV
  rw [hok] at hV
  simp only [if_true] at hV
  unfold vav bvOk
  clear hok hn
  obtain ⟨K, hK⟩ : ∃ K : Int, K = if decide (u ≤ grI n) && s.size == 0 && len == 0 then 0 else 1 := ⟨_, rfl⟩
  rw [← hK]
  have HK := Lib.hid hK
  clear hK
  by_cases hp : u ≤ grI n
  · have hpd : decide (u ≤ grI n) = true := decide_eq_true hp
    by_cases hs : s.size = 0
    · have hl : (s.toList == []) = true := by rw [hsn.2 hs]; rfl
      by_cases hm : len = 0
      · have hmf : ((len : Int) == 0) = true := by rw [hm]; rfl
        have hr := Lib.hid (show (decide (u ≤ grI n) && s.size == 0 && len == 0) = true from by rw [hpd, hs, hm]; rfl)
        clear hp hs hsn hm
        go_enter Try.func13, Try.ntmps13
        go_wp2_with (go_at_call 12; refine (hV _).mono ?_; clear hV; rintro e w1 ⟨rfl, hw1⟩; have hs1 := hw1.size; simp at hs1; have hB1 := (hb0 (.cells #[.int .i64 0, .int .i64 n, .int .i64 ix, .int .u64 u, .string s, .slice A len c] 35)).trans (hw1.mono (by simp)); have hn1 := (hw1.block w.heap.size (by simp)).trans (heap_alloc_new w (.cells #[.int .i64 0, .int .i64 n, .int .i64 ix, .int .u64 u, .string s, .slice A len c] 35)); obtain ⟨q0, q1, q2, q3, q4, q5⟩ := six hn1)
        have HS := Lib.hid fun (W : World) (hW : W.heap[w.heap.size]? = w1.heap[w.heap.size]?) => (show W.cell? ⟨w.heap.size, 0, none⟩ = some (.int .i64 0) ∧ W.cell? ⟨w.heap.size, 1, none⟩ = some (.int .i64 n) ∧ W.cell? ⟨w.heap.size, 2, none⟩ = some (.int .i64 ix) ∧ W.cell? ⟨w.heap.size, 3, none⟩ = some (.int .u64 u) ∧ W.cell? ⟨w.heap.size, 4, none⟩ = some (.string s) ∧ W.cell? ⟨w.heap.size, 5, none⟩ = some (.slice A len c) from six (hW.trans hn1))
        clear q0 q1 q2 q3 q4 q5
        have hd : Below w1.heap.size w1 w1.drew := (Below.refl _ _).drew
        have hlt0 : w.heap.size < w1.heap.size := by omega
        go_region_held3 (fun W => W.cell? ⟨w.heap.size, 0, none⟩ = some (.int .i64 0) ∧ W.cell? ⟨w.heap.size, 1, none⟩ = some (.int .i64 n) ∧ W.cell? ⟨w.heap.size, 2, none⟩ = some (.int .i64 ix) ∧ W.cell? ⟨w.heap.size, 3, none⟩ = some (.int .u64 u) ∧ W.cell? ⟨w.heap.size, 4, none⟩ = some (.string s) ∧ W.cell? ⟨w.heap.size, 5, none⟩ = some (.slice A len c))
          (first | with_reducible exact HS.out _ (hd.block _ hlt0))
          (first | (go_at_call 42; (with_reducible refine Calls.mono (hG _) ?_); rintro e w2 ⟨rfl, rfl⟩))
        have hBd := hB1.trans (hd.mono (by omega))
        go_wp2_with fail
        go_ret
        exact ⟨by rw [HK.out, hr.out]; rfl, hBd⟩
      · have hmf : ((len : Int) == 0) = false := by simpa using hm
        have hr := Lib.hid (show (decide (u ≤ grI n) && s.size == 0 && len == 0) = false from by rw [hpd, hs, show (len == 0) = false by simpa using hm]; rfl)
        clear hp hs hsn hm
        go_enter Try.func13, Try.ntmps13
        go_wp2_with (go_at_call 12; refine (hV _).mono ?_; clear hV; rintro e w1 ⟨rfl, hw1⟩; have hs1 := hw1.size; simp at hs1; have hB1 := (hb0 (.cells #[.int .i64 0, .int .i64 n, .int .i64 ix, .int .u64 u, .string s, .slice A len c] 35)).trans (hw1.mono (by simp)); have hn1 := (hw1.block w.heap.size (by simp)).trans (heap_alloc_new w (.cells #[.int .i64 0, .int .i64 n, .int .i64 ix, .int .u64 u, .string s, .slice A len c] 35)); obtain ⟨q0, q1, q2, q3, q4, q5⟩ := six hn1)
        have HS := Lib.hid fun (W : World) (hW : W.heap[w.heap.size]? = w1.heap[w.heap.size]?) => (show W.cell? ⟨w.heap.size, 0, none⟩ = some (.int .i64 0) ∧ W.cell? ⟨w.heap.size, 1, none⟩ = some (.int .i64 n) ∧ W.cell? ⟨w.heap.size, 2, none⟩ = some (.int .i64 ix) ∧ W.cell? ⟨w.heap.size, 3, none⟩ = some (.int .u64 u) ∧ W.cell? ⟨w.heap.size, 4, none⟩ = some (.string s) ∧ W.cell? ⟨w.heap.size, 5, none⟩ = some (.slice A len c) from six (hW.trans hn1))
        clear q0 q1 q2 q3 q4 q5
        have hd : Below w1.heap.size w1 w1.drew := (Below.refl _ _).drew
        have hlt0 : w.heap.size < w1.heap.size := by omega
        go_region_held3 (fun W => W.cell? ⟨w.heap.size, 0, none⟩ = some (.int .i64 0) ∧ W.cell? ⟨w.heap.size, 1, none⟩ = some (.int .i64 n) ∧ W.cell? ⟨w.heap.size, 2, none⟩ = some (.int .i64 ix) ∧ W.cell? ⟨w.heap.size, 3, none⟩ = some (.int .u64 u) ∧ W.cell? ⟨w.heap.size, 4, none⟩ = some (.string s) ∧ W.cell? ⟨w.heap.size, 5, none⟩ = some (.slice A len c))
          (first | with_reducible exact HS.out _ (hd.block _ hlt0))
          (first | (go_at_call 42; (with_reducible refine Calls.mono (hG _) ?_); rintro e w2 ⟨rfl, rfl⟩))
        have hBd := hB1.trans (hd.mono (by omega))
        go_wp2_with fail
        go_ret
        exact ⟨by rw [HK.out, hr.out]; rfl, hBd⟩
    · have hl : (s.toList == []) = false := by rw [beq_eq_false_iff_ne]; exact fun h => hs (hsn.1 h)
      have hlr : (s.toList == (⟨#[]⟩ : ByteArray).toList) = false := by rw [show (⟨#[]⟩ : ByteArray).toList = [] from (str_nil _).2 rfl]; exact hl
      have hr := Lib.hid (show (decide (u ≤ grI n) && s.size == 0 && len == 0) = false from by rw [hpd, show (s.size == 0) = false by simpa using hs]; rfl)
      clear hp hs hsn
      go_enter Try.func13, Try.ntmps13
      go_wp2_with (go_at_call 12; refine (hV _).mono ?_; clear hV; rintro e w1 ⟨rfl, hw1⟩; have hs1 := hw1.size; simp at hs1; have hB1 := (hb0 (.cells #[.int .i64 0, .int .i64 n, .int .i64 ix, .int .u64 u, .string s, .slice A len c] 35)).trans (hw1.mono (by simp)); have hn1 := (hw1.block w.heap.size (by simp)).trans (heap_alloc_new w (.cells #[.int .i64 0, .int .i64 n, .int .i64 ix, .int .u64 u, .string s, .slice A len c] 35)); obtain ⟨q0, q1, q2, q3, q4, q5⟩ := six hn1)
      have HS := Lib.hid fun (W : World) (hW : W.heap[w.heap.size]? = w1.heap[w.heap.size]?) => (show W.cell? ⟨w.heap.size, 0, none⟩ = some (.int .i64 0) ∧ W.cell? ⟨w.heap.size, 1, none⟩ = some (.int .i64 n) ∧ W.cell? ⟨w.heap.size, 2, none⟩ = some (.int .i64 ix) ∧ W.cell? ⟨w.heap.size, 3, none⟩ = some (.int .u64 u) ∧ W.cell? ⟨w.heap.size, 4, none⟩ = some (.string s) ∧ W.cell? ⟨w.heap.size, 5, none⟩ = some (.slice A len c) from six (hW.trans hn1))
      clear q0 q1 q2 q3 q4 q5
      have hd : Below w1.heap.size w1 w1.drew := (Below.refl _ _).drew
      have hlt0 : w.heap.size < w1.heap.size := by omega
      obtain ⟨q0, q1, q2, q3, q4, q5⟩ := HS.out _ (hd.block _ hlt0)
      have hBd := Lib.hid (hB1.trans (hd.mono (by omega)))
      first | (go_region_law (first | (go_simp; go_at_call 42; refine Calls.mono (hG _) ?_; rintro e w2 ⟨rfl, rfl⟩) | fail)) | fail
      all_goals (go_wp2_with fail; go_ret; exact ⟨by rw [HK.out, hr.out]; rfl, hBd.out⟩)
  · have hpd : decide (u ≤ grI n) = false := decide_eq_false hp
    have hr := Lib.hid (show (decide (u ≤ grI n) && s.size == 0 && len == 0) = false from by rw [hpd]; rfl)
    clear hp hsn
    go_enter Try.func13, Try.ntmps13
    go_wp2_with (go_at_call 12; refine (hV _).mono ?_; clear hV; rintro e w1 ⟨rfl, hw1⟩; have hs1 := hw1.size; simp at hs1; have hB1 := (hb0 (.cells #[.int .i64 0, .int .i64 n, .int .i64 ix, .int .u64 u, .string s, .slice A len c] 35)).trans (hw1.mono (by simp)); have hn1 := (hw1.block w.heap.size (by simp)).trans (heap_alloc_new w (.cells #[.int .i64 0, .int .i64 n, .int .i64 ix, .int .u64 u, .string s, .slice A len c] 35)); obtain ⟨q0, q1, q2, q3, q4, q5⟩ := six hn1)
    have HS := Lib.hid fun (W : World) (hW : W.heap[w.heap.size]? = w1.heap[w.heap.size]?) => (show W.cell? ⟨w.heap.size, 0, none⟩ = some (.int .i64 0) ∧ W.cell? ⟨w.heap.size, 1, none⟩ = some (.int .i64 n) ∧ W.cell? ⟨w.heap.size, 2, none⟩ = some (.int .i64 ix) ∧ W.cell? ⟨w.heap.size, 3, none⟩ = some (.int .u64 u) ∧ W.cell? ⟨w.heap.size, 4, none⟩ = some (.string s) ∧ W.cell? ⟨w.heap.size, 5, none⟩ = some (.slice A len c) from six (hW.trans hn1))
    clear q0 q1 q2 q3 q4 q5
    have hd : Below w1.heap.size w1 w1.drew := (Below.refl _ _).drew
    have hlt0 : w.heap.size < w1.heap.size := by omega
    obtain ⟨q0, q1, q2, q3, q4, q5⟩ := HS.out _ (hd.block _ hlt0)
    have hBd := Lib.hid (hB1.trans (hd.mono (by omega)))
    first | (go_region_law (first | (go_simp; go_at_call 42; refine Calls.mono (hG _) ?_; rintro e w2 ⟨rfl, rfl⟩) | fail)) | fail
    all_goals (go_wp2_with fail; go_ret; exact ⟨by rw [HK.out, hr.out]; rfl, hBd.out⟩)

set_option maxHeartbeats 1000000 in
set_option maxRecDepth 100000 in
theorem vValid1_any (n ix u : Int) (s : ByteArray) (A : Option Addr) (len c : Nat) (w : World) (hok : sortOk 1 n ix = true) : Calls Try.prog 13 #[vav 1 n ix u s A len c] w fun e w' => e = .returned (.int .i64 (if stOk n u s.size len then 0 else 1)) ∧ Below w.heap.size w w' := by
  have hb0 : ∀ o, Below w.heap.size w (w.alloc o) := fun o => (Below.refl _ _).alloc (Nat.le_refl _) o
  have hV := fun W => vValidSort_any 1 n ix W
  unfold sortE at hV
  rw [hok] at hV
  simp only [if_true] at hV
  unfold vav stOk
  clear hok
  obtain ⟨K, hK⟩ : ∃ K : Int, K = if u == 0 && decide ((s.size : Int) ≤ n) && len == 0 then 0 else 1 := ⟨_, rfl⟩
  rw [← hK]
  have HK := Lib.hid hK
  clear hK
  by_cases hu : u = 0
  · have huf : (u == 0) = true := by rw [hu]; rfl
    by_cases hs : (s.size : Int) ≤ n
    · have hsd : decide ((s.size : Int) ≤ n) = true := decide_eq_true hs
      by_cases hm : len = 0
      · have hmf : ((len : Int) == 0) = true := by rw [hm]; rfl
        have hr := Lib.hid (show (u == 0 && decide ((s.size : Int) ≤ n) && len == 0) = true from by rw [huf, hsd, hm]; rfl)
        clear hs hm hu
        go_enter Try.func13, Try.ntmps13
        go_wp2_with (go_at_call 12; refine (hV _).mono ?_; clear hV; rintro e w1 ⟨rfl, hw1⟩; have hs1 := hw1.size; simp at hs1; have hB1 := (hb0 (.cells #[.int .i64 1, .int .i64 n, .int .i64 ix, .int .u64 u, .string s, .slice A len c] 35)).trans (hw1.mono (by simp)); have hn1 := (hw1.block w.heap.size (by simp)).trans (heap_alloc_new w (.cells #[.int .i64 1, .int .i64 n, .int .i64 ix, .int .u64 u, .string s, .slice A len c] 35)); obtain ⟨q0, q1, q2, q3, q4, q5⟩ := six hn1)
        go_ret
        exact ⟨by rw [HK.out, hr.out]; rfl, hB1⟩
      · have hmf : ((len : Int) == 0) = false := by simpa using hm
        have hr := Lib.hid (show (u == 0 && decide ((s.size : Int) ≤ n) && len == 0) = false from by rw [huf, hsd, show (len == 0) = false by simpa using hm]; rfl)
        clear hs hm hu
        go_enter Try.func13, Try.ntmps13
        go_wp2_with (go_at_call 12; refine (hV _).mono ?_; clear hV; rintro e w1 ⟨rfl, hw1⟩; have hs1 := hw1.size; simp at hs1; have hB1 := (hb0 (.cells #[.int .i64 1, .int .i64 n, .int .i64 ix, .int .u64 u, .string s, .slice A len c] 35)).trans (hw1.mono (by simp)); have hn1 := (hw1.block w.heap.size (by simp)).trans (heap_alloc_new w (.cells #[.int .i64 1, .int .i64 n, .int .i64 ix, .int .u64 u, .string s, .slice A len c] 35)); obtain ⟨q0, q1, q2, q3, q4, q5⟩ := six hn1)
        go_ret
        exact ⟨by rw [HK.out, hr.out]; rfl, hB1⟩
    · have hsd : decide ((s.size : Int) ≤ n) = false := decide_eq_false hs
      have hr := Lib.hid (show (u == 0 && decide ((s.size : Int) ≤ n) && len == 0) = false from by rw [huf, hsd]; rfl)
      clear hs hu
      go_enter Try.func13, Try.ntmps13
      go_wp2_with (go_at_call 12; refine (hV _).mono ?_; clear hV; rintro e w1 ⟨rfl, hw1⟩; have hs1 := hw1.size; simp at hs1; have hB1 := (hb0 (.cells #[.int .i64 1, .int .i64 n, .int .i64 ix, .int .u64 u, .string s, .slice A len c] 35)).trans (hw1.mono (by simp)); have hn1 := (hw1.block w.heap.size (by simp)).trans (heap_alloc_new w (.cells #[.int .i64 1, .int .i64 n, .int .i64 ix, .int .u64 u, .string s, .slice A len c] 35)); obtain ⟨q0, q1, q2, q3, q4, q5⟩ := six hn1)
      go_ret
      exact ⟨by rw [HK.out, hr.out]; rfl, hB1⟩
  · have huf : (u == 0) = false := by simpa using hu
    have hr := Lib.hid (show (u == 0 && decide ((s.size : Int) ≤ n) && len == 0) = false from by rw [huf]; rfl)
    go_enter Try.func13, Try.ntmps13
    go_wp2_with (go_at_call 12; refine (hV _).mono ?_; clear hV; rintro e w1 ⟨rfl, hw1⟩; have hs1 := hw1.size; simp at hs1; have hB1 := (hb0 (.cells #[.int .i64 1, .int .i64 n, .int .i64 ix, .int .u64 u, .string s, .slice A len c] 35)).trans (hw1.mono (by simp)); have hn1 := (hw1.block w.heap.size (by simp)).trans (heap_alloc_new w (.cells #[.int .i64 1, .int .i64 n, .int .i64 ix, .int .u64 u, .string s, .slice A len c] 35)); obtain ⟨q0, q1, q2, q3, q4, q5⟩ := six hn1)
    go_ret
    exact ⟨by rw [HK.out, hr.out]; rfl, hB1⟩

theorem vValid9_any (k n ix u : Int) (s : ByteArray) (A : Option Addr) (len c : Nat) (w : World) (hok : sortOk k n ix = false) : Calls Try.prog 13 #[vav k n ix u s A len c] w fun e w' => e = .returned (.int .i64 9) ∧ Below w.heap.size w w' := by
  have hb0 : ∀ o, Below w.heap.size w (w.alloc o) := fun o => (Below.refl _ _).alloc (Nat.le_refl _) o
  have hV := fun W => vValidSort_any k n ix W
  unfold sortE at hV
  rw [hok] at hV
  simp only [Bool.false_eq_true, if_false] at hV
  unfold vav
  clear hok
  go_enter Try.func13, Try.ntmps13
  go_wp2_with (go_at_call 12; refine (hV _).mono ?_; clear hV; rintro e w1 ⟨rfl, hw1⟩; have hs1 := hw1.size; simp at hs1; have hB1 := (hb0 (.cells #[.int .i64 k, .int .i64 n, .int .i64 ix, .int .u64 u, .string s, .slice A len c] 35)).trans (hw1.mono (by simp)); have hn1 := (hw1.block w.heap.size (by simp)).trans (heap_alloc_new w (.cells #[.int .i64 k, .int .i64 n, .int .i64 ix, .int .u64 u, .string s, .slice A len c] 35)); obtain ⟨q0, q1, q2, q3, q4, q5⟩ := six hn1)
  go_ret
  exact ⟨rfl, hB1⟩

set_option maxHeartbeats 1000000 in
set_option maxRecDepth 100000 in
theorem vValidA_any (k n ix u : Int) (s : ByteArray) (A : Option Addr) (len c : Nat) (w : World) (b : Bool) (hk : k = 2 ∨ k = 3) (hok : sortOk k n ix = true)
    (hE : Hid (∀ W, Below w.heap.size w W → Calls Try.prog 43 #[.slice A len c, .agg #[.int .i64 k, .int .i64 n, .int .i64 ix]] W fun e w' => e = .returned (.bool b) ∧ Below W.heap.size W w')) : Calls Try.prog 13 #[vav k n ix u s A len c] w fun e w' => e = .returned (.int .i64 (if u == 0 && s.size == 0 && b then 0 else 1)) ∧ Below w.heap.size w w' := by
  have hb0 : ∀ o, Below w.heap.size w (w.alloc o) := fun o => (Below.refl _ _).alloc (Nat.le_refl _) o
  have hV := fun W => vValidSort_any k n ix W
  have hsn := str_nil s
  unfold sortE at hV
  rw [hok] at hV
  simp only [if_true] at hV
  unfold vav
  clear hok
  have hk0 : (k == 0) = false := by rcases hk with rfl | rfl <;> rfl
  have hk1 : (k == 1) = false := by rcases hk with rfl | rfl <;> rfl
  clear hk
  obtain ⟨K, hK⟩ : ∃ K : Int, K = if u == 0 && s.size == 0 && b then 0 else 1 := ⟨_, rfl⟩
  rw [← hK]
  have HK := Lib.hid hK
  clear hK
  by_cases hu : u = 0
  · have huf : (u == 0) = true := by rw [hu]; rfl
    by_cases hs : s.size = 0
    · have hl : s.toList = [] := hsn.2 hs
      cases b
      · have hr := Lib.hid (show (u == 0 && s.size == 0 && false) = false from by rw [huf, hs]; rfl)
        clear hs hsn hu
        go_enter Try.func13, Try.ntmps13
        go_wp2_with (first | (go_at_call 12; refine (hV _).mono ?_; clear hV; rintro e w1 ⟨rfl, hw1⟩; have hs1 := hw1.size; simp at hs1; have hB1 := (hb0 (.cells #[.int .i64 k, .int .i64 n, .int .i64 ix, .int .u64 u, .string s, .slice A len c] 35)).trans (hw1.mono (by simp)); have hn1 := (hw1.block w.heap.size (by simp)).trans (heap_alloc_new w (.cells #[.int .i64 k, .int .i64 n, .int .i64 ix, .int .u64 u, .string s, .slice A len c] 35)); obtain ⟨q0, q1, q2, q3, q4, q5⟩ := six hn1) | (go_at_call 43; refine (hE.out _ hB1).mono ?_; clear hE; rintro e w2 ⟨rfl, hw2⟩))
        go_ret
        exact ⟨by rw [HK.out, hr.out]; rfl, hB1.trans (hw2.mono (by omega))⟩
      · have hr := Lib.hid (show (u == 0 && s.size == 0 && true) = true from by rw [huf, hs]; rfl)
        clear hs hsn hu
        go_enter Try.func13, Try.ntmps13
        go_wp2_with (first | (go_at_call 12; refine (hV _).mono ?_; clear hV; rintro e w1 ⟨rfl, hw1⟩; have hs1 := hw1.size; simp at hs1; have hB1 := (hb0 (.cells #[.int .i64 k, .int .i64 n, .int .i64 ix, .int .u64 u, .string s, .slice A len c] 35)).trans (hw1.mono (by simp)); have hn1 := (hw1.block w.heap.size (by simp)).trans (heap_alloc_new w (.cells #[.int .i64 k, .int .i64 n, .int .i64 ix, .int .u64 u, .string s, .slice A len c] 35)); obtain ⟨q0, q1, q2, q3, q4, q5⟩ := six hn1) | (go_at_call 43; refine (hE.out _ hB1).mono ?_; clear hE; rintro e w2 ⟨rfl, hw2⟩))
        go_ret
        exact ⟨by rw [HK.out, hr.out]; rfl, hB1.trans (hw2.mono (by omega))⟩
    · have hl : ¬ s.toList = [] := fun h => hs (hsn.1 h)
      clear hE
      have hr := Lib.hid (show (u == 0 && s.size == 0 && b) = false from by rw [huf, show (s.size == 0) = false by simpa using hs]; rfl)
      clear hs hsn hu
      go_enter Try.func13, Try.ntmps13
      go_wp2_with (go_at_call 12; refine (hV _).mono ?_; clear hV; rintro e w1 ⟨rfl, hw1⟩; have hs1 := hw1.size; simp at hs1; have hB1 := (hb0 (.cells #[.int .i64 k, .int .i64 n, .int .i64 ix, .int .u64 u, .string s, .slice A len c] 35)).trans (hw1.mono (by simp)); have hn1 := (hw1.block w.heap.size (by simp)).trans (heap_alloc_new w (.cells #[.int .i64 k, .int .i64 n, .int .i64 ix, .int .u64 u, .string s, .slice A len c] 35)); obtain ⟨q0, q1, q2, q3, q4, q5⟩ := six hn1)
      go_ret
      exact ⟨by rw [HK.out, hr.out]; rfl, hB1⟩
  · have huf : (u == 0) = false := by simpa using hu
    clear hE
    have hr := Lib.hid (show (u == 0 && s.size == 0 && b) = false from by rw [huf]; rfl)
    clear hsn
    go_enter Try.func13, Try.ntmps13
    go_wp2_with (go_at_call 12; refine (hV _).mono ?_; clear hV; rintro e w1 ⟨rfl, hw1⟩; have hs1 := hw1.size; simp at hs1; have hB1 := (hb0 (.cells #[.int .i64 k, .int .i64 n, .int .i64 ix, .int .u64 u, .string s, .slice A len c] 35)).trans (hw1.mono (by simp)); have hn1 := (hw1.block w.heap.size (by simp)).trans (heap_alloc_new w (.cells #[.int .i64 k, .int .i64 n, .int .i64 ix, .int .u64 u, .string s, .slice A len c] 35)); obtain ⟨q0, q1, q2, q3, q4, q5⟩ := six hn1)
    go_ret
    exact ⟨by rw [HK.out, hr.out]; rfl, hB1⟩
end Go.Proofs.Ytngfgohchnkidaa
