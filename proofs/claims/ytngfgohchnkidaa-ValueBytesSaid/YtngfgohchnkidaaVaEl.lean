/-
  THE WALKS of the program's greatest, isEmpty, element and Zero.
-/
import Derived.Test.YtngfgohchnkidaaVaSort
import Derived.Laws.Closers25b
namespace Go.Proofs.Ytngfgohchnkidaa
open Go.RowKit

theorem below_alloc3v {n : Nat} {a w : World} (h : Below n a w) (hB : n ≤ w.heap.size) (o o2 o3 : Obj) : Below n a (((w.alloc o).alloc o2).alloc o3) := ((h.alloc hB o).alloc (by simp; omega) o2).alloc (by simp; omega) o3
/-- the greatest number of a width -/
def grI (n : Int) : Int := 2 ^ n.toNat - 1
theorem gr_raw (n : Int) (h : 0 ≤ n ∧ n ≤ 64) : IntKind.u64.wrap (IntKind.u64.wrap (2 ^ n.toNat) - 1) = grI n := by
  unfold grI
  obtain ⟨m, hm⟩ : ∃ m : Nat, m = n.toNat := ⟨_, rfl⟩
  rw [← hm]
  have hm64 : m ≤ 64 := by omega
  have wr : ∀ z : Int, IntKind.u64.wrap z = z % 18446744073709551616 := fun z => by simp [IntKind.wrap, IntKind.bits, IntKind.signed]
  rw [wr, wr]
  by_cases h64 : m = 64
  · subst h64; decide
  · have h1 : (1 : Int) ≤ 2 ^ m := by exact_mod_cast Nat.one_le_two_pow
    have h2 : (2 : Int) ^ m ≤ 2 ^ 63 := by exact_mod_cast Nat.pow_le_pow_right (by decide) (by omega)
    rw [Int.emod_eq_of_lt (by omega) (by omega), Int.emod_eq_of_lt (by omega) (by omega)]
theorem vgreatest_any (n : Int) (w : World) (h : 0 ≤ n ∧ n ≤ 64) : Calls Try.prog 42 #[.int .i64 n] w fun e w' => e = .returned (.int .u64 (grI n)) ∧ w' = w := by
  have hr := Lib.hid (gr_raw n h)
  go_enter Try.func42, Try.ntmps42
  go_wp2_with fail
  go_ret
  exact ⟨congrArg (fun z => Ending.returned (.int .u64 z)) hr.out, rfl⟩
theorem str_nil (s : ByteArray) : s.toList = [] ↔ s.size = 0 := by
  rw [toList_nil_iff_emptyBytes]
  constructor
  · intro h; rw [h]; rfl
  · intro h; exact ByteArray.size_eq_zero_iff.1 h
theorem visEmpty_any (x : En) (w : World) : Calls Try.prog 69 #[x.val] w fun e w' => e = .returned (.bool (x.u == 0 && x.s.size == 0)) ∧ Below w.heap.size w w' := by
  obtain ⟨i, u, s⟩ := x
  show Calls Try.prog 69 #[.agg #[.int .u64 i, .int .u64 u, .string s]] w _
  have hsn := str_nil s
  have g0 := heap_alloc_new w (.cells #[.int .u64 i, .int .u64 u, .string s] 85)
  have hB := (Below.refl w.heap.size w).alloc (Nat.le_refl _) (.cells #[.int .u64 i, .int .u64 u, .string s] 85)
  by_cases hu : u = 0
  · subst hu
    by_cases hs : s.size = 0
    · have hl := hsn.2 hs
      have hs2 := Lib.hid hs
      clear hsn hs
      obtain ⟨g0, g1, g2⟩ := three g0
      go_enter Try.func69, Try.ntmps69
      go_wp2_with fail
      go_ret
      exact ⟨by rw [hs2.out]; rfl, hB⟩
    · have hl : ¬ s.toList = [] := fun h => hs (hsn.1 h)
      have hs2 := Lib.hid (show (s.size == 0) = false by simpa using hs)
      clear hsn hs
      obtain ⟨g0, g1, g2⟩ := three g0
      go_enter Try.func69, Try.ntmps69
      go_wp2_with fail
      go_ret
      exact ⟨by rw [hs2.out]; rfl, hB⟩
  · have hs2 := Lib.hid (show (u == 0) = false by simpa using hu)
    clear hsn
    obtain ⟨g0, g1, g2⟩ := three g0
    go_enter Try.func69, Try.ntmps69
    go_wp2_with fail
    go_ret
    exact ⟨by rw [hs2.out]; rfl, hB⟩
theorem velement_any (x : En) (k n ix : Int) (w : World) : Calls Try.prog 65 #[x.val, .agg #[.int .i64 k, .int .i64 n, .int .i64 ix]] w fun e w' => e = .returned (vav (if k = 3 then 1 else 0) n 0 x.u x.s none 0 0) ∧ Below w.heap.size w w' := by
  obtain ⟨i, u, s⟩ := x
  show Calls Try.prog 65 #[.agg #[.int .u64 i, .int .u64 u, .string s], .agg #[.int .i64 k, .int .i64 n, .int .i64 ix]] w _
  obtain ⟨kk, hkk⟩ : ∃ kk : Int, kk = if k = 3 then 1 else 0 := ⟨_, rfl⟩
  rw [← hkk]
  unfold vav
  have hfin : ∀ o1 o2 o3, Below w.heap.size w (((w.alloc o1).alloc o2).alloc o3) := fun o1 o2 o3 => below_alloc3v (Below.refl _ _) (Nat.le_refl _) o1 o2 o3
  by_cases hk : k = 3
  · subst hk
    rw [if_pos rfl] at hkk
    subst hkk
    go_enter Try.func65, Try.ntmps65
    go_wp2_with fail
    have h2 := heap_alloc_new_at ((w.alloc (.cells #[.int .u64 i, .int .u64 u, .string s] 85)).alloc (.cells #[.int .i64 3, .int .i64 n, .int .i64 ix] 26)) (.cells #[.int .i64 1, .int .i64 n, .int .i64 0, .int .u64 u, .string s, .slice none 0 0] 35) (n := w.heap.size + 1 + 1) (by simp)
    obtain ⟨q0, q1, q2, q3, q4, q5⟩ := six h2
    have hB := hfin (.cells #[.int .u64 i, .int .u64 u, .string s] 85) (.cells #[.int .i64 3, .int .i64 n, .int .i64 ix] 26) (.cells #[.int .i64 1, .int .i64 n, .int .i64 0, .int .u64 u, .string s, .slice none 0 0] 35)
    generalize (((w.alloc (.cells #[.int .u64 i, .int .u64 u, .string s] 85)).alloc (.cells #[.int .i64 3, .int .i64 n, .int .i64 ix] 26)).alloc (.cells #[.int .i64 1, .int .i64 n, .int .i64 0, .int .u64 u, .string s, .slice none 0 0] 35)) = w2 at *
    refine bodyPost_ret (v := .agg #[.int .i64 1, .int .i64 n, .int .i64 0, .int .u64 u, .string s, .slice none 0 0]) (by simp [results, Try.results65, go_sem, q0, q1, q2, q3, q4, q5]) rfl ?_
    exact ⟨rfl, hB⟩
  · have hkf : (k == 3) = false := by simpa using hk
    rw [if_neg hk] at hkk
    subst hkk
    go_enter Try.func65, Try.ntmps65
    go_wp2_with fail
    have h2 := heap_alloc_new_at ((w.alloc (.cells #[.int .u64 i, .int .u64 u, .string s] 85)).alloc (.cells #[.int .i64 k, .int .i64 n, .int .i64 ix] 26)) (.cells #[.int .i64 0, .int .i64 n, .int .i64 0, .int .u64 u, .string s, .slice none 0 0] 35) (n := w.heap.size + 1 + 1) (by simp)
    obtain ⟨q0, q1, q2, q3, q4, q5⟩ := six h2
    have hB := hfin (.cells #[.int .u64 i, .int .u64 u, .string s] 85) (.cells #[.int .i64 k, .int .i64 n, .int .i64 ix] 26) (.cells #[.int .i64 0, .int .i64 n, .int .i64 0, .int .u64 u, .string s, .slice none 0 0] 35)
    generalize (((w.alloc (.cells #[.int .u64 i, .int .u64 u, .string s] 85)).alloc (.cells #[.int .i64 k, .int .i64 n, .int .i64 ix] 26)).alloc (.cells #[.int .i64 0, .int .i64 n, .int .i64 0, .int .u64 u, .string s, .slice none 0 0] 35)) = w2 at *
    refine bodyPost_ret (v := .agg #[.int .i64 0, .int .i64 n, .int .i64 0, .int .u64 u, .string s, .slice none 0 0]) (by simp [results, Try.results65, go_sem, q0, q1, q2, q3, q4, q5]) rfl ?_
    exact ⟨rfl, hB⟩

/-- six stores into the cell of a result -/
theorem set6_below {n : Nat} {w W : World} {N : Nat} (h : Below n w W) (hN : n ≤ N) (c0 c1 c2 c3 c4 c5 : Value) :
    Below n w ((((((W.setCell ⟨N, 0, none⟩ c0).setCell ⟨N, 1, none⟩ c1).setCell ⟨N, 2, none⟩ c2).setCell ⟨N, 3, none⟩ c3).setCell ⟨N, 4, none⟩ c4).setCell ⟨N, 5, none⟩ c5) :=
  (((((h.setCell (p := ⟨N, 0, none⟩) hN c0).setCell (p := ⟨N, 1, none⟩) hN c1).setCell (p := ⟨N, 2, none⟩) hN c2).setCell (p := ⟨N, 3, none⟩) hN c3).setCell (p := ⟨N, 4, none⟩) hN c4).setCell (p := ⟨N, 5, none⟩) hN c5
theorem set6_heap {w : World} {N : Nat} (c0 c1 c2 c3 c4 c5 : Value) {j : Nat} (hj : j ≠ N) :
    ((((((w.setCell ⟨N, 0, none⟩ c0).setCell ⟨N, 1, none⟩ c1).setCell ⟨N, 2, none⟩ c2).setCell ⟨N, 3, none⟩ c3).setCell ⟨N, 4, none⟩ c4).setCell ⟨N, 5, none⟩ c5).heap[j]? = w.heap[j]? := by
  rw [Below.heap_setCell _ _ _ j hj, Below.heap_setCell _ _ _ j hj, Below.heap_setCell _ _ _ j hj, Below.heap_setCell _ _ _ j hj, Below.heap_setCell _ _ _ j hj, Below.heap_setCell _ _ _ j hj]
theorem set6_size {w : World} {N : Nat} (c0 c1 c2 c3 c4 c5 : Value) : ((((((w.setCell ⟨N, 0, none⟩ c0).setCell ⟨N, 1, none⟩ c1).setCell ⟨N, 2, none⟩ c2).setCell ⟨N, 3, none⟩ c3).setCell ⟨N, 4, none⟩ c4).setCell ⟨N, 5, none⟩ c5).heap.size = w.heap.size := by simp [World.setCell]

theorem vZero_any (k n ix : Int) (w : World) : Calls Try.prog 11 #[.agg #[.int .i64 k, .int .i64 n, .int .i64 ix]] w fun e w' =>
    e = .returned (.tuple #[if sortOk k n ix then vav k n ix 0 .empty none 0 0 else vav 0 0 0 0 .empty none 0 0, .int .i64 (sortE k n ix)]) ∧ Below w.heap.size w w' := by
  have hb0 : ∀ o1 o2, Below w.heap.size w ((w.alloc o1).alloc o2) := fun o1 o2 => ((Below.refl _ _).alloc (Nat.le_refl _) o1).alloc (by simp) o2
  have hV := fun o1 o2 => vValidSort_any k n ix ((w.alloc o1).alloc o2)
  unfold sortE at hV ⊢
  have hem : (⟨#[]⟩ : ByteArray) = .empty := rfl
  by_cases hok : sortOk k n ix = true
  · rw [hok] at hV ⊢
    simp only [if_true] at hV ⊢
    clear hok
    unfold vav
    rw [← hem]
    clear hem
    go_enter Try.func11, Try.ntmps11
    go_wp2_with (go_at_call 12; refine (hV _ _).mono ?_; clear hV; rintro e w1 ⟨rfl, hw1⟩; have hs1 := hw1.size; simp at hs1; have hB1 := (hb0 _ _).trans (hw1.mono (by simp; omega)); have hn0 := (hw1.block w.heap.size (by simp; omega)).trans ((heap_alloc_old _ _ _ (by simp)).trans (heap_alloc_new w (.cells #[.int .i64 k, .int .i64 n, .int .i64 ix] 26))); have hn1 := (hw1.block (w.heap.size + 1) (by simp)).trans (heap_alloc_new_at _ _ (by simp)); obtain ⟨p0, p1, p2⟩ := three hn0; obtain ⟨q0, q1, q2, q3, q4, q5⟩ := six hn1; have hf1 := blk_frozen hn1)
    refine bodyPost_ret (v := .tuple #[.agg #[.int .i64 k, .int .i64 n, .int .i64 ix, .int .u64 0, .string ⟨#[]⟩, .slice none 0 0], .int .i64 0]) (by simp [results, Try.results11, go_sem, q0, q1, q2, q3, q4, q5]) rfl ?_
    exact ⟨rfl, set6_below hB1 (Nat.le_succ _) _ _ _ _ _ _⟩
  · have hok2 : sortOk k n ix = false := by simpa using hok
    rw [hok2] at hV ⊢
    clear hok2
    simp only [Bool.false_eq_true, if_false] at hV ⊢
    clear hok
    unfold vav
    rw [← hem]
    clear hem
    go_enter Try.func11, Try.ntmps11
    go_wp2_with (go_at_call 12; refine (hV _ _).mono ?_; clear hV; rintro e w1 ⟨rfl, hw1⟩; have hs1 := hw1.size; simp at hs1; have hB1 := (hb0 _ _).trans (hw1.mono (by simp; omega)); have hn1 := (hw1.block (w.heap.size + 1) (by simp)).trans (heap_alloc_new_at _ _ (by simp)); obtain ⟨q0, q1, q2, q3, q4, q5⟩ := six hn1; have hf1 := blk_frozen hn1)
    refine bodyPost_ret (v := .tuple #[.agg #[.int .i64 0, .int .i64 0, .int .i64 0, .int .u64 0, .string ⟨#[]⟩, .slice none 0 0], .int .i64 9]) (by simp [results, Try.results11, go_sem, q0, q1, q2, q3, q4, q5]) rfl ?_
    exact ⟨rfl, set6_below hB1 (Nat.le_succ _) _ _ _ _ _ _⟩
end Go.Proofs.Ytngfgohchnkidaa
