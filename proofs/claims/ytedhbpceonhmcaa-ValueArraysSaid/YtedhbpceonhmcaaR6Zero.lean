/-
  THE WALKS of the reference's Zero and Element.
-/
import Derived.Test.YtedhbpceonhmcaaR6Sort
namespace Go.Proofs.Ytedhbpceonhmcaa
open Go.RowKit

theorem r6Zero_any (k n ix : Int) (w : World) : Calls Try.prog 18 #[.agg #[.int .i64 k, .int .i64 n, .int .i64 ix]] w fun e w' => e = .returned (vav k n ix 0 .empty none 0 0) ∧ Below w.heap.size w w' := by
  have hem : (⟨#[]⟩ : ByteArray) = .empty := rfl
  unfold vav
  rw [← hem]
  clear hem
  have hB := ((Below.refl w.heap.size w).alloc (Nat.le_refl _) (.cells #[.int .i64 k, .int .i64 n, .int .i64 ix] 26)).alloc (by simp) (.cells #[.int .i64 k, .int .i64 n, .int .i64 ix, .int .u64 0, .string ⟨#[]⟩, .slice none 0 0] 30)
  have h2 := heap_alloc_new_at (w.alloc (.cells #[.int .i64 k, .int .i64 n, .int .i64 ix] 26)) (.cells #[.int .i64 k, .int .i64 n, .int .i64 ix, .int .u64 0, .string ⟨#[]⟩, .slice none 0 0] 30) (n := w.heap.size + 1) (by simp)
  go_enter Try.func18, Try.ntmps18
  go_wp2_with fail
  obtain ⟨q0, q1, q2, q3, q4, q5⟩ := six h2
  generalize (w.alloc (.cells #[.int .i64 k, .int .i64 n, .int .i64 ix] 26)).alloc (.cells #[.int .i64 k, .int .i64 n, .int .i64 ix, .int .u64 0, .string ⟨#[]⟩, .slice none 0 0] 30) = w2 at *
  refine bodyPost_ret (v := .agg #[.int .i64 k, .int .i64 n, .int .i64 ix, .int .u64 0, .string ⟨#[]⟩, .slice none 0 0]) (by simp [results, Try.results18, go_sem, q0, q1, q2, q3, q4, q5]) rfl ?_
  exact ⟨rfl, hB⟩
theorem r6Element_any (k n ix : Int) (w : World) : Calls Try.prog 26 #[.agg #[.int .i64 k, .int .i64 n, .int .i64 ix]] w fun e w' => e = .returned (.agg #[.int .i64 (if k = 2 then 0 else 1), .int .i64 n, .int .i64 0]) ∧ Below w.heap.size w w' := by
  by_cases hk : k = 2
  · subst hk
    rw [if_pos rfl]
    have hB := ((Below.refl w.heap.size w).alloc (Nat.le_refl _) (.cells #[.int .i64 2, .int .i64 n, .int .i64 ix] 26)).alloc (by simp) (.cells #[.int .i64 0, .int .i64 n, .int .i64 0] 26)
    have h2 := heap_alloc_new_at (w.alloc (.cells #[.int .i64 2, .int .i64 n, .int .i64 ix] 26)) (.cells #[.int .i64 0, .int .i64 n, .int .i64 0] 26) (n := w.heap.size + 1) (by simp)
    go_enter Try.func26, Try.ntmps26
    go_wp2_with fail
    obtain ⟨q0, q1, q2⟩ := three h2
    generalize (w.alloc (.cells #[.int .i64 2, .int .i64 n, .int .i64 ix] 26)).alloc (.cells #[.int .i64 0, .int .i64 n, .int .i64 0] 26) = w2 at *
    refine bodyPost_ret (v := .agg #[.int .i64 0, .int .i64 n, .int .i64 0]) (by simp [results, Try.results26, go_sem, q0, q1, q2]) rfl ?_
    exact ⟨rfl, hB⟩
  · have hkf : (k == 2) = false := by simpa using hk
    rw [if_neg hk]
    clear hk
    have hB := ((Below.refl w.heap.size w).alloc (Nat.le_refl _) (.cells #[.int .i64 k, .int .i64 n, .int .i64 ix] 26)).alloc (by simp) (.cells #[.int .i64 1, .int .i64 n, .int .i64 0] 26)
    have h2 := heap_alloc_new_at (w.alloc (.cells #[.int .i64 k, .int .i64 n, .int .i64 ix] 26)) (.cells #[.int .i64 1, .int .i64 n, .int .i64 0] 26) (n := w.heap.size + 1) (by simp)
    go_enter Try.func26, Try.ntmps26
    go_wp2_with fail
    obtain ⟨q0, q1, q2⟩ := three h2
    generalize (w.alloc (.cells #[.int .i64 k, .int .i64 n, .int .i64 ix] 26)).alloc (.cells #[.int .i64 1, .int .i64 n, .int .i64 0] 26) = w2 at *
    refine bodyPost_ret (v := .agg #[.int .i64 1, .int .i64 n, .int .i64 0]) (by simp [results, Try.results26, go_sem, q0, q1, q2]) rfl ?_
    exact ⟨rfl, hB⟩
end Go.Proofs.Ytedhbpceonhmcaa
