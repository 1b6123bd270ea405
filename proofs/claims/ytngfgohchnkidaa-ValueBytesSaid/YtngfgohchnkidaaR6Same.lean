/-
  THE WALK of the reference's Same.
-/
import Derived.Test.YtngfgohchnkidaaR6Cmp
namespace Go.Proofs.Ytngfgohchnkidaa
open Go.RowKit

set_option maxHeartbeats 1000000 in
set_option maxRecDepth 100000 in
theorem r6Same_any (x y : Va) (v1 v2 : Value) (w : World) (hx : VaV w (LoV w.heap.size) x v1) (hy : VaV w (LoV w.heap.size) y v2) : Calls Try.prog 16 #[v1, v2] w fun e w' => e = .returned (.bool (vaCmp x y == 0)) ∧ Below w.heap.size w w' := by
  have Hx := Lib.hid hx
  have Hy := Lib.hid hy
  obtain ⟨_, A, c, rfl, _, _, _⟩ := hx
  obtain ⟨_, B, d, rfl, _, _, _⟩ := hy
  have h0 := (heap_alloc_old (w.alloc (.cells #[.int .i64 x.k, .int .i64 x.n, .int .i64 x.ix, .int .u64 x.u, .string x.s, .slice A x.m.length c] 30)) (.cells #[.int .i64 y.k, .int .i64 y.n, .int .i64 y.ix, .int .u64 y.u, .string y.s, .slice B y.m.length d] 30) w.heap.size (by simp)).trans (heap_alloc_new w (.cells #[.int .i64 x.k, .int .i64 x.n, .int .i64 x.ix, .int .u64 x.u, .string x.s, .slice A x.m.length c] 30))
  have h1 := heap_alloc_new_at (w.alloc (.cells #[.int .i64 x.k, .int .i64 x.n, .int .i64 x.ix, .int .u64 x.u, .string x.s, .slice A x.m.length c] 30)) (.cells #[.int .i64 y.k, .int .i64 y.n, .int .i64 y.ix, .int .u64 y.u, .string y.s, .slice B y.m.length d] 30) (n := w.heap.size + 1) (by simp)
  have hB := ((Below.refl w.heap.size w).alloc (Nat.le_refl _) (.cells #[.int .i64 x.k, .int .i64 x.n, .int .i64 x.ix, .int .u64 x.u, .string x.s, .slice A x.m.length c] 30)).alloc (by simp) (.cells #[.int .i64 y.k, .int .i64 y.n, .int .i64 y.ix, .int .u64 y.u, .string y.s, .slice B y.m.length d] 30)
  have HC := Lib.hid (r6Compare_any x y _ _ ((w.alloc (.cells #[.int .i64 x.k, .int .i64 x.n, .int .i64 x.ix, .int .u64 x.u, .string x.s, .slice A x.m.length c] 30)).alloc (.cells #[.int .i64 y.k, .int .i64 y.n, .int .i64 y.ix, .int .u64 y.u, .string y.s, .slice B y.m.length d] 30)) (Hx.out.call hB) (Hy.out.call hB))
  obtain ⟨p0, p1, p2, p3, p4, p5⟩ := six h0
  obtain ⟨q0, q1, q2, q3, q4, q5⟩ := six h1
  have HB := Lib.hid (show w.heap.size ≤ ((w.alloc (.cells #[.int .i64 x.k, .int .i64 x.n, .int .i64 x.ix, .int .u64 x.u, .string x.s, .slice A x.m.length c] 30)).alloc (.cells #[.int .i64 y.k, .int .i64 y.n, .int .i64 y.ix, .int .u64 y.u, .string y.s, .slice B y.m.length d] 30)).heap.size from hB.size)
  obtain ⟨R, hR⟩ : ∃ R, R = vaCmp x y := ⟨_, rfl⟩
  rw [← hR] at HC ⊢
  unfold vav at HC
  unfold vav
  clear h0 h1 Hx Hy hR
  go_enter Try.func16, Try.ntmps16
  go_wp2_with (go_at_call 21; refine Calls.mono HC.out ?_; rintro e w1 ⟨rfl, hw1⟩)
  go_ret
  exact ⟨rfl, hB.trans (hw1.mono HB.out)⟩
end Go.Proofs.Ytngfgohchnkidaa
