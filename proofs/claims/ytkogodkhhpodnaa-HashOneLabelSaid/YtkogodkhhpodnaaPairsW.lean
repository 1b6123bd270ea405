/-
  THE WALK of the law on Pair (P1.4).
-/
import Derived.Test.YtkogodkhhpodnaaLives
namespace Go.Proofs.Ytkogodkhhpodnaa
open Go.RowKit

/-- Pair's hash -/
def pairI (a b : Int) : Int := sumI (sb pairS) [wrap64 a, wrap64 b]
theorem pairI_left {a b c : Int} (ha : U64 a) (hb : U64 b) : pairI a c = pairI b c ↔ a = b := by
  have := sumI_one (l := []) (r := [wrap64 c]) (x := wrap64 a) (y := wrap64 b) (sb_bytes pairS) (by decide) (by simp)
  rwa [w64_wrap64 ha, w64_wrap64 hb] at this
theorem pairI_right {a b c : Int} (ha : U64 a) (hb : U64 b) : pairI c a = pairI c b ↔ a = b := by
  have := sumI_one (l := [wrap64 c]) (r := []) (x := wrap64 a) (y := wrap64 b) (sb_bytes pairS) (by decide) (by simp)
  rwa [w64_wrap64 ha, w64_wrap64 hb] at this

set_option maxHeartbeats 2000000 in
theorem pairs_walk (a b c x1 x2 x3 x4 x5 : Int) (hP : ∀ w0 : World, Calls Try.prog 19 #[.int .u64 a, .int .u64 c] w0 fun e w' => e = .returned (.int .u64 x1) ∧ Below w0.heap.size w0 w')
    (hP2 : ∀ w0 : World, Calls Try.prog 19 #[.int .u64 b, .int .u64 c] w0 fun e w' => e = .returned (.int .u64 x2) ∧ Below w0.heap.size w0 w')
    (hP3 : ∀ w0 : World, Calls Try.prog 19 #[.int .u64 c, .int .u64 a] w0 fun e w' => e = .returned (.int .u64 x3) ∧ Below w0.heap.size w0 w')
    (hP4 : ∀ w0 : World, Calls Try.prog 19 #[.int .u64 c, .int .u64 b] w0 fun e w' => e = .returned (.int .u64 x4) ∧ Below w0.heap.size w0 w')
    (hP5 : ∀ w0 : World, Calls Try.prog 19 #[.int .u64 a, .int .u64 b] w0 fun e w' => e = .returned (.int .u64 x5) ∧ Below w0.heap.size w0 w')
    (hS : ∀ w0 : World, Calls Try.prog 13 #[.string ⟨#[112, 97, 105, 114]⟩, .slice (some ⟨w0.heap.size, 0, none⟩) 2 2] (w0.alloc (.cells #[.int .i64 (wrap64 a), .int .i64 (wrap64 b)] 3)) fun e w' => e = .returned (.int .u64 x5) ∧ Below (w0.heap.size + 1) (w0.alloc (.cells #[.int .i64 (wrap64 a), .int .i64 (wrap64 b)] 3)) w')
    (h1 : ((x1 == x2) == (a == b)) = true) (h2 : ((x3 == x4) == (a == b)) = true) (w : World) :
    Calls Try.prog 9 #[.int .u64 a, .int .u64 b, .int .u64 c] w fun e w' => e = .returned (.bool true) ∧ Below w.heap.size w w' := by
  go_enter Try.func9, Try.ntmps9
  go_wp2_with (first
    | (go_at_call 19; refine (hP _).mono ?_; clear hP; rintro e w1 ⟨rfl, hb1⟩)
    | (go_at_call 19; refine (hP2 _).mono ?_; clear hP2; rintro e w2 ⟨rfl, hb2⟩)
    | (go_at_call 19; refine (hP3 _).mono ?_; clear hP3; rintro e w3 ⟨rfl, hb3⟩)
    | (go_at_call 19; refine (hP4 _).mono ?_; clear hP4; rintro e w4 ⟨rfl, hb4⟩)
    | (go_at_call 19; refine (hP5 _).mono ?_; clear hP5; rintro e w5 ⟨rfl, hb5⟩)
    | (go_at_call 13; refine (hS _).mono ?_; clear hS; rintro e w6 ⟨rfl, hb6⟩)
    | (go_at_call 15; refine (lives_any _).mono ?_; rintro e w7 ⟨rfl, hb7⟩))
  go_ret
  refine ⟨rfl, ?_⟩
  have c2 := hb1.trans (hb2.mono hb1.size)
  have c3 := c2.trans (hb3.mono c2.size)
  have c4 := c3.trans (hb4.mono c3.size)
  have c5 := c4.trans (hb5.mono c4.size)
  have c6 := (c5.alloc c5.size _).trans (hb6.mono (Nat.le_succ_of_le c5.size))
  exact c6.trans (hb7.mono c6.size)

theorem pairs_any (a b c : Int) (ha : U64 a) (hb : U64 b) (w : World) :
    Calls Try.prog 9 #[.int .u64 a, .int .u64 b, .int .u64 c] w fun e w' => e = .returned (.bool true) ∧ Below w.heap.size w w' := by
  refine pairs_walk a b c (pairI a c) (pairI b c) (pairI c a) (pairI c b) (pairI a b) (fun w0 => Pair_any _ _ w0) (fun w0 => Pair_any _ _ w0) (fun w0 => Pair_any _ _ w0) (fun w0 => Pair_any _ _ w0) (fun w0 => Pair_any _ _ w0) (fun w0 => ?_) ?_ ?_ w
  · exact (Sum_at _ _ _ _ [wrap64 a, wrap64 b] _ rfl (by decide) (by simp) (rd_new _ _ _ _ _ rfl _ (by simp))).mono fun e w' h => ⟨h.1, by simpa using h.2⟩
  · rw [beq_iff_eq, Bool.eq_iff_iff, beq_iff_eq, beq_iff_eq]; exact pairI_left ha hb
  · rw [beq_iff_eq, Bool.eq_iff_iff, beq_iff_eq, beq_iff_eq]; exact pairI_right ha hb
end Go.Proofs.Ytkogodkhhpodnaa
