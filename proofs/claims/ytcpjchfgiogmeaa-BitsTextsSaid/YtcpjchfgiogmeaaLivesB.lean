/-
  THE WALK of the laws' lives: the section's examples.
-/
import Derived.Test.YtcpjchfgiogmeaaBitsText
namespace Go.Proofs.Ytcpjchfgiogmeaa
open Go.RowKit

/-- a law, lives: it returns true, and nothing that was there has turned -/
def TruePost (w : World) (e : Ending) (w' : World) : Prop := e = .returned (.bool true) ∧ Below w.heap.size w w'
theorem bin_at (op : Int) (u v : Nat) (n : Int) (r : Nat) (hu : u < 18446744073709551616) (hv : v < 18446744073709551616) (h : binS op u v n = (r, 0)) (W : World) :
    Calls Try.prog 15 #[.int .i64 op, .int .u64 u, .int .u64 v, .int .i64 n] W fun e w' => e = .returned (.tuple #[.int .u64 r, .int .i64 0]) ∧ Below W.heap.size W w' := by
  have := pBinary_any op u v n W hu hv
  rw [h] at this
  exact this
theorem text_at (u : Nat) (n : Int) (s : ByteArray) (hu : u < 18446744073709551616) (h : validE u n = 0) (hs : strOfNums (textI u n.toNat) = s) (W : World) :
    Calls Try.prog 27 #[.int .u64 u, .int .i64 n] W fun e w' => e = .returned (.tuple #[.string s, .int .i64 0]) ∧ Below W.heap.size W w' := by
  have := pText_any u n W hu
  unfold TextPost textS at this
  rw [if_neg (by simp [h])] at this
  rw [← hs]
  exact this
set_option maxRecDepth 100000 in
set_option maxHeartbeats 2000000 in
theorem livesB_any (w : World) : Calls Try.prog 19 #[] w (TruePost w) := by
  have c1 := bin_at 9 9 9 4 2 (by decide) (by decide) (by decide)
  have c2 := bin_at 15 9 1 4 12 (by decide) (by decide) (by decide)
  have c3 := bin_at 11 9 0 4 15 (by decide) (by decide) (by decide)
  have c4 := bin_at 17 9 1 4 1 (by decide) (by decide) (by decide)
  have c5 := text_at 9 4 ⟨#[35, 120, 57]⟩ (by decide) (by decide) (by decide)
  have c6 := text_at 9 5 ⟨#[35, 98, 48, 49, 48, 48, 49]⟩ (by decide) (by decide) (by decide)
  go_enter Try.func19, Try.ntmps19
  go_wp2_with (first
    | (go_at_call 15; refine (c1 _).mono ?_; clear c1; rintro e w1 ⟨rfl, hb1⟩)
    | (go_at_call 15; refine (c2 _).mono ?_; clear c2; rintro e w2 ⟨rfl, hb2⟩)
    | (go_at_call 15; refine (c3 _).mono ?_; clear c3; rintro e w3 ⟨rfl, hb3⟩)
    | (go_at_call 15; refine (c4 _).mono ?_; clear c4; rintro e w4 ⟨rfl, hb4⟩)
    | (go_at_call 27; refine (c5 _).mono ?_; clear c5; rintro e w5 ⟨rfl, hb5⟩)
    | (go_at_call 27; refine (c6 _).mono ?_; clear c6; rintro e w6 ⟨rfl, hb6⟩))
  go_ret
  have d2 := hb1.trans (hb2.mono hb1.size)
  have d3 := d2.trans (hb3.mono d2.size)
  have d4 := d3.trans (hb4.mono d3.size)
  have d5 := d4.trans (hb5.mono d4.size)
  exact ⟨rfl, d5.trans (hb6.mono d5.size)⟩
end Go.Proofs.Ytcpjchfgiogmeaa
