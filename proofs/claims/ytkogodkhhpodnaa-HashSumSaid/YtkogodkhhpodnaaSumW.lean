/-
  THE WALK of the law on Sum (P1.1).
-/
import Derived.Test.YtkogodkhhpodnaaRefSum
import Derived.Test.YtkogodkhhpodnaaLives
namespace Go.Proofs.Ytkogodkhhpodnaa
open Go.RowKit

set_option maxHeartbeats 400000 in
theorem hashSum_any (s : ByteArray) (A : Option Addr) (c : Nat) (zs : List Int) (w : World) (hs : s.size ≤ maxLen) (hz : zs.length ≤ maxLen) (hcap : zs.length ≤ c) (hA : A = none → c = 0) (hr : RdI w w.heap.size .i64 A zs) :
    Calls Try.prog 3 #[.string s, .slice A zs.length c] w fun e w' => e = .returned (.bool true) ∧ Below w.heap.size w w' := by
  have hI := Ints_any A zs.length c 12 zs w rfl hz (by decide) hcap hA hr
  have hS := Short_any s 40 w hs
  have hl : (zs.take 12).length ≤ 12 := by rw [List.length_take]; omega
  generalize zs.take 12 = l at hI hl
  clear hr hA
  go_enter Try.func3, Try.ntmps3
  go_wp2_with (first
    | (go_at_call 11; refine hS.mono ?_; clear hS; rintro e w0 ⟨t, rfl, ht, rfl⟩)
    | (go_at_call 12; refine hI.mono ?_; clear hI; rintro e w1 ⟨A1, c1, rfl, hc1, hrow1, hb1⟩; have hr1 := rd_own hrow1; have tok1 : True := trivial)
    | (go_at_call 13; have _t := tok1; refine (Sum_at t A1 _ c1 l _ rfl (by omega) (by omega) hr1).mono ?_; clear tok1; rintro e w2 ⟨rfl, hb2⟩; have hr2 := (hr1.below hb2).mono hb2.size; have tok2 : True := trivial)
    | (go_at_call 14; have _t := tok2; refine (rSum_any t A1 _ c1 l _ rfl (by omega) (by omega) hr2).mono ?_; clear tok2; rintro e w3 ⟨rfl, hb3⟩; have tok3 : True := trivial)
    | (go_at_call 13; have _t := tok3; refine (Sum_at t none 0 0 [] _ rfl (by omega) (by simp) (.inl rfl)).mono ?_; clear tok3; rintro e w4 ⟨rfl, hb4⟩; have tok4 : True := trivial)
    | (go_at_call 14; have _t := tok4; refine (rSum_any t none 0 0 [] _ rfl (by omega) (by simp) (.inl rfl)).mono ?_; clear tok4; rintro e w5 ⟨rfl, hb5⟩)
    | (go_at_call 15; refine (lives_any _).mono ?_; rintro e w6 ⟨rfl, hb6⟩))
  go_ret
  refine ⟨rfl, ?_⟩
  have c2 := hb1.trans (hb2.mono hb1.size)
  have c3 := c2.trans (hb3.mono c2.size)
  have c4 := c3.trans (hb4.mono c3.size)
  have c5 := c4.trans (hb5.mono c4.size)
  exact c5.trans (hb6.mono c5.size)
end Go.Proofs.Ytkogodkhhpodnaa
