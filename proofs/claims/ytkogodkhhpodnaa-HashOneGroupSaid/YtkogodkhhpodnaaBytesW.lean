/-
  THE WALK of the law on Bytes and Pair (P1.2).
-/
import Derived.Test.YtkogodkhhpodnaaRefBytes
import Derived.Test.YtkogodkhhpodnaaLives
namespace Go.Proofs.Ytkogodkhhpodnaa
open Go.RowKit

theorem bytes8_wf {zs : List Int} (h : ∀ n ∈ zs, (Lit.int .u8 n).wf = true) : Bytes8 zs := fun z hz => by
  have := bounds_u8 (h z hz)
  omega

theorem hashBytes_any (s : ByteArray) (A : Option Addr) (c : Nat) (zs : List Int) (x y : Int) (w : World) (hs : s.size ≤ maxLen) (hz : zs.length ≤ maxLen) (hcap : zs.length ≤ c) (hA : A = none → c = 0) (h8 : Bytes8 zs) (hr : RdI w w.heap.size .u8 A zs) :
    Calls Try.prog 4 #[.string s, .slice A zs.length c, .int .u64 x, .int .u64 y] w fun e w' => e = .returned (.bool true) ∧ Below w.heap.size w w' := by
  have hI := Few_any A zs.length c 60 zs w rfl hz (by decide) hcap hA hr
  have hS := Short_any s 20 w hs
  have hl : (zs.take 60).length ≤ 60 := by rw [List.length_take]; omega
  have hl8 := Lib.hid (h8.take 60)
  generalize zs.take 60 = l at hI hl hl8
  clear hr hA h8
  go_enter Try.func4, Try.ntmps4
  go_wp2_with (first
    | (go_at_call 11; refine hS.mono ?_; clear hS; rintro e w0 ⟨t, rfl, ht, rfl⟩)
    | (go_at_call 16; refine hI.mono ?_; clear hI; rintro e w1 ⟨A1, c1, rfl, hc1, hrow1, hb1⟩; have hr1 := rd_own hrow1; have tok1 : True := trivial)
    | (go_at_call 17; have _t := tok1; refine (Bytes_at t A1 _ c1 l _ rfl (by omega) (by omega) hc1 hl8.out hr1).mono ?_; clear tok1; rintro e w2 ⟨rfl, hb2⟩; have hr2 := (hr1.below hb2).mono hb2.size; have tok2 : True := trivial)
    | (go_at_call 18; have _t := tok2; refine (rBytes_any t A1 _ c1 l _ rfl (by omega) (by omega) hl8.out hr2).mono ?_; clear tok2; rintro e w3 ⟨rfl, hb3⟩; have tok3 : True := trivial)
    | (go_at_call 19; refine (show Calls _ _ _ _ fun e w' => e = .returned (.int .u64 (pairI x y)) ∧ Below _ _ w' from Pair_any x y _).mono ?_; rintro e w4 ⟨rfl, hb4⟩)
    | (go_at_call 20; refine (rPair_any x y _).mono ?_; rintro e w5 ⟨rfl, hb5⟩)
    | (go_at_call 15; refine (lives_any _).mono ?_; rintro e w6 ⟨rfl, hb6⟩))
  go_ret
  refine ⟨rfl, ?_⟩
  have c2 := hb1.trans (hb2.mono hb1.size)
  have c3 := c2.trans (hb3.mono c2.size)
  have c4 := c3.trans (hb4.mono c3.size)
  have c5 := c4.trans (hb5.mono c4.size)
  exact c5.trans (hb6.mono c5.size)
end Go.Proofs.Ytkogodkhhpodnaa
