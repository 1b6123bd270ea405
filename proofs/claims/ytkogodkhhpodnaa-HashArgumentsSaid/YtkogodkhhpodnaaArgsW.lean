/-
  THE WALK of the law on arguments and repetition (P1.1, P1.2, R1, R3).
-/
import Derived.Test.YtkogodkhhpodnaaRefBytes
import Derived.Test.YtkogodkhhpodnaaLives
namespace Go.Proofs.Ytkogodkhhpodnaa
open Go.RowKit

theorem SameInts_self (A1 A2 : Option Addr) (c1 c2 : Nat) (zs : List Int) (w : World) (hn : zs.length ≤ 1000000) (hr1 : RdI w w.heap.size .i64 A1 zs) (hr2 : RdI w w.heap.size .i64 A2 zs) :
    Calls Try.prog 24 #[.slice A1 zs.length c1, .slice A2 zs.length c2] w fun e w' => e = .returned (.bool true) ∧ Below w.heap.size w w' := by
  have := SameInts_eq A1 A2 zs.length c1 c2 zs zs w rfl rfl (by omega) hr1 hr2
  rwa [decide_eq_true rfl] at this
theorem SameBytes_self (A1 A2 : Option Addr) (c1 c2 : Nat) (zs : List Int) (w : World) (hn : zs.length ≤ 1000000) (hr1 : RdI w w.heap.size .u8 A1 zs) (hr2 : RdI w w.heap.size .u8 A2 zs) :
    Calls Try.prog 22 #[.slice A1 zs.length c1, .slice A2 zs.length c2] w fun e w' => e = .returned (.bool true) ∧ Below w.heap.size w w' := by
  have := SameBytes_eq A1 A2 zs.length c1 c2 zs zs w rfl rfl (by omega) hr1 hr2
  rwa [decide_eq_true rfl] at this

set_option maxHeartbeats 1000000 in
theorem hashArgs_any (A : Option Addr) (c : Nat) (zs : List Int) (B : Option Addr) (d : Nat) (ys : List Int) (w : World) (hz : zs.length ≤ maxLen) (hcap : zs.length ≤ c) (hA : A = none → c = 0) (hr : RdI w w.heap.size .i64 A zs)
    (hy : ys.length ≤ maxLen) (hycap : ys.length ≤ d) (hB : B = none → d = 0) (h8 : Bytes8 ys) (hyr : RdI w w.heap.size .u8 B ys) :
    Calls Try.prog 10 #[.slice A zs.length c, .slice B ys.length d] w fun e w' => e = .returned (.bool true) ∧ Below w.heap.size w w' := by
  have hI : ∀ W, Below w.heap.size w W → Calls Try.prog 12 #[.slice A zs.length c, .int .i64 10] W fun e w' => GivesRow W.heap.size W 3 .i64 (zs.take 10) e w' := fun W hW =>
    Ints_any A zs.length c 10 zs W rfl hz (by decide) hcap hA ((hr.below hW).mono hW.size)
  have hF : ∀ W, Below w.heap.size w W → Calls Try.prog 16 #[.slice B ys.length d, .int .i64 30] W fun e w' => GivesRow W.heap.size W 5 .u8 (ys.take 30) e w' := fun W hW =>
    Few_any B ys.length d 30 ys W rfl hy (by decide) hycap hB ((hyr.below hW).mono hW.size)
  have hl : (zs.take 10).length ≤ 10 := by rw [List.length_take]; omega
  have hm : (ys.take 30).length ≤ 30 := by rw [List.length_take]; omega
  have hm8 := Lib.hid (h8.take 30)
  generalize zs.take 10 = l at hI hl
  generalize ys.take 30 = m at hF hm hm8
  clear hr hA h8 hyr hB
  have d0 := Below.refl w.heap.size w
  have tok0 : True := trivial
  go_enter Try.func10, Try.ntmps10
  go_wp2_with (first
    | (go_at_call 12; have _t := tok0; refine (hI _ d0).mono ?_; clear tok0; rintro e w1 ⟨A1, c1, rfl, hc1, hrow1, hb1⟩; have d1 := d0.trans (hb1.mono d0.size); have hr1 := rd_own hrow1; clear hrow1; have tok1 : True := trivial)
    | (go_at_call 16; have _t := tok1; refine (hF _ d1).mono ?_; clear tok1; rintro e w2 ⟨A2, c2, rfl, hc2, hrow2, hb2⟩; have d2 := d1.trans (hb2.mono d1.size); have hr2 := rd_own hrow2; have hr12 := (hr1.below hb2).mono hb2.size; clear hrow2 hr1; have tok2 : True := trivial)
    | (go_at_call 13; have _t := tok2; refine (Sum_at ⟨#[115, 97, 109, 101]⟩ A1 _ c1 l _ rfl (by decide) (by omega) hr12).mono ?_; clear tok2; rintro e w3 ⟨rfl, hb3⟩; have d3 := d2.trans (hb3.mono d2.size); have hr13 := (hr12.below hb3).mono hb3.size; have hr23 := (hr2.below hb3).mono hb3.size; clear hr12 hr2; have tok3 : True := trivial)
    | (go_at_call 17; have _t := tok3; refine (Bytes_at ⟨#[115, 97, 109, 101]⟩ A2 _ c2 m _ rfl (by decide) (by omega) hc2 hm8.out hr23).mono ?_; clear tok3; rintro e w4 ⟨rfl, hb4⟩; have d4 := d3.trans (hb4.mono d3.size); have hr14 := (hr13.below hb4).mono hb4.size; have hr24 := (hr23.below hb4).mono hb4.size; clear hr13 hr23; have tok4 : True := trivial)
    | (go_at_call 12; have _t := tok4; refine (hI _ d4).mono ?_; clear tok4; rintro e w5 ⟨A5, c5, rfl, hc5, hrow5, hb5⟩; have d5 := d4.trans (hb5.mono d4.size); have hr5 := rd_own hrow5; have hr15 := (hr14.below hb5).mono hb5.size; have hr25 := (hr24.below hb5).mono hb5.size; clear hrow5 hr14 hr24; have tok5 : True := trivial)
    | (go_at_call 24; have _t := tok5; refine (SameInts_self A1 A5 c1 c5 l _ (by omega) hr15 hr5).mono ?_; clear tok5; rintro e w6 ⟨rfl, hb6⟩; have d6 := d5.trans (hb6.mono d5.size); have hr16 := (hr15.below hb6).mono hb6.size; have hr26 := (hr25.below hb6).mono hb6.size; clear hr15 hr25 hr5; have tok6 : True := trivial)
    | (go_at_call 16; have _t := tok6; refine (hF _ d6).mono ?_; clear tok6; rintro e w7 ⟨A7, c7, rfl, hc7, hrow7, hb7⟩; have d7 := d6.trans (hb7.mono d6.size); have hr7 := rd_own hrow7; have hr17 := (hr16.below hb7).mono hb7.size; have hr27 := (hr26.below hb7).mono hb7.size; clear hrow7 hr16 hr26; have tok7 : True := trivial)
    | (go_at_call 22; have _t := tok7; refine (SameBytes_self A2 A7 c2 c7 m _ (by omega) hr27 hr7).mono ?_; clear tok7; rintro e w8 ⟨rfl, hb8⟩; have d8 := d7.trans (hb8.mono d7.size); have hr18 := (hr17.below hb8).mono hb8.size; have hr28 := (hr27.below hb8).mono hb8.size; clear hr17 hr27 hr7; have tok8 : True := trivial)
    | (go_at_call 13; have _t := tok8; refine (Sum_at ⟨#[115, 97, 109, 101]⟩ A1 _ c1 l _ rfl (by decide) (by omega) hr18).mono ?_; clear tok8; rintro e w9 ⟨rfl, hb9⟩; have d9 := d8.trans (hb9.mono d8.size); have hr29 := (hr28.below hb9).mono hb9.size; clear hr18 hr28; have tok9 : True := trivial)
    | (go_at_call 17; have _t := tok9; refine (Bytes_at ⟨#[115, 97, 109, 101]⟩ A2 _ c2 m _ rfl (by decide) (by omega) hc2 hm8.out hr29).mono ?_; clear tok9; rintro e w10 ⟨rfl, hb10⟩; have d10 := d9.trans (hb10.mono d9.size); clear hr29)
    | (go_at_call 15; refine (lives_any _).mono ?_; rintro e w11 ⟨rfl, hb11⟩; have d11 := d10.trans (hb11.mono d10.size)))
  go_ret
  exact ⟨rfl, d11⟩
end Go.Proofs.Ytkogodkhhpodnaa
