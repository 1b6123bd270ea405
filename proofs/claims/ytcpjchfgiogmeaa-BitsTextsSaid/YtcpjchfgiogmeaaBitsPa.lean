/-
  THE WALKS of the program's small pieces: greatest, signedValue, the fifteen operations.
-/
import Derived.Test.YtcpjchfgiogmeaaBitsPm
namespace Go.Proofs.Ytcpjchfgiogmeaa
open Go.RowKit

theorem great_int {n : Nat} (h64 : n ≤ 64) : IntKind.u64.wrap (IntKind.u64.wrap (2 ^ n) - 1) = ((2 ^ n - 1 : Nat) : Int) := by
  have h := pow64 h64
  have h1 := ppos n
  have e : (2 : Int) ^ n = ((2 ^ n : Nat) : Int) := by simp
  rw [e, IntKind.wrap_u64, IntKind.wrap_u64]
  omega
set_option maxHeartbeats 1000000 in
theorem pgreatest_any (n : Nat) (w : World) (h1 : 1 ≤ n) (h64 : n ≤ 64) :
    Calls Try.prog 37 #[.int .i64 n] w fun e w' => e = .returned (.int .u64 ((2 ^ n - 1 : Nat) : Int)) ∧ w = w' := by
  have hg := Lib.hid (great_int h64)
  go_enter Try.func37, Try.ntmps37
  go_wp2
  go_ret
  exact ⟨by rw [← hg.out]; rfl, rfl⟩
theorem cast_mul64 {P Q : Nat} (h : 18446744073709551616 = P * Q) : (18446744073709551616 : Int) = (P : Int) * (Q : Int) := by
  have := congrArg (Nat.cast : Nat → Int) h
  rw [Int.natCast_mul] at this
  exact this
theorem signed_int {a n : Nat} (h1 : 1 ≤ n) (h64 : n ≤ 64) (ha : a < 2 ^ n) : wrap64 (IntKind.u64.wrap ((a : Int) * 2 ^ (64 - n))) / 2 ^ (64 - n) = sgnI n a := by
  have hs := split64 h64
  obtain ⟨m, rfl⟩ : ∃ m, n = m + 1 := ⟨n - 1, by omega⟩
  have hk := ppos (64 - (m + 1))
  have e : (2 : Int) ^ (64 - (m + 1)) = ((2 ^ (64 - (m + 1)) : Nat) : Int) := by simp
  have e2 : (2 : Int) ^ (m + 1) = ((2 ^ (m + 1) : Nat) : Int) := by simp
  unfold sgnI hiN
  rw [e, e2, Nat.add_sub_cancel]
  rw [Nat.pow_succ] at hs ha ⊢
  generalize 2 ^ (64 - (m + 1)) = K at *
  generalize 2 ^ m = H at *
  have hlt : a * K < 18446744073709551616 := by rw [hs]; exact Nat.mul_lt_mul_of_pos_right ha hk
  have hw : IntKind.u64.wrap ((a : Int) * (K : Int)) = ((a * K : Nat) : Int) := by
    have := wrapN (a * K)
    rw [Nat.mod_eq_of_lt hlt] at this
    rw [← this]; simp
  rw [hw]
  have hH : H * K = 9223372036854775808 := by
    rw [Nat.mul_assoc, Nat.mul_comm 2 K, ← Nat.mul_assoc] at hs; omega
  by_cases h : H ≤ a
  · have hge : 9223372036854775808 ≤ a * K := by rw [← hH]; exact Nat.mul_le_mul_right _ h
    have hw2 : wrap64 ((a * K : Nat) : Int) = ((a * K : Nat) : Int) - 18446744073709551616 := by unfold wrap64; omega
    have e3 : ((a * K : Nat) : Int) - 18446744073709551616 = ((a : Int) - ((H * 2 : Nat) : Int)) * K := by
      rw [Int.sub_mul]
      have : (18446744073709551616 : Int) = ((H * 2 : Nat) : Int) * K := cast_mul64 hs
      rw [this, Int.natCast_mul a K]
    rw [hw2, e3, Int.mul_ediv_cancel _ (by omega)]
    simp [h]
  · have hl : a * K < 9223372036854775808 := by rw [← hH]; exact Nat.mul_lt_mul_of_pos_right (by omega) hk
    have hw2 : wrap64 ((a * K : Nat) : Int) = ((a * K : Nat) : Int) := by unfold wrap64; omega
    have e3 : ((a * K : Nat) : Int) = (a : Int) * K := by simp
    rw [hw2, e3, Int.mul_ediv_cancel _ (by omega)]
    simp [h]
set_option maxHeartbeats 1000000 in
theorem psigned_any (a n : Nat) (w : World) (h1 : 1 ≤ n) (h64 : n ≤ 64) (ha : a < 2 ^ n) :
    Calls Try.prog 42 #[.int .u64 a, .int .i64 n] w fun e w' => e = .returned (.int .i64 (sgnI n a)) ∧ w = w' := by
  have hg := Lib.hid (signed_int h1 h64 ha)
  clear ha
  go_enter Try.func42, Try.ntmps42
  go_wp2
  go_ret
  exact ⟨by rw [← hg.out]; rfl, rfl⟩

/-- AN OPERATION's closure: what it gives is t modulo 2^n -/
def OpAt (f : Nat) (n a b t : Nat) : Prop :=
  ∃ r : Nat, r < 18446744073709551616 ∧ r % 2 ^ n = t ∧ ∀ w, Calls Try.prog f #[.int .u64 a, .int .u64 b, .int .i64 n] w fun e w' => e = .returned (.int .u64 r) ∧ w = w'

theorem lt_of_mod (x : Nat) : x % 18446744073709551616 < 18446744073709551616 := Nat.mod_lt _ (by decide)
set_option maxHeartbeats 1000000 in
theorem pop1_at (n a b : Nat) (h64 : n ≤ 64) (ha : a < 2 ^ n) : OpAt 54 n a b (opN 4 n a b) := by
  have hp := pow64 h64
  have ha64 : a < 18446744073709551616 := by omega
  refine ⟨18446744073709551615 - a, by omega, raw_not h64 ha, fun w => ?_⟩
  have hr : bits .xor .u64 IntKind.u64.max (a : Int) = ((18446744073709551615 - a : Nat) : Int) := by
    rw [show IntKind.u64.max = ((18446744073709551615 : Nat) : Int) from rfl, u64_xor_nat _ _ (by decide) ha64, not64 a ha64]
  have HR := Lib.hid hr
  clear hr hp ha
  go_enter Try.func54, Try.ntmps54
  go_wp2
  go_ret
  exact ⟨by rw [← HR.out]; rfl, rfl⟩
set_option maxHeartbeats 1000000 in
theorem pop2_at (n a b : Nat) (h64 : n ≤ 64) (ha : a < 2 ^ n) : OpAt 55 n a b (opN 5 n a b) := by
  have hp := pow64 h64
  have ha64 : a < 18446744073709551616 := by omega
  refine ⟨(18446744073709551616 - a) % 18446744073709551616, lt_of_mod _, by rw [mod64 h64, neg_mod h64 (by omega)]; rfl, fun w => ?_⟩
  have HR := Lib.hid (neg_wrap a ha64)
  clear hp ha
  go_enter Try.func55, Try.ntmps55
  go_wp2
  go_ret
  exact ⟨by rw [← HR.out]; rfl, rfl⟩
set_option maxHeartbeats 1000000 in
theorem pop3_at (n a b : Nat) (h64 : n ≤ 64) (ha : a < 2 ^ n) (hb : b < 2 ^ n) : OpAt 56 n a b (opN 6 n a b) := by
  have hp := pow64 h64
  have hl : a &&& b < 2 ^ n := Nat.lt_of_le_of_lt Nat.and_le_left ha
  refine ⟨a &&& b, by omega, Nat.mod_eq_of_lt hl, fun w => ?_⟩
  have HR := Lib.hid (u64_and_nat a b (by omega) (by omega))
  clear hp ha hb hl
  go_enter Try.func56, Try.ntmps56
  go_wp2
  go_ret
  exact ⟨by rw [← HR.out]; rfl, rfl⟩
set_option maxHeartbeats 1000000 in
theorem pop4_at (n a b : Nat) (h64 : n ≤ 64) (ha : a < 2 ^ n) (hb : b < 2 ^ n) : OpAt 57 n a b (opN 7 n a b) := by
  have hp := pow64 h64
  have hl : a ||| b < 2 ^ n := Nat.or_lt_two_pow ha hb
  refine ⟨a ||| b, by omega, Nat.mod_eq_of_lt hl, fun w => ?_⟩
  have HR := Lib.hid (u64_or_nat a b (by omega) (by omega))
  clear hp ha hb hl
  go_enter Try.func57, Try.ntmps57
  go_wp2
  go_ret
  exact ⟨by rw [← HR.out]; rfl, rfl⟩
set_option maxHeartbeats 1000000 in
theorem pop5_at (n a b : Nat) (h64 : n ≤ 64) (ha : a < 2 ^ n) (hb : b < 2 ^ n) : OpAt 58 n a b (opN 8 n a b) := by
  have hp := pow64 h64
  have hl : a ^^^ b < 2 ^ n := Nat.xor_lt_two_pow ha hb
  refine ⟨a ^^^ b, by omega, Nat.mod_eq_of_lt hl, fun w => ?_⟩
  have HR := Lib.hid (u64_xor_nat a b (by omega) (by omega))
  clear hp ha hb hl
  go_enter Try.func58, Try.ntmps58
  go_wp2
  go_ret
  exact ⟨by rw [← HR.out]; rfl, rfl⟩
set_option maxHeartbeats 1000000 in
theorem pop6_at (n a b : Nat) (h64 : n ≤ 64) : OpAt 59 n a b (opN 9 n a b) := by
  refine ⟨(a + b) % 18446744073709551616, lt_of_mod _, by rw [mod64 h64]; rfl, fun w => ?_⟩
  have HR := Lib.hid (show IntKind.u64.wrap ((a : Int) + b) = _ from wrapN (a + b))
  go_enter Try.func59, Try.ntmps59
  go_wp2
  go_ret
  exact ⟨by rw [← HR.out]; rfl, rfl⟩
set_option maxHeartbeats 1000000 in
theorem pop7_at (n a b : Nat) (h64 : n ≤ 64) : OpAt 60 n a b (opN 10 n a b) := by
  refine ⟨(a * b) % 18446744073709551616, lt_of_mod _, by rw [mod64 h64]; rfl, fun w => ?_⟩
  have HR := Lib.hid (show IntKind.u64.wrap ((a : Int) * b) = _ from wrapN (a * b))
  go_enter Try.func60, Try.ntmps60
  go_wp2
  go_ret
  exact ⟨by rw [← HR.out]; rfl, rfl⟩
set_option maxHeartbeats 1000000 in
theorem pquot_any (n a b : Nat) (w : World) (h1 : 1 ≤ n) (h64 : n ≤ 64) (ha : a < 2 ^ n) :
    Calls Try.prog 62 #[.int .u64 a, .int .u64 b, .int .i64 n] w fun e w' => e = .returned (.int .u64 (divQ n a b)) ∧ w = w' := by
  have hp := pow64 h64
  have hg := pgreatest_any n w h1 h64
  by_cases h0 : b = 0
  · subst h0
    have hq := Lib.hid (show divQ n a 0 = 2 ^ n - 1 from if_pos rfl)
    rw [hq.out]
    generalize 2 ^ n - 1 = q at hg
    clear hq hp ha
    go_enter Try.func62, Try.ntmps62
    go_wp2_with (go_at_call 37; refine hg.mono ?_; clear hg; rintro e w1 ⟨rfl, rfl⟩)
    go_ret
    exact ⟨rfl, rfl⟩
  · have hq : divQ n a b = a / b := if_neg h0
    have hlt : a / b < 18446744073709551616 := by have := Nat.div_le_self a b; omega
    have hw := wrapN (a / b)
    rw [Nat.mod_eq_of_lt hlt] at hw
    have HR := Lib.hid (show IntKind.u64.wrap ((a : Int) / b) = _ from hw)
    rw [hq]
    have t1 : ((b : Int) == 0) = false := by simpa using h0
    clear hq hp ha hlt hw hg
    go_enter Try.func62, Try.ntmps62
    go_wp2
    go_ret
    exact ⟨by rw [← HR.out]; rfl, rfl⟩
set_option maxHeartbeats 1000000 in
theorem pop8_at (n a b : Nat) (h1 : 1 ≤ n) (h64 : n ≤ 64) (ha : a < 2 ^ n) : OpAt 61 n a b (opN 11 n a b) := by
  have hp := pow64 h64
  have hl := divQ_lt (y := b) ha
  refine ⟨divQ n a b, by omega, Nat.mod_eq_of_lt hl, fun w => ?_⟩
  have hc := pquot_any n a b w h1 h64 ha
  generalize divQ n a b = q at hc
  clear hp ha hl
  go_enter Try.func61, Try.ntmps61
  go_wp2_with (go_at_call 62; refine hc.mono ?_; clear hc; rintro e w1 ⟨rfl, rfl⟩)
  go_ret
  exact ⟨rfl, rfl⟩
theorem rem_int {n a b : Nat} (h64 : n ≤ 64) (ha : a < 2 ^ n) : IntKind.u64.wrap ((a : Int) - IntKind.u64.wrap ((b : Int) * (divQ n a b : Nat))) = (divR a b : Nat) := by
  have hp := pow64 h64
  unfold divQ divR
  by_cases h0 : b = 0
  · rw [if_pos h0, if_pos h0, h0]
    have := wrapN a
    rw [Nat.mod_eq_of_lt (by omega)] at this
    rw [show IntKind.u64.wrap (((0 : Nat) : Int) * ((2 ^ n - 1 : Nat) : Int)) = 0 by simp [IntKind.wrap_u64]]
    simpa using this
  · rw [if_neg h0, if_neg h0]
    have hd := Nat.div_add_mod a b
    have hle : b * (a / b) ≤ a := Nat.mul_div_le a b
    have hw := wrapN (b * (a / b))
    rw [Nat.mod_eq_of_lt (by omega)] at hw
    rw [show (b : Int) * ((a / b : Nat) : Int) = ((b * (a / b) : Nat) : Int) by simp, hw]
    have hl : a % b < 18446744073709551616 := Nat.lt_of_le_of_lt (Nat.mod_le a b) (by omega)
    have hw2 := wrapN (a % b)
    rw [Nat.mod_eq_of_lt hl] at hw2
    rw [← hw2]
    congr 1
    omega
set_option maxHeartbeats 1000000 in
theorem pop9_at (n a b : Nat) (h1 : 1 ≤ n) (h64 : n ≤ 64) (ha : a < 2 ^ n) : OpAt 63 n a b (opN 12 n a b) := by
  have hp := pow64 h64
  have hl := divR_lt (y := b) ha
  refine ⟨divR a b, by omega, Nat.mod_eq_of_lt hl, fun w => ?_⟩
  have hc := pquot_any n a b w h1 h64 ha
  have HR := Lib.hid (rem_int (b := b) h64 ha)
  generalize divQ n a b = q at hc HR
  clear hp ha hl
  go_enter Try.func63, Try.ntmps63
  go_wp2_with (go_at_call 62; refine hc.mono ?_; clear hc; rintro e w1 ⟨rfl, rfl⟩)
  go_ret
  exact ⟨by rw [← HR.out]; rfl, rfl⟩
theorem shl_raw {n a : Nat} (h64 : n ≤ 64) (b : Nat) : ∃ r : Nat, r < 18446744073709551616 ∧ r % 2 ^ n = opN 13 n a b ∧ IntKind.u64.wrap ((a : Int) * 2 ^ min b 64) = (r : Nat) := by
  refine ⟨_, lt_of_mod (a * 2 ^ min b 64), by rw [mod64 h64, shl_mod h64]; rfl, ?_⟩
  have h := wrapN (a * 2 ^ min b 64)
  rw [Int.natCast_mul, Int.natCast_pow] at h
  exact h
set_option maxHeartbeats 1000000 in
theorem pop10_at (n a b : Nat) (h64 : n ≤ 64) : OpAt 64 n a b (opN 13 n a b) := by
  obtain ⟨r, hr, hm, hw⟩ := shl_raw (a := a) h64 b
  refine ⟨r, hr, hm, fun w => ?_⟩
  have HR := Lib.hid hw
  clear hr hm hw
  go_enter Try.func64, Try.ntmps64
  go_wp2
  go_ret
  exact ⟨by rw [← HR.out]; rfl, rfl⟩
set_option maxHeartbeats 1000000 in
theorem pop11_at (n a b : Nat) (h64 : n ≤ 64) (ha : a < 2 ^ n) : OpAt 65 n a b (opN 14 n a b) := by
  have hp := pow64 h64
  have hl : a / 2 ^ min b 64 < 2 ^ n := Nat.lt_of_le_of_lt (Nat.div_le_self _ _) ha
  refine ⟨a / 2 ^ min b 64, by omega, by rw [Nat.mod_eq_of_lt hl, shr_min h64 ha]; rfl, fun w => ?_⟩
  have HR := Lib.hid (show (a : Int) / 2 ^ min b 64 = ((a / 2 ^ min b 64 : Nat) : Int) by simp)
  clear hp ha hl
  go_enter Try.func65, Try.ntmps65
  go_wp2
  go_ret
  exact ⟨by rw [← HR.out]; rfl, rfl⟩
theorem ashr_raw {n a : Nat} (h64 : n ≤ 64) (ha : a < 2 ^ n) (b : Nat) : ∃ r : Nat, r < 18446744073709551616 ∧ r % 2 ^ n = ashrN n a b ∧ IntKind.u64.wrap (sgnI n a / 2 ^ min b 64) = (r : Nat) := by
  obtain ⟨k, hk⟩ := ashr_int h64 ha b
  have hl := ashr_lt ha b
  have hs := split64 h64
  rw [hk, IntKind.wrap_u64]
  generalize ashrN n a b = t at *
  have hpp : (2 : Int) ^ n = ((2 ^ n : Nat) : Int) := by simp
  rw [hpp]
  generalize 2 ^ n = P at *
  generalize 2 ^ (64 - n) = Q at *
  refine ⟨(((t : Int) - P * k) % 18446744073709551616).toNat, by omega, ?_, by omega⟩
  have e : ((((t : Int) - P * k) % 18446744073709551616).toNat : Int) % (P : Int) = (t : Int) := by
    rw [Int.toNat_of_nonneg (by omega), Int.emod_emod_of_dvd _ (by rw [cast_mul64 hs]; exact Int.dvd_mul_right _ _), Int.sub_mul_emod_self_left, Int.emod_eq_of_lt (by omega) (by omega)]
  rw [← Int.natCast_emod] at e
  exact Int.ofNat.inj e
set_option maxHeartbeats 1000000 in
theorem pop12_at (n a b : Nat) (h1 : 1 ≤ n) (h64 : n ≤ 64) (ha : a < 2 ^ n) : OpAt 66 n a b (opN 15 n a b) := by
  obtain ⟨r, hr, hm, hw⟩ := ashr_raw h64 ha b
  refine ⟨r, hr, hm, fun w => ?_⟩
  have hc := psigned_any a n w h1 h64 ha
  generalize sgnI n a = s at hc hw
  have HR := Lib.hid hw
  clear ha hr hm hw
  go_enter Try.func66, Try.ntmps66
  go_wp2_with (go_at_call 42; refine hc.mono ?_; clear hc; rintro e w1 ⟨rfl, rfl⟩)
  go_ret
  exact ⟨by rw [← HR.out]; rfl, rfl⟩
set_option maxHeartbeats 1000000 in
theorem ptruth_any (x : Bool) (w : World) : Calls Try.prog 68 #[.bool x] w fun e w' => e = .returned (.int .u64 (x.toNat : Nat)) ∧ w = w' := by
  cases x
  all_goals
    go_enter Try.func68, Try.ntmps68
    go_wp2
    go_ret
    exact ⟨rfl, rfl⟩
theorem bool_mod (x : Bool) {n : Nat} (h1 : 1 ≤ n) : x.toNat % 2 ^ n = x.toNat := by
  have h : 2 ^ 1 ≤ 2 ^ n := Nat.pow_le_pow_right (by decide) h1
  have := toNat_le x
  exact Nat.mod_eq_of_lt (by omega)
theorem bool_64 (x : Bool) : x.toNat < 18446744073709551616 := by have := toNat_le x; omega
set_option maxHeartbeats 1000000 in
theorem pop13_at (n a b : Nat) (h1 : 1 ≤ n) : OpAt 67 n a b (opN 16 n a b) := by
  refine ⟨(decide (a < b)).toNat, bool_64 _, bool_mod _ h1, fun w => ?_⟩
  go_enter Try.func67, Try.ntmps67
  go_wp2_with (go_at_call 68; refine (ptruth_any _ _).mono ?_; rintro e w1 ⟨rfl, rfl⟩)
  go_ret
  exact ⟨rfl, rfl⟩
theorem slt_int {n x y : Nat} (h1 : 1 ≤ n) (hx : x < 2 ^ n) (hy : y < 2 ^ n) : decide (sgnI n x < sgnI n y) = sltN n x y := by
  unfold sltN sgnI hiN
  obtain ⟨m, rfl⟩ : ∃ m, n = m + 1 := ⟨n - 1, by omega⟩
  have e2 : (2 : Int) ^ (m + 1) = ((2 ^ (m + 1) : Nat) : Int) := by simp
  rw [e2, Nat.add_sub_cancel]
  generalize 2 ^ (m + 1) = P at *
  generalize 2 ^ m = H at *
  by_cases h2 : H ≤ x <;> by_cases h3 : H ≤ y <;> simp [h2, h3] <;> omega
set_option maxHeartbeats 1000000 in
theorem pop14_at (n a b : Nat) (h1 : 1 ≤ n) (h64 : n ≤ 64) (ha : a < 2 ^ n) (hb : b < 2 ^ n) : OpAt 69 n a b (opN 17 n a b) := by
  refine ⟨(sltN n a b).toNat, bool_64 _, bool_mod _ h1, fun w => ?_⟩
  have HX := Lib.hid (slt_int h1 ha hb)
  have c1 := psigned_any a n w h1 h64 ha
  have c2 := psigned_any b n w h1 h64 hb
  generalize sgnI n a = s at c1 HX
  generalize sgnI n b = t at c2 HX
  clear ha hb
  have tok1 : True := trivial
  go_enter Try.func69, Try.ntmps69
  go_wp2_with (first
    | (go_at_call 42; have _t := tok1; refine c1.mono ?_; clear c1 tok1; rintro e w1 ⟨rfl, rfl⟩; have tok2 : True := trivial)
    | (go_at_call 42; have _t := tok2; refine c2.mono ?_; clear c2; rintro e w1 ⟨rfl, rfl⟩)
    | (go_at_call 68; refine (ptruth_any _ _).mono ?_; rintro e w1 ⟨rfl, rfl⟩))
  go_ret
  exact ⟨by rw [← HX.out]; rfl, rfl⟩
set_option maxHeartbeats 1000000 in
theorem pop15_at (n a b : Nat) (h1 : 1 ≤ n) : OpAt 70 n a b (opN 18 n a b) := by
  refine ⟨(decide (a = b)).toNat, bool_64 _, bool_mod _ h1, fun w => ?_⟩
  have HX := Lib.hid (show ((a : Int) == b) = decide (a = b) by rw [Bool.eq_iff_iff, beq_iff_eq, decide_eq_true_iff]; omega)
  go_enter Try.func70, Try.ntmps70
  go_wp2_with (go_at_call 68; refine (ptruth_any _ _).mono ?_; rintro e w1 ⟨rfl, rfl⟩)
  go_ret
  exact ⟨by rw [← HX.out]; rfl, rfl⟩
end Go.Proofs.Ytcpjchfgiogmeaa
