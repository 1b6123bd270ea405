/-
  THE WALKS of the reference's generators of numbers and short texts.
-/
import Derived.Test.YtngfgohchnkidaaVaOwn
import Derived.Test.YtngfgohchnkidaaRef
import Derived.LoopN
namespace Go.Proofs.Ytngfgohchnkidaa
open Go.RowKit

theorem Around_30 (n : Int) (m : Nat) (hn : I64 n) (hm : 1 ≤ m) (hm2 : m ≤ 2000000000) : ∃ k : Nat, k < m ∧ ∀ w : World, Calls Try.prog 24 #[.int .i64 n, .int .i64 m] w fun e w' => e = .returned (.int .i64 k) ∧ w' = w := by
  have hb := aroundI_bounds (n := n) (most := m) (by omega)
  refine ⟨(aroundI n m).toNat, by omega, fun w => ?_⟩
  rw [show (((aroundI n m).toNat : Nat) : Int) = aroundI n m by omega]
  obtain ⟨h1, h2⟩ := hn
  obtain ⟨q, hq⟩ : ∃ q : Int, (m : Int) = q := ⟨_, rfl⟩
  rw [hq]
  have hm1 : 1 ≤ q := by omega
  have hm3 : q ≤ 2000000000 := by omega
  clear hb hq hm hm2
  unfold aroundI
  by_cases h : n < 0
  · go_enter Try.func24, Try.ntmps24
    go_wp2
    go_ret
    refine ⟨?_, rfl⟩
    show Ending.returned (.int .i64 (-(n + 1).tmod q)) = _
    rw [← Int.neg_tmod, Int.tmod_eq_emod_of_nonneg (by omega)]
  · go_enter Try.func24, Try.ntmps24
    go_wp2
    go_ret
    exact ⟨rfl, rfl⟩
theorem around_lit {n : Int} {k : Nat} (m : Nat) (z : Int) (hz : z = (m : Int)) (h : ∀ w : World, Calls Try.prog 24 #[.int .i64 n, .int .i64 m] w fun e w' => e = .returned (.int .i64 k) ∧ w' = w) (w : World) : Calls Try.prog 24 #[.int .i64 n, .int .i64 z] w fun e w' => e = .returned (.int .i64 k) ∧ w' = w := by
  subst hz; exact h w
/-- Pick(l, i, 1 << 30) -/
theorem pick30_any (A : Option Addr) (n c : Nat) (zs : List Int) (i : Int) (hn : n = zs.length) (hz : ∀ z ∈ zs, I64 z) :
    ∃ k : Nat, k < 1073741824 ∧ ∀ w : World, RdI w w.heap.size .i64 A zs → Calls Try.prog 60 #[.slice A n c, .int .i64 i, .int .i64 1073741824] w fun e w' => e = .returned (.int .i64 k) ∧ w' = w := by
  by_cases h0 : i < 0
  · refine ⟨0, by omega, fun w _ => ?_⟩
    have h0' : decide (i < 0) = true := decide_eq_true h0
    go_enter Try.func60, Try.ntmps60
    go_wp2_with fail
    go_ret
    exact ⟨rfl, rfl⟩
  · have h0' : decide (i < 0) = false := decide_eq_false h0
    by_cases h1 : (n : Int) ≤ i
    · refine ⟨0, by omega, fun w _ => ?_⟩
      have h1' : decide ((n : Int) ≤ i) = true := decide_eq_true h1
      go_enter Try.func60, Try.ntmps60
      go_wp2_with fail
      go_ret
      exact ⟨rfl, rfl⟩
    · have h1' : decide ((n : Int) ≤ i) = false := decide_eq_false h1
      obtain ⟨j, rfl⟩ : ∃ j : Nat, i = j := ⟨i.toNat, by omega⟩
      have hj : j < zs.length := by omega
      have hzj : I64 (zs[j]?.getD 0) := hz _ (by rw [List.getElem?_eq_getElem hj]; exact List.getElem_mem hj)
      obtain ⟨k, hk, hA⟩ := Around_30 (zs[j]?.getD 0) 1073741824 hzj (by omega) (by omega)
      refine ⟨k, hk, fun w hr => ?_⟩
      obtain ⟨b, o, rfl, _, hcell⟩ := hr.at_ hj
      generalize zs[j]?.getD 0 = z at *
      subst hn
      clear hr
      go_enter Try.func60, Try.ntmps60
      go_wp2_with (go_at_call 24; refine Calls.mono (around_lit 1073741824 _ rfl hA _) ?_; clear hA; rintro e w1 ⟨rfl, rfl⟩)
      go_ret
      exact ⟨rfl, rfl⟩

set_option maxHeartbeats 1000000 in
set_option maxRecDepth 100000 in
theorem r6Bits_any (n bits : Int) (hn : I64 n) (hb : 1 ≤ bits ∧ bits ≤ 64) : ∃ v : Int, (0 ≤ v ∧ v ≤ grI bits) ∧ ∀ w : World, Calls Try.prog 59 #[.int .i64 n, .int .i64 bits] w fun e w' => e = .returned (.int .u64 v) ∧ w' = w := by
  obtain ⟨k, hk, hA⟩ := Around_30 n 1073741824 hn (by omega) (by omega)
  obtain ⟨q, hq⟩ : ∃ q : Int, q = if k % 5 = 0 then 18446744073709551615 - ((k / 5 % 3 : Nat) : Int) else (k : Int) := ⟨_, rfl⟩
  have hq1 : 0 ≤ q ∧ q < 18446744073709551616 := by rw [hq]; split <;> omega
  refine ⟨if bits < 64 then q % 2 ^ bits.toNat else q, ?_, fun w => ?_⟩
  · unfold grI
    have hp : (1 : Int) ≤ 2 ^ bits.toNat := by exact_mod_cast Nat.one_le_two_pow
    split
    · have h1 := Int.emod_nonneg q (show (2 : Int) ^ bits.toNat ≠ 0 by omega)
      have h2 := Int.emod_lt_of_pos q (show (0 : Int) < 2 ^ bits.toNat by omega)
      omega
    · rename_i h
      obtain rfl : bits = 64 := by omega
      have : (2 : Int) ^ (64 : Int).toNat = 18446744073709551616 := by decide
      omega
  · have hHA := Lib.hid fun W => around_lit (n := n) (k := k) 1073741824 1073741824 rfl hA W
    have HQ := Lib.hid hq
    clear hA hq
    obtain ⟨R, hR⟩ : ∃ R, R = if bits < 64 then q % 2 ^ bits.toNat else q := ⟨_, rfl⟩
    rw [← hR]
    have HR := Lib.hid hR
    clear hR
    have hp : (1 : Int) ≤ 2 ^ bits.toNat := by exact_mod_cast Nat.one_le_two_pow
    have hw : bits < 64 → IntKind.u64.wrap (2 ^ bits.toNat) = 2 ^ bits.toNat := fun h => by
      have h2 : (2 : Int) ^ bits.toNat ≤ 2 ^ 63 := by exact_mod_cast Nat.pow_le_pow_right (by decide) (by omega)
      simp only [IntKind.wrap, IntKind.bits, IntKind.signed]
      simp
      omega
    obtain ⟨p, hpe⟩ : ∃ p : Int, p = 2 ^ bits.toNat := ⟨_, rfl⟩
    rw [← hpe] at hp hw
    have HR2 := Lib.hid (show R = if bits < 64 then q % p else q from by rw [HR.out, hpe])
    clear HR
    by_cases h5 : k % 5 = 0
    · have g5 : ((k : Int) % 5 == 0) = true := by simp; omega
      have HQ2 := Lib.hid (show q = 18446744073709551615 - ((k / 5 % 3 : Nat) : Int) from by rw [HQ.out, if_pos h5])
      clear h5 HQ
      by_cases h64 : bits < 64
      · have hw2 : IntKind.u64.wrap (2 ^ bits.toNat) = p := by rw [← hw h64, hpe]
        have hp0 : ¬ p = 0 := by omega
        clear hw hpe
        go_enter Try.func59, Try.ntmps59
        go_wp2_with (go_at_call 24; refine Calls.mono (hHA.out _) ?_; rintro e w1 ⟨rfl, rfl⟩)
        go_ret
        exact ⟨(congrArg (fun z => Ending.returned (.int .u64 z)) (show (18446744073709551615 - (k : Int) / 5 % 3) % p = R from by rw [HR2.out, if_pos h64, HQ2.out, show ((k / 5 % 3 : Nat) : Int) = (k : Int) / 5 % 3 by omega])), rfl⟩
      · clear hw hpe
        go_enter Try.func59, Try.ntmps59
        go_wp2_with (go_at_call 24; refine Calls.mono (hHA.out _) ?_; rintro e w1 ⟨rfl, rfl⟩)
        go_ret
        exact ⟨(congrArg (fun z => Ending.returned (.int .u64 z)) (show 18446744073709551615 - (k : Int) / 5 % 3 = R from by rw [HR2.out, if_neg (by omega), HQ2.out, show ((k / 5 % 3 : Nat) : Int) = (k : Int) / 5 % 3 by omega])), rfl⟩
    · have g5 : ((k : Int) % 5 == 0) = false := by simp; omega
      have HQ2 := Lib.hid (show q = (k : Int) from by rw [HQ.out, if_neg h5])
      clear h5 HQ
      by_cases h64 : bits < 64
      · have hw2 : IntKind.u64.wrap (2 ^ bits.toNat) = p := by rw [← hw h64, hpe]
        have hp0 : ¬ p = 0 := by omega
        clear hw hpe
        go_enter Try.func59, Try.ntmps59
        go_wp2_with (go_at_call 24; refine Calls.mono (hHA.out _) ?_; rintro e w1 ⟨rfl, rfl⟩)
        go_ret
        exact ⟨(congrArg (fun z => Ending.returned (.int .u64 z)) (show (k : Int) % p = R from by rw [HR2.out, if_pos h64, HQ2.out])), rfl⟩
      · clear hw hpe
        go_enter Try.func59, Try.ntmps59
        go_wp2_with (go_at_call 24; refine Calls.mono (hHA.out _) ?_; rintro e w1 ⟨rfl, rfl⟩)
        go_ret
        exact ⟨(congrArg (fun z => Ending.returned (.int .u64 z)) (show (k : Int) = R from by rw [HR2.out, if_neg (by omega), HQ2.out])), rfl⟩

theorem str_one (s : ByteArray) (h : 1 ≤ s.size) : (s.extract 0 1).size = 1 := by rw [ByteArray.size_extract]; omega
set_option maxHeartbeats 1000000 in
set_option maxRecDepth 100000 in
theorem r6Short_any (n most : Int) (w : World) (hn : I64 n) (hm : 0 ≤ most ∧ most ≤ 64) : Calls Try.prog 61 #[.int .i64 n, .int .i64 most] w fun e w' => (∃ v : ByteArray, e = .returned (.string v) ∧ (v.size : Int) ≤ most ∧ v.size ≤ 3) ∧ Below w.heap.size w w' := by
  obtain ⟨k0, hk0, hA⟩ := Around_30 n 1073741824 hn (by omega) (by omega)
  have hHA := Lib.hid fun W => around_lit (n := n) (k := k0) 1073741824 1073741824 rfl hA W
  clear hA
  go_enter Try.func61, Try.ntmps61
  go_wp2_with (go_at_call 24; refine Calls.mono (hHA.out _) ?_; rintro e w1 ⟨rfl, rfl⟩)
  obtain ⟨w, rfl⟩ : ∃ w, w = w1 := ⟨_, rfl⟩
  go_loopw [5, 6, 7] (fun a b c wr => ∃ (k i : Nat) (s : ByteArray), k < 1073741824 ∧ a = .int .i64 (k : Int) ∧ b = .string s ∧ c = .int .i64 (i : Int) ∧ s.size = i ∧ i ≤ 3 ∧ (i : Int) ≤ most ∧ Below w.heap.size w wr) (fun _ _ c _ => 4 - (intOf c).toNat)
  case atStart => exact ⟨k0, 0, ⟨#[]⟩, hk0, rfl, rfl, rfl, rfl, by omega, by omega, Below.refl _ _⟩
  case round =>
    obtain ⟨k, i, s, hk, rfl, rfl, rfl, hs, hi3, him, hW⟩ := hrel
    by_cases h4 : i < k % 4
    · have g4 : decide ((i : Int) < (k : Int) % 4) = true := decide_eq_true (by omega)
      by_cases hmo : (i : Int) < most
      · have gm : decide ((i : Int) < most) = true := decide_eq_true hmo
        obtain ⟨j, hj⟩ : ∃ j : Nat, j = k / 4 % 5 := ⟨_, rfl⟩
        have hj5 : j < 5 := by omega
        have hji : (k : Int) / 4 % 5 = (j : Int) := by omega
        have hj0 : (0 : Int) ≤ (j : Int) := by omega
        have hj6 : (j : Int) < 5 := by omega
        obtain ⟨t, ht1, ht2, htc⟩ : ∃ t : ByteArray, 1 ≤ t.size ∧ t.size ≤ 2 ∧ #[Value.string ⟨#[97]⟩, .string ⟨#[98]⟩, .string ⟨#[97, 98]⟩, .string ⟨#[0]⟩, .string ⟨#[255]⟩][j]? = some (.string t) := by
          rcases (show j = 0 ∨ j = 1 ∨ j = 2 ∨ j = 3 ∨ j = 4 by omega) with rfl | rfl | rfl | rfl | rfl
          · exact ⟨⟨#[97]⟩, by decide, by decide, rfl⟩
          · exact ⟨⟨#[98]⟩, by decide, by decide, rfl⟩
          · exact ⟨⟨#[97, 98]⟩, by decide, by decide, rfl⟩
          · exact ⟨⟨#[0]⟩, by decide, by decide, rfl⟩
          · exact ⟨⟨#[255]⟩, by decide, by decide, rfl⟩
        have hcell : (wr.alloc (.cells #[.string ⟨#[97]⟩, .string ⟨#[98]⟩, .string ⟨#[97, 98]⟩, .string ⟨#[0]⟩, .string ⟨#[255]⟩] 9)).cell? ⟨wr.heap.size, j, none⟩ = some (.string t) := by
          rw [cell_of_row _ _ j _ _ _ (heap_alloc_new wr _)]; exact htc
        have hB := hW.alloc hW.size (.cells #[.string ⟨#[97]⟩, .string ⟨#[98]⟩, .string ⟨#[97, 98]⟩, .string ⟨#[0]⟩, .string ⟨#[255]⟩] 9)
        have ht3 : (1 : Int) ≤ (t.size : Int) := by omega
        have hu1 : (t.extract 0 1).size = 1 := by rw [ByteArray.size_extract]; omega
        have hsum : ¬ 9223372036854775807 < s.size + 1 := by omega
        replace hs := Lib.hid hs
        clear hj htc
        go_wp2_with fail
        go_roundw
        case rel => exact ⟨k / 5, i + 1, s ++ t.extract 0 1, by omega, by go_num, rfl, by go_num, by rw [ByteArray.size_append, hu1, hs.out], by omega, by omega, hB⟩
        case measure => simp [intOf]; omega
      · have gm : decide ((i : Int) < most) = false := decide_eq_false hmo
        have hs2 := Lib.hid hs
        clear hs
        go_wp2_with fail
        go_ret
        exact ⟨⟨s, rfl, by rw [hs2.out]; exact him, by rw [hs2.out]; exact hi3⟩, hW⟩
    · have g4 : decide ((i : Int) < (k : Int) % 4) = false := decide_eq_false (by omega)
      have hs2 := Lib.hid hs
      clear hs
      go_wp2_with fail
      go_ret
      exact ⟨⟨s, rfl, by rw [hs2.out]; exact him, by rw [hs2.out]; exact hi3⟩, hW⟩
end Go.Proofs.Ytngfgohchnkidaa
