/-
  PLAIN MATHEMATICS: what the program's raw 64-bit results are modulo 2^n, for values of n bits: the words binN, unN of the reference's walks.
-/
import Derived.Test.YtcpjchfgiogmeaaBitsExt
import Derived.Laws.BitsAllLaws
namespace Go.Proofs.Ytcpjchfgiogmeaa
open Go.RowKit

/-- the signed value -/
def sgnI (n a : Nat) : Int := if hiN n a then (a : Int) - 2 ^ n else a
/-- all operations by their numbers: Not (4) to Eq (18) -/
def opN (op n a b : Nat) : Nat := if op < 6 then unN op n a else binN op n a b
theorem two64 : (2 : Nat) ^ 64 = 18446744073709551616 := by decide
theorem split64 {n : Nat} (h64 : n ≤ 64) : 18446744073709551616 = 2 ^ n * 2 ^ (64 - n) := by
  rw [← Nat.pow_add, show n + (64 - n) = 64 by omega]
theorem mod64 {n : Nat} (h64 : n ≤ 64) (x : Nat) : x % 18446744073709551616 % 2 ^ n = x % 2 ^ n :=
  Nat.mod_mod_of_dvd _ ⟨_, split64 h64⟩
theorem ppos (n : Nat) : 0 < 2 ^ n := Nat.pow_pos (by decide)
theorem wrapN (x : Nat) : IntKind.u64.wrap (x : Int) = ((x % 18446744073709551616 : Nat) : Int) := by rw [IntKind.wrap_u64]; omega
theorem neg_mod {n a : Nat} (h64 : n ≤ 64) (ha : a ≤ 2 ^ n) : (18446744073709551616 - a) % 2 ^ n = (2 ^ n - a) % 2 ^ n := by
  have hs := split64 h64
  have hq := ppos (64 - n)
  generalize 2 ^ (64 - n) = Q at hs hq
  obtain ⟨q, rfl⟩ : ∃ q, Q = q + 1 := ⟨Q - 1, by omega⟩
  have e : 18446744073709551616 - a = (2 ^ n - a) + 2 ^ n * q := by rw [hs, Nat.mul_add]; omega
  rw [e, Nat.add_mul_mod_self_left]
theorem not64 (a : Nat) (ha : a < 18446744073709551616) : 18446744073709551615 ^^^ a = 18446744073709551615 - a := by
  have h : (BitVec.allOnes 64 ^^^ BitVec.ofNat 64 a).toNat = (~~~ BitVec.ofNat 64 a).toNat := by rw [BitVec.not_def]
  rw [BitVec.toNat_not, BitVec.toNat_xor, BitVec.toNat_allOnes, BitVec.toNat_ofNat, Nat.mod_eq_of_lt (by omega)] at h
  exact h
theorem raw_not {n a : Nat} (h64 : n ≤ 64) (ha : a < 2 ^ n) : (18446744073709551615 - a) % 2 ^ n = 2 ^ n - 1 - a := by
  have h := neg_mod (n := n) (a := a + 1) h64 (by omega)
  have e : 18446744073709551616 - (a + 1) = 18446744073709551615 - a := by omega
  rw [e] at h
  rw [h, Nat.mod_eq_of_lt (by omega)]
  omega
theorem neg_wrap (a : Nat) (ha : a < 18446744073709551616) : IntKind.u64.wrap (-(a : Int)) = (((18446744073709551616 - a) % 18446744073709551616 : Nat) : Int) := by
  rw [IntKind.wrap_u64]; omega
theorem shl_mod {n : Nat} (h64 : n ≤ 64) (a b : Nat) : a * 2 ^ min b 64 % 2 ^ n = a * 2 ^ min b n % 2 ^ n := by
  by_cases h : b ≤ n
  · rw [Nat.min_eq_left h, Nat.min_eq_left (by omega)]
  · rw [Nat.min_eq_right (by omega : n ≤ b), Nat.mul_mod_left]
    have e : 2 ^ min b 64 = 2 ^ (min b 64 - n) * 2 ^ n := by rw [← Nat.pow_add, show min b 64 - n + n = min b 64 by omega]
    rw [e, ← Nat.mul_assoc, Nat.mul_mod_left]
theorem shr_min {n a : Nat} (h64 : n ≤ 64) (ha : a < 2 ^ n) (b : Nat) : a / 2 ^ min b 64 = a / 2 ^ min b n := by
  by_cases h : b ≤ n
  · rw [Nat.min_eq_left h, Nat.min_eq_left (by omega)]
  · rw [Nat.min_eq_right (by omega : n ≤ b), Nat.div_eq_of_lt ha, Nat.div_eq_of_lt]
    exact Nat.lt_of_lt_of_le ha (Nat.pow_le_pow_right (by decide) (by omega))
theorem pow_div {n s : Nat} (h : s ≤ n) : 2 ^ n = 2 ^ s * 2 ^ (n - s) := by rw [← Nat.pow_add, show s + (n - s) = n by omega]
theorem ashr_lt {n a : Nat} (ha : a < 2 ^ n) (b : Nat) : ashrN n a b < 2 ^ n := by
  unfold ashrN
  have hs : min b n ≤ n := Nat.min_le_right _ _
  generalize min b n = s at hs
  have hp := pow_div hs
  have h1 := ppos s
  have h2 := ppos (n - s)
  rw [hp] at ha ⊢
  have hd : a / 2 ^ s < 2 ^ (n - s) := Nat.div_lt_of_lt_mul ha
  have hb := toNat_le (hiN n a)
  generalize (hiN n a).toNat = x at hb
  generalize 2 ^ (n - s) = Q at *
  generalize 2 ^ s = S at *
  have : Q * (x * (S - 1)) ≤ Q * (S - 1) := Nat.mul_le_mul_left _ (by rcases (by omega : x = 0 ∨ x = 1) with rfl | rfl <;> simp)
  have e : S * Q = Q * (S - 1) + Q := by
    obtain ⟨t, rfl⟩ : ∃ t, S = t + 1 := ⟨S - 1, by omega⟩
    rw [Nat.add_sub_cancel, Nat.add_mul, Nat.one_mul, Nat.mul_comm]
  omega
/-- the signed value, moved down, is ashrN up to a multiple of 2^n -/
theorem ashr_int {n a : Nat} (h64 : n ≤ 64) (ha : a < 2 ^ n) (b : Nat) : ∃ k : Int, sgnI n a / 2 ^ min b 64 = (ashrN n a b : Int) - 2 ^ n * k := by
  unfold sgnI ashrN
  cases hx : hiN n a
  · refine ⟨0, ?_⟩
    have := shr_min h64 ha b
    simp
    exact_mod_cast this
  · simp only [if_true, Bool.toNat_true, Nat.one_mul]
    refine ⟨1, ?_⟩
    by_cases h : b ≤ n
    · rw [Nat.min_eq_left h, Nat.min_eq_left (by omega)]
      have hp := pow_div h
      have h1 := ppos b
      have h2 := ppos (n - b)
      have hpi : (2 : Int) ^ n = 2 ^ b * 2 ^ (n - b) := by exact_mod_cast hp
      have e : (a : Int) - 2 ^ n = (a : Int) + 2 ^ b * (-(2 ^ (n - b))) := by rw [hpi, Int.mul_neg]; omega
      have hb0 : (2 : Int) ^ b ≠ 0 := by
        have : (0 : Int) < 2 ^ b := Int.pow_pos (by decide)
        omega
      rw [e, Int.add_mul_ediv_left _ _ hb0, hpi]
      have hd : ((a : Int) / 2 ^ b) = ((a / 2 ^ b : Nat) : Int) := by simp
      rw [hd]
      obtain ⟨t, ht⟩ : ∃ t, 2 ^ b = t + 1 := ⟨2 ^ b - 1, by omega⟩
      have hti : (2 : Int) ^ b = (t : Int) + 1 := by exact_mod_cast ht
      rw [ht, hti, Nat.add_sub_cancel]
      have hq : ((2 ^ (n - b) : Nat) : Int) = 2 ^ (n - b) := by simp
      push_cast
      rw [Int.add_mul, Int.one_mul, Int.mul_one, Int.mul_comm (t : Int)]
      omega
    · rw [Nat.min_eq_right (by omega : n ≤ b), Nat.div_eq_of_lt ha]
      have hs : n ≤ min b 64 := by omega
      generalize min b 64 = s at hs
      have hle : 2 ^ n ≤ 2 ^ s := Nat.pow_le_pow_right (by decide) hs
      have hlei : (2 : Int) ^ n ≤ 2 ^ s := by exact_mod_cast hle
      have hai : (a : Int) < 2 ^ n := by exact_mod_cast ha
      have e : ((a : Int) - 2 ^ n) / 2 ^ s = -1 := by
        rw [Int.ediv_eq_iff_of_pos (by exact_mod_cast ppos s)]
        omega
      have h1 := ppos n
      rw [e]
      have h1i : ((2 ^ n - 1 : Nat) : Int) = 2 ^ n - 1 := by
        rw [Int.ofNat_sub h1]; simp
      simp only [Nat.sub_self, Nat.pow_zero, Nat.one_mul, Nat.zero_add, h1i]
      omega
end Go.Proofs.Ytcpjchfgiogmeaa
