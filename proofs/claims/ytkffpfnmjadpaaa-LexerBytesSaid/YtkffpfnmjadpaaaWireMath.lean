/-
  PLAIN MATHEMATICS OF THE VARINTS: their bytes, their lengths, how they are read. Nothing of the program stands here.
-/
import Derived.Laws.Bits64
import Derived.RowKit
import Derived.Test.YtkffpfnmjadpaaaMath
namespace Go.Proofs.Ytkffpfnmjadpaaa
open Go.RowKit

/-- the varint of a number, its bytes as integers -/
def uv (n : Nat) : List Int := if h : n < 128 then [(n : Int)] else ((128 + n % 128 : Nat) : Int) :: uv (n / 128)
termination_by n
decreasing_by omega

theorem uv_lt {n : Nat} (h : n < 128) : uv n = [(n : Int)] := by rw [uv, dif_pos h]
theorem uv_ge {n : Nat} (h : 128 ≤ n) : uv n = ((128 + n % 128 : Nat) : Int) :: uv (n / 128) := by rw [uv, dif_neg (by omega)]
theorem uv_ne (n : Nat) : uv n ≠ [] := by
  by_cases h : n < 128
  · rw [uv_lt h]; simp
  · rw [uv_ge (by omega)]; simp
theorem uv_pos (n : Nat) : 0 < (uv n).length := List.length_pos_iff.2 (uv_ne n)
theorem uv_bytes (n : Nat) : Bytes8 (uv n) := by
  induction n using Nat.strongRecOn with
  | ind n ih =>
    by_cases h : n < 128
    · rw [uv_lt h]
      intro z hz
      simp at hz
      omega
    · rw [uv_ge (by omega)]
      intro z hz
      rcases List.mem_cons.1 hz with rfl | hz
      · omega
      · exact ih (n / 128) (by omega) z hz
theorem uv_length_le (n m : Nat) (h : n < 128 ^ (m + 1)) : (uv n).length ≤ m + 1 := by
  induction m generalizing n with
  | zero => rw [uv_lt (by omega)]; simp
  | succ m ih =>
    by_cases hn : n < 128
    · rw [uv_lt hn]; simp
    · rw [uv_ge (by omega), List.length_cons]
      have : n / 128 < 128 ^ (m + 1) := by
        rw [Nat.pow_succ] at h
        exact Nat.div_lt_of_lt_mul (by rw [Nat.mul_comm]; exact h)
      have := ih _ this
      omega
theorem uv_length_64 {n : Nat} (h : n < 18446744073709551616) : (uv n).length ≤ 10 := uv_length_le n 9 (Nat.lt_of_lt_of_le h (by decide))

/-- HOW A VARINT IS READ: from byte i on, n so far, unit = 128^i: the number and what is left, or an error (true: a form that is none; false: too few bytes) -/
def rdv (i n : Nat) : List Int → Except Bool (Nat × List Int)
  | [] => .error false
  | c :: r =>
    if (i = 9 ∧ 1 < c) ∨ (0 < i ∧ c = 0) then .error true
    else if c < 128 then .ok (n + c.toNat % 128 * 128 ^ i, r)
    else rdv (i + 1) (n + c.toNat % 128 * 128 ^ i) r

/-- reading what was written -/
theorem rdv_uv (m : Nat) : ∀ (i n : Nat) (r : List Int), m < 128 ^ (10 - i) * 1 → (0 < i → 0 < m) → (i = 9 → m ≤ 1) → i ≤ 9 → (i < 9 → m < 2 * 128 ^ (9 - i)) → rdv i n (uv m ++ r) = .ok (n + m * 128 ^ i, r) := by
  induction m using Nat.strongRecOn with
  | ind m ih =>
    intro i n r _ h0 h9 hi hb
    by_cases h : m < 128
    · rw [uv_lt h, List.singleton_append, rdv]
      rw [if_neg (by
        rintro (⟨rfl, h1⟩ | ⟨h1, h2⟩)
        · have := h9 rfl; omega
        · have := h0 h1; omega), if_pos (by omega)]
      have : ((m : Int).toNat) % 128 = m := by omega
      rw [this]
    · rw [uv_ge (by omega), List.cons_append, rdv]
      have hi9 : i < 9 := by
        rcases Nat.lt_or_ge i 9 with h1 | h1
        · exact h1
        · have := h9 (by omega); omega
      have hb' := hb hi9
      rw [if_neg (by
        rintro (⟨rfl, h1⟩ | ⟨h1, h2⟩)
        · omega
        · omega), if_neg (by omega)]
      have e1 : (((128 + m % 128 : Nat) : Int).toNat) % 128 = m % 128 := by omega
      rw [e1]
      have hm : m / 128 < 2 * 128 ^ (9 - (i + 1)) := by
        obtain ⟨j, hj⟩ : ∃ j, 9 - i = j + 1 := ⟨8 - i, by omega⟩
        rw [hj, Nat.pow_succ] at hb'
        rw [show 9 - (i + 1) = j by omega]
        omega
      rw [ih (m / 128) (by omega) (i + 1) _ r ?_ (fun _ => by omega) (fun h9' => ?_) (by omega) (fun _ => hm)]
      · congr 2
        rw [Nat.pow_succ]
        have hd := Nat.div_add_mod m 128
        have e2 : m * 128 ^ i = (128 * (m / 128) + m % 128) * 128 ^ i := by rw [hd]
        rw [e2, Nat.add_mul, Nat.mul_comm 128 (m / 128), Nat.mul_assoc (m / 128) 128 (128 ^ i), Nat.mul_comm 128 (128 ^ i)]
        omega
      · rw [Nat.mul_one]
        have : 2 * 128 ^ (9 - (i + 1)) ≤ 128 ^ (10 - (i + 1)) := by
          rw [show 10 - (i + 1) = (9 - (i + 1)) + 1 by omega, Nat.pow_succ]
          omega
        omega
      · obtain rfl : i = 8 := by omega
        simp at hm
        omega

/-- zigzag -/
def zz (n : Int) : Nat := if n < 0 then (-2 * n - 1).toNat else (2 * n).toNat
def unzz (z : Nat) : Int := if z % 2 = 1 then -((z / 2 : Nat) : Int) - 1 else ((z / 2 : Nat) : Int)
theorem unzz_zz (n : Int) : unzz (zz n) = n := by
  unfold zz unzz
  split <;> split <;> omega
theorem zz_unzz (z : Nat) : zz (unzz z) = z := by
  unfold zz unzz
  split <;> split <;> omega
theorem zz_lt {n : Int} (h1 : -9223372036854775808 ≤ n) (h2 : n ≤ 9223372036854775807) : zz n < 18446744073709551616 := by
  unfold zz
  split <;> omega
end Go.Proofs.Ytkffpfnmjadpaaa
