/-
  WORDS FOR THE LAWS ON BITS: the calls of Binary, Unary, Extract, Concat, Extend at valid arguments; the results are valid again.
-/
import Derived.Test.YtcpjchfgiogmeaaLivesB
namespace Go.Proofs.Ytcpjchfgiogmeaa
open Go.RowKit

/-- a call that hands back one value and leaves what was there -/
def GivesV (W : World) (v : Value) (e : Ending) (w' : World) : Prop := e = .returned v ∧ Below W.heap.size W w'
theorem validE_ok {n x : Nat} (h1 : 1 ≤ n) (h64 : n ≤ 64) (hx : x < 2 ^ n) : validE x n = 0 := by rw [validE_in h1 h64, if_pos hx]
theorem lt64 {n x : Nat} (h64 : n ≤ 64) (hx : x < 2 ^ n) : x < 18446744073709551616 := Nat.lt_of_lt_of_le hx (pow64 h64)
theorem one_lt {n : Nat} (h1 : 1 ≤ n) : 1 < 2 ^ n := by
  have : 2 ^ 1 ≤ 2 ^ n := Nat.pow_le_pow_right (by decide) h1
  omega
theorem bool_lt {n : Nat} (h1 : 1 ≤ n) (b : Bool) : b.toNat < 2 ^ n := by
  have := one_lt h1
  have := toNat_le b
  omega
theorem binN_lt {op n x y : Nat} (h1 : 1 ≤ n) (hx : x < 2 ^ n) (hy : y < 2 ^ n) : binN op n x y < 2 ^ n := by
  have hp := ppos n
  unfold binN
  by_cases e : op = 6
  · rw [if_pos e]; exact Nat.lt_of_le_of_lt Nat.and_le_left hx
  rw [if_neg e]
  clear e
  by_cases e : op = 7
  · rw [if_pos e]; exact Nat.or_lt_two_pow hx hy
  rw [if_neg e]
  clear e
  by_cases e : op = 8
  · rw [if_pos e]; exact Nat.xor_lt_two_pow hx hy
  rw [if_neg e]
  clear e
  by_cases e : op = 9
  · rw [if_pos e]; exact Nat.mod_lt _ hp
  rw [if_neg e]
  clear e
  by_cases e : op = 10
  · rw [if_pos e]; exact Nat.mod_lt _ hp
  rw [if_neg e]
  clear e
  by_cases e : op = 11
  · rw [if_pos e]; exact divQ_lt hx
  rw [if_neg e]
  clear e
  by_cases e : op = 12
  · rw [if_pos e]; exact divR_lt hx
  rw [if_neg e]
  clear e
  by_cases e : op = 13
  · rw [if_pos e]; exact Nat.mod_lt _ hp
  rw [if_neg e]
  clear e
  by_cases e : op = 14
  · rw [if_pos e]; exact Nat.lt_of_le_of_lt (Nat.div_le_self _ _) hx
  rw [if_neg e]
  clear e
  by_cases e : op = 15
  · rw [if_pos e]; exact ashr_lt hx y
  rw [if_neg e]
  clear e
  by_cases e : op = 16
  · rw [if_pos e]; exact bool_lt h1 _
  rw [if_neg e]
  clear e
  by_cases e : op = 17
  · rw [if_pos e]; exact bool_lt h1 _
  rw [if_neg e]
  clear e
  exact bool_lt h1 _
theorem unN_lt {op n x : Nat} (hx : x < 2 ^ n) : unN op n x < 2 ^ n := by
  unfold unN
  have hp := ppos n
  split
  · omega
  · exact Nat.mod_lt _ hp
theorem bin_ok (op n x y r : Nat) (h1 : 1 ≤ n) (h64 : n ≤ 64) (hx : x < 2 ^ n) (hy : y < 2 ^ n) (h6 : 6 ≤ op) (h18 : op ≤ 18) (hr : binN op n x y = r) (W : World) :
    Calls Try.prog 15 #[.int .i64 op, .int .u64 x, .int .u64 y, .int .i64 n] W (GivesV W (.tuple #[.int .u64 r, .int .i64 0])) := by
  have := pBinary_any op x y n W (lt64 h64 hx) (lt64 h64 hy)
  unfold binS at this
  rw [if_neg (by omega), if_neg (by simp [validE_ok h1 h64 hx]), if_neg (by simp [validE_ok h1 h64 hy]), Int.toNat_natCast, Int.toNat_natCast, hr] at this
  exact this
theorem un_ok (op n x r : Nat) (h1 : 1 ≤ n) (h64 : n ≤ 64) (hx : x < 2 ^ n) (h : op = 4 ∨ op = 5) (hr : unN op n x = r) (W : World) :
    Calls Try.prog 17 #[.int .i64 op, .int .u64 x, .int .i64 n] W (GivesV W (.tuple #[.int .u64 r, .int .i64 0])) := by
  have := pUnary_any op x n W (lt64 h64 hx)
  unfold unS at this
  rw [if_neg (by omega), if_neg (by simp [validE_ok h1 h64 hx]), Int.toNat_natCast, Int.toNat_natCast, hr] at this
  exact this
end Go.Proofs.Ytcpjchfgiogmeaa
