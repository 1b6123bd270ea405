/-
  WORDS FOR THE LAWS ON BITS: the calls of Binary, Unary, Extract, Concat, Extend at valid arguments; the results are valid again.
-/
import Derived.Test.YtcpjchfgiogmeaaLivesB
namespace Go.Proofs.Ytcpjchfgiogmeaa
open Go.RowKit

/-- a call that hands back one value and leaves what was there -/
def GivesV (W : World) (v : Value) (e : Ending) (w' : World) : Prop := e = .returned v ∧ Below W.heap.size W w'
theorem validE_ok {n x : Nat} (h1 : 1 ≤ n) (h64 : n ≤ 64) (hx : x < 2 ^ n) : validE x n = 0 := by rw [validE_in h1 h64, if_pos hx]
theorem lt64 {n x : Nat} (h64 : n ≤ 64) (hx : x < 2 ^ n) : x < 18446744073709551616 := Nat.lt_of_lt_of_le hx (pow64 h64)
theorem one_lt {n : Nat} (h1 : 1 ≤ n) : 1 < 2 ^ n := by
  have : 2 ^ 1 ≤ 2 ^ n := Nat.pow_le_pow_right (by decide) h1
  omega
theorem bool_lt {n : Nat} (h1 : 1 ≤ n) (b : Bool) : b.toNat < 2 ^ n := by
  have := one_lt h1
  have := toNat_le b
  omega
theorem binN_lt {op n x y : Nat} (h1 : 1 ≤ n) (hx : x < 2 ^ n) (hy : y < 2 ^ n) : binN op n x y < 2 ^ n := by
  have hp := ppos n
  unfold binN
  by_cases e : op = 6
  · rw [if_pos e]; exact Nat.lt_of_le_of_lt Nat.and_le_left hx
  rw [if_neg e]
  clear e
  by_cases e : op = 7
  · rw [if_pos e]; exact Nat.or_lt_two_pow hx hy
  rw [if_neg e]
  clear e
  by_cases e : op = 8
  · rw [if_pos e]; exact Nat.xor_lt_two_pow hx hy
  rw [if_neg e]
  clear e
  by_cases e : op = 9
  · rw [if_pos e]; exact Nat.mod_lt _ hp
  rw [if_neg e]
  clear e
  by_cases e : op = 10
  · rw [if_pos e]; exact Nat.mod_lt _ hp
  rw [if_neg e]
  clear e
  by_cases e : op = 11
  · rw [if_pos e]; exact divQ_lt hx
  rw [if_neg e]
  clear e
  by_cases e : op = 12
  · rw [if_pos e]; exact divR_lt hx
  rw [if_neg e]
  clear e
  by_cases e : op = 13
  · rw [if_pos e]; exact Nat.mod_lt _ hp
  rw [if_neg e]
  clear e
  by_cases e : op = 14
  · rw [if_pos e]; exact Nat.lt_of_le_of_lt (Nat.div_le_self _ _) hx
  rw [if_neg e]
  clear e
  by_cases e : op = 15
  · rw [if_pos e]; exact ashr_lt hx y
  rw [if_neg e]
  clear e
  by_cases e : op = 16
  · rw [if_pos e]; exact bool_lt h1 _
  rw [if_neg e]
  clear e
  by_cases e : op = 17
  · rw [if_pos e]; exact bool_lt h1 _
  rw [if_neg e]
  clear e
  exact bool_lt h1 _
theorem unN_lt {op n x : Nat} (hx : x < 2 ^ n) : unN op n x < 2 ^ n := by
  unfold unN
  have hp := ppos n
  split
  · omega
  · exact Nat.mod_lt _ hp
theorem bin_ok (op n x y r : Nat) (h1 : 1 ≤ n) (h64 : n ≤ 64) (hx : x < 2 ^ n) (hy : y < 2 ^ n) (h6 : 6 ≤ op) (h18 : op ≤ 18) (hr : binN op n x y = r) (W : World) :
    Calls Try.prog 15 #[.int .i64 op, .int .u64 x, .int .u64 y, .int .i64 n] W (GivesV W (.tuple #[.int .u64 r, .int .i64 0])) := by
  have := pBinary_any op x y n W (lt64 h64 hx) (lt64 h64 hy)
  unfold binS at this
  rw [if_neg (by omega), if_neg (by simp [validE_ok h1 h64 hx]), if_neg (by simp [validE_ok h1 h64 hy]), Int.toNat_natCast, Int.toNat_natCast, hr] at this
  exact this
theorem un_ok (op n x r : Nat) (h1 : 1 ≤ n) (h64 : n ≤ 64) (hx : x < 2 ^ n) (h : op = 4 ∨ op = 5) (hr : unN op n x = r) (W : World) :
    Calls Try.prog 17 #[.int .i64 op, .int .u64 x, .int .i64 n] W (GivesV W (.tuple #[.int .u64 r, .int .i64 0])) := by
  have := pUnary_any op x n W (lt64 h64 hx)
  unfold unS at this
  rw [if_neg (by omega), if_neg (by simp [validE_ok h1 h64 hx]), Int.toNat_natCast, Int.toNat_natCast, hr] at this
  exact this
theorem ext_ok (a n hi lo r : Nat) (h1 : 1 ≤ n) (h64 : n ≤ 64) (ha : a < 2 ^ n) (hl : lo ≤ hi) (hh : hi < n) (hr : a / 2 ^ lo % 2 ^ (hi + 1 - lo) = r) (W : World) (q0 q1 q2 : Int) (e0 : q0 = n) (e1 : q1 = hi) (e2 : q2 = lo) :
    Calls Try.prog 23 #[.int .u64 a, .int .i64 q0, .int .i64 q1, .int .i64 q2] W (GivesV W (.tuple #[.int .u64 r, .int .i64 0])) := by
  subst e0 e1 e2
  have := pExtract_any a n hi lo W (lt64 h64 ha)
  unfold extS at this
  rw [if_neg (by simp [validE_ok h1 h64 ha]), if_neg (by omega), Int.toNat_natCast, show ((hi : Int) + 1 - lo).toNat = hi + 1 - lo by omega, hr] at this
  exact this
theorem cat_ok (a v b n r : Nat) (hv1 : 1 ≤ v) (h1 : 1 ≤ n) (hvn : v + n ≤ 64) (ha : a < 2 ^ v) (hb : b < 2 ^ n) (hr : b + 2 ^ n * a = r) (W : World) (q0 q1 : Int) (e0 : q0 = v) (e1 : q1 = n) :
    Calls Try.prog 20 #[.int .u64 a, .int .i64 q0, .int .u64 b, .int .i64 q1] W (GivesV W (.tuple #[.int .u64 r, .int .i64 0])) := by
  subst e0 e1
  have := pConcat_any a v b n W (lt64 (by omega) ha) (lt64 (by omega) hb)
  unfold catS at this
  rw [if_neg (by simp [validE_ok hv1 (by omega : v ≤ 64) ha]), if_neg (by simp [validE_ok h1 (by omega : n ≤ 64) hb]), if_neg (by omega), Int.toNat_natCast, hr] at this
  exact this
theorem exd_ok (a n s r : Nat) (sg : Bool) (h1 : 1 ≤ n) (hs : 1 ≤ s) (hns : n + s ≤ 64) (ha : a < 2 ^ n) (hr : a + 2 ^ n * ((sg && hiN n a).toNat * (2 ^ s - 1)) = r) (W : World) (q0 q1 : Int) (e0 : q0 = n) (e1 : q1 = s) :
    Calls Try.prog 25 #[.int .u64 a, .int .i64 q0, .int .i64 q1, .bool sg] W (GivesV W (.tuple #[.int .u64 r, .int .i64 0])) := by
  subst e0 e1
  have := pExtend_any a n s sg W (lt64 (by omega) ha)
  unfold exdS at this
  rw [if_neg (by simp [validE_ok h1 (by omega : n ≤ 64) ha]), if_neg (by omega), Int.toNat_natCast, Int.toNat_natCast, hr] at this
  exact this
theorem un_okE (op n x r : Nat) (h1 : 1 ≤ n) (h64 : n ≤ 64) (hx : x < 2 ^ n) (h : op = 4 ∨ op = 5) (hr : unN op n x = r) (W : World) (q0 : Int) (e0 : q0 = n) :
    Calls Try.prog 17 #[.int .i64 op, .int .u64 x, .int .i64 q0] W (GivesV W (.tuple #[.int .u64 r, .int .i64 0])) := by
  subst e0; exact un_ok op n x r h1 h64 hx h hr W
theorem around_ok (z : Int) (m : Nat) (hz : I64 z) (h1 : 1 ≤ m) (h2 : m ≤ 1000000) : ∃ k : Nat, k < m ∧ ∀ (W : World) (q0 : Int), q0 = m → Calls Try.prog 22 #[.int .i64 z, .int .i64 q0] W (GivesV W (.int .i64 k)) := by
  obtain ⟨k, hk, hc⟩ := Around_nat z m hz h1 h2
  refine ⟨k, hk, fun W q0 e => ?_⟩
  subst e
  refine (hc W).mono fun e w' h => ?_
  obtain ⟨rfl, rfl⟩ := h
  exact ⟨rfl, Below.refl _ _⟩
theorem value_ok (u m : Nat) (hu : u < 18446744073709551616) (h1 : 1 ≤ m) (h64 : m ≤ 64) : ∃ v : Nat, v < 2 ^ m ∧ ∀ (W : World) (q0 : Int), q0 = m → Calls Try.prog 12 #[.int .u64 u, .int .i64 q0] W (GivesV W (.int .u64 v)) := by
  obtain ⟨v, hv, hc⟩ := bValue_any u m hu h1 h64
  exact ⟨v, hv, fun W q0 e => by subst e; exact hc W⟩
theorem new_b (w : World) (o : Obj) : Below w.heap.size w (w.alloc o) := (Below.refl _ w).alloc (Nat.le_refl _) _
end Go.Proofs.Ytcpjchfgiogmeaa
