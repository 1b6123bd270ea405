/-
  THE WALK of the law on the order (P3.8).
-/
import Derived.Test.YtcpjchfgiogmeaaBitsLaw
namespace Go.Proofs.Ytcpjchfgiogmeaa
open Go.RowKit

theorem xor_top {m x : Nat} (hx : x < 2 ^ (m + 1)) : x ^^^ 2 ^ m = if 2 ^ m ≤ x then x - 2 ^ m else x + 2 ^ m := by
  have hp := ppos m
  rw [Nat.pow_succ] at hx
  split
  · next h =>
    have e : x = 2 ^ m ^^^ (x - 2 ^ m) := by
      have h1 : x - 2 ^ m < 2 ^ m := by omega
      have h2 := Nat.two_pow_add_eq_or_of_lt h1 1
      rw [Nat.mul_one] at h2
      have h3 : 2 ^ m ||| (x - 2 ^ m) = 2 ^ m ^^^ (x - 2 ^ m) := by
        apply Nat.eq_of_testBit_eq
        intro i
        rw [Nat.testBit_or, Nat.testBit_xor, Nat.testBit_two_pow]
        by_cases hi : m = i
        · subst hi
          rw [Nat.testBit_lt_two_pow h1]
          simp
        · simp [hi]
      omega
    conv => lhs; rw [e]
    rw [Nat.xor_comm, ← Nat.xor_assoc, Nat.xor_self, Nat.zero_xor]
  · next h =>
    have h1 : x < 2 ^ m := by omega
    have h2 := Nat.two_pow_add_eq_or_of_lt h1 1
    rw [Nat.mul_one] at h2
    have h3 : 2 ^ m ||| x = x ^^^ 2 ^ m := by
      apply Nat.eq_of_testBit_eq
      intro i
      rw [Nat.testBit_or, Nat.testBit_xor, Nat.testBit_two_pow]
      by_cases hi : m = i
      · subst hi
        rw [Nat.testBit_lt_two_pow h1]
        simp
      · simp [hi]
    omega
theorem top_int {n : Nat} (h1 : 1 ≤ n) (h64 : n ≤ 64) : IntKind.u64.wrap (2 ^ (n - 1)) = ((2 ^ (n - 1) : Nat) : Int) := by
  have h := pow64 (n := n - 1) (by omega)
  have hlt : 2 ^ (n - 1) < 18446744073709551616 := by
    have : 2 ^ (n - 1) < 2 ^ 64 := Nat.pow_lt_pow_right (by decide) (by omega)
    rwa [two64] at this
  have hw := wrapN (2 ^ (n - 1))
  rw [Nat.mod_eq_of_lt hlt, Int.natCast_pow] at hw
  rw [Int.natCast_pow]
  exact hw
set_option maxRecDepth 100000 in
set_option maxHeartbeats 4000000 in
theorem order_walk (n u v a b l m s g x y : Nat) (nn : Int) (w : World) (h1 : 1 ≤ n) (h64 : n ≤ 64)
    (H : (l = 1 ∧ m = 0 ∧ s = 0 ∧ a < b) ∨ (l = 0 ∧ m = 1 ∧ s = 0 ∧ b < a) ∨ (l = 0 ∧ m = 0 ∧ s = 1 ∧ a = b))
    (cW : ∀ W, Calls Try.prog 11 #[.int .i64 nn] W fun e w' => e = .returned (.int .i64 n) ∧ Below W.heap.size W w')
    (cA : ∀ W, Calls Try.prog 12 #[.int .u64 u, .int .i64 n] W fun e w' => e = .returned (.int .u64 a) ∧ Below W.heap.size W w')
    (cB : ∀ W, Calls Try.prog 12 #[.int .u64 v, .int .i64 n] W fun e w' => e = .returned (.int .u64 b) ∧ Below W.heap.size W w')
    (c1 : ∀ W, Calls Try.prog 15 #[.int .i64 16, .int .u64 a, .int .u64 b, .int .i64 n] W (GivesV W (.tuple #[.int .u64 l, .int .i64 0])))
    (c2 : ∀ W, Calls Try.prog 15 #[.int .i64 16, .int .u64 b, .int .u64 a, .int .i64 n] W (GivesV W (.tuple #[.int .u64 m, .int .i64 0])))
    (c3 : ∀ W, Calls Try.prog 15 #[.int .i64 18, .int .u64 a, .int .u64 b, .int .i64 n] W (GivesV W (.tuple #[.int .u64 s, .int .i64 0])))
    (c4 : ∀ W, Calls Try.prog 15 #[.int .i64 17, .int .u64 a, .int .u64 b, .int .i64 n] W (GivesV W (.tuple #[.int .u64 g, .int .i64 0])))
    (c5 : ∀ W, Calls Try.prog 15 #[.int .i64 8, .int .u64 a, .int .u64 (IntKind.u64.wrap (2 ^ (n - 1))), .int .i64 n] W (GivesV W (.tuple #[.int .u64 x, .int .i64 0])))
    (c6 : ∀ W, Calls Try.prog 15 #[.int .i64 8, .int .u64 b, .int .u64 (IntKind.u64.wrap (2 ^ (n - 1))), .int .i64 n] W (GivesV W (.tuple #[.int .u64 y, .int .i64 0])))
    (c7 : ∀ W, Calls Try.prog 15 #[.int .i64 16, .int .u64 x, .int .u64 y, .int .i64 n] W (GivesV W (.tuple #[.int .u64 g, .int .i64 0]))) :
    Calls Try.prog 9 #[.int .i64 nn, .int .u64 u, .int .u64 v] w (TruePost w) := by
  rcases H with ⟨rfl, rfl, rfl, h⟩ | ⟨rfl, rfl, rfl, h⟩ | ⟨rfl, rfl, rfl, rfl⟩
  · have t1 : ((a : Int) == (b : Int)) = false := by simp; omega
    go_enter Try.func9, Try.ntmps9
    go_wp2_with (first
      | (go_at_call 11; refine (cW _).mono ?_; clear cW; rintro e w1 ⟨rfl, hb1⟩)
      | (go_at_call 12; refine (cA _).mono ?_; clear cA; rintro e w2 ⟨rfl, hb2⟩)
      | (go_at_call 12; refine (cB _).mono ?_; clear cB; rintro e w3 ⟨rfl, hb3⟩)
      | (go_at_call 15; refine (c1 _).mono ?_; clear c1; rintro e w4 ⟨rfl, hb4⟩)
      | (go_at_call 15; refine (c2 _).mono ?_; clear c2; rintro e w5 ⟨rfl, hb5⟩)
      | (go_at_call 15; refine (c3 _).mono ?_; clear c3; rintro e w6 ⟨rfl, hb6⟩)
      | (go_at_call 15; refine (c4 _).mono ?_; clear c4; rintro e w7 ⟨rfl, hb7⟩)
      | (go_at_call 15; refine (c5 _).mono ?_; clear c5; rintro e w8 ⟨rfl, hb8⟩)
      | (go_at_call 15; refine (c6 _).mono ?_; clear c6; rintro e w9 ⟨rfl, hb9⟩)
      | (go_at_call 15; refine (c7 _).mono ?_; clear c7; rintro e w10 ⟨rfl, hb10⟩)
      | (go_at_call 19; refine (livesB_any _).mono ?_; rintro e w11 ⟨rfl, hb11⟩))
    go_ret
    have d1 := hb1
    have d2 := d1.trans (hb2.mono d1.size)
    have d3 := d2.trans (hb3.mono d2.size)
    have d4 := d3.trans (hb4.mono d3.size)
    have d5 := d4.trans (hb5.mono d4.size)
    have d6 := d5.trans (hb6.mono d5.size)
    have d7 := d6.trans (hb7.mono d6.size)
    have d8 := d7.trans (hb8.mono d7.size)
    have d9 := d8.trans (hb9.mono d8.size)
    have d10 := d9.trans (hb10.mono d9.size)
    have d11 := d10.trans (hb11.mono d10.size)
    exact ⟨rfl, d11⟩
  · have t1 : ((a : Int) == (b : Int)) = false := by simp; omega
    have t2 : ¬ a < b := by omega
    go_enter Try.func9, Try.ntmps9
    go_wp2_with (first
      | (go_at_call 11; refine (cW _).mono ?_; clear cW; rintro e w1 ⟨rfl, hb1⟩)
      | (go_at_call 12; refine (cA _).mono ?_; clear cA; rintro e w2 ⟨rfl, hb2⟩)
      | (go_at_call 12; refine (cB _).mono ?_; clear cB; rintro e w3 ⟨rfl, hb3⟩)
      | (go_at_call 15; refine (c1 _).mono ?_; clear c1; rintro e w4 ⟨rfl, hb4⟩)
      | (go_at_call 15; refine (c2 _).mono ?_; clear c2; rintro e w5 ⟨rfl, hb5⟩)
      | (go_at_call 15; refine (c3 _).mono ?_; clear c3; rintro e w6 ⟨rfl, hb6⟩)
      | (go_at_call 15; refine (c4 _).mono ?_; clear c4; rintro e w7 ⟨rfl, hb7⟩)
      | (go_at_call 15; refine (c5 _).mono ?_; clear c5; rintro e w8 ⟨rfl, hb8⟩)
      | (go_at_call 15; refine (c6 _).mono ?_; clear c6; rintro e w9 ⟨rfl, hb9⟩)
      | (go_at_call 15; refine (c7 _).mono ?_; clear c7; rintro e w10 ⟨rfl, hb10⟩)
      | (go_at_call 19; refine (livesB_any _).mono ?_; rintro e w11 ⟨rfl, hb11⟩))
    go_ret
    have d1 := hb1
    have d2 := d1.trans (hb2.mono d1.size)
    have d3 := d2.trans (hb3.mono d2.size)
    have d4 := d3.trans (hb4.mono d3.size)
    have d5 := d4.trans (hb5.mono d4.size)
    have d6 := d5.trans (hb6.mono d5.size)
    have d7 := d6.trans (hb7.mono d6.size)
    have d8 := d7.trans (hb8.mono d7.size)
    have d9 := d8.trans (hb9.mono d8.size)
    have d10 := d9.trans (hb10.mono d9.size)
    have d11 := d10.trans (hb11.mono d10.size)
    exact ⟨rfl, d11⟩
  · go_enter Try.func9, Try.ntmps9
    go_wp2_with (first
      | (go_at_call 11; refine (cW _).mono ?_; clear cW; rintro e w1 ⟨rfl, hb1⟩)
      | (go_at_call 12; refine (cA _).mono ?_; clear cA; rintro e w2 ⟨rfl, hb2⟩)
      | (go_at_call 12; refine (cB _).mono ?_; clear cB; rintro e w3 ⟨rfl, hb3⟩)
      | (go_at_call 15; refine (c1 _).mono ?_; clear c1; rintro e w4 ⟨rfl, hb4⟩)
      | (go_at_call 15; refine (c2 _).mono ?_; clear c2; rintro e w5 ⟨rfl, hb5⟩)
      | (go_at_call 15; refine (c3 _).mono ?_; clear c3; rintro e w6 ⟨rfl, hb6⟩)
      | (go_at_call 15; refine (c4 _).mono ?_; clear c4; rintro e w7 ⟨rfl, hb7⟩)
      | (go_at_call 15; refine (c5 _).mono ?_; clear c5; rintro e w8 ⟨rfl, hb8⟩)
      | (go_at_call 15; refine (c6 _).mono ?_; clear c6; rintro e w9 ⟨rfl, hb9⟩)
      | (go_at_call 15; refine (c7 _).mono ?_; clear c7; rintro e w10 ⟨rfl, hb10⟩)
      | (go_at_call 19; refine (livesB_any _).mono ?_; rintro e w11 ⟨rfl, hb11⟩))
    go_ret
    have d1 := hb1
    have d2 := d1.trans (hb2.mono d1.size)
    have d3 := d2.trans (hb3.mono d2.size)
    have d4 := d3.trans (hb4.mono d3.size)
    have d5 := d4.trans (hb5.mono d4.size)
    have d6 := d5.trans (hb6.mono d5.size)
    have d7 := d6.trans (hb7.mono d6.size)
    have d8 := d7.trans (hb8.mono d7.size)
    have d9 := d8.trans (hb9.mono d8.size)
    have d10 := d9.trans (hb10.mono d9.size)
    have d11 := d10.trans (hb11.mono d10.size)
    exact ⟨rfl, d11⟩
theorem order_any (nn : Int) (u v : Nat) (w : World) (hn : I64 nn) (hu : u < 18446744073709551616) (hv : v < 18446744073709551616) :
    Calls Try.prog 9 #[.int .i64 nn, .int .u64 u, .int .u64 v] w (TruePost w) := by
  obtain ⟨n, h1, h64, cW⟩ := bWidth_any nn hn
  obtain ⟨a, ha, cA⟩ := bValue_any u n hu h1 h64
  obtain ⟨b, hb, cB⟩ := bValue_any v n hv h1 h64
  have ht : 2 ^ (n - 1) < 2 ^ n := Nat.pow_lt_pow_right (by decide) (by omega)
  have hx : binN 8 n a (2 ^ (n - 1)) = a ^^^ 2 ^ (n - 1) := rfl
  have hy : binN 8 n b (2 ^ (n - 1)) = b ^^^ 2 ^ (n - 1) := rfl
  have hz : decide (a ^^^ 2 ^ (n - 1) < b ^^^ 2 ^ (n - 1)) = sltN n a b := by
    obtain ⟨m, rfl⟩ : ∃ m, n = m + 1 := ⟨n - 1, by omega⟩
    rw [Nat.add_sub_cancel, xor_top ha, xor_top hb]
    unfold sltN hiN
    rw [Nat.add_sub_cancel]
    rw [Nat.pow_succ] at ha hb
    generalize 2 ^ m = H at *
    by_cases h2 : H ≤ a <;> by_cases h3 : H ≤ b <;> simp [h2, h3] <;> omega
  have c7 := bin_ok 16 n (a ^^^ 2 ^ (n - 1)) (b ^^^ 2 ^ (n - 1)) (sltN n a b).toNat h1 h64 (Nat.xor_lt_two_pow ha ht) (Nat.xor_lt_two_pow hb ht) (by decide) (by decide) (by rw [← hz]; rfl)
  have c5 := bin_ok 8 n a (2 ^ (n - 1)) _ h1 h64 ha ht (by decide) (by decide) hx
  have c6 := bin_ok 8 n b (2 ^ (n - 1)) _ h1 h64 hb ht (by decide) (by decide) hy
  rw [← top_int h1 h64] at c5 c6
  refine order_walk n u v a b (decide (a < b)).toNat (decide (b < a)).toNat (decide (a = b)).toNat (sltN n a b).toNat _ _ nn w h1 h64 ?_ cW cA cB
    (bin_ok 16 n a b _ h1 h64 ha hb (by decide) (by decide) rfl) (bin_ok 16 n b a _ h1 h64 hb ha (by decide) (by decide) rfl) (bin_ok 18 n a b _ h1 h64 ha hb (by decide) (by decide) rfl) (bin_ok 17 n a b _ h1 h64 ha hb (by decide) (by decide) rfl) c5 c6 c7
  rcases Nat.lt_trichotomy a b with h | h | h
  · exact .inl ⟨by simp [h], by simp; omega, by simp; omega, h⟩
  · exact .inr (.inr ⟨by simp; omega, by simp; omega, by simp [h], h⟩)
  · exact .inr (.inl ⟨by simp; omega, by simp [h], by simp; omega, h⟩)
end Go.Proofs.Ytcpjchfgiogmeaa
