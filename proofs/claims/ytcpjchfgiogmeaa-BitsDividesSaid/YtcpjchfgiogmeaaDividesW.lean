/-
  THE WALK of the law on division (P3.6).
-/
import Derived.Test.YtcpjchfgiogmeaaBitsLaw
namespace Go.Proofs.Ytcpjchfgiogmeaa
open Go.RowKit

set_option maxRecDepth 100000 in
set_option maxHeartbeats 8000000 in
theorem divides_zero (n u v a q p : Nat) (nn : Int) (w : World)
    (cW : ∀ W, Calls Try.prog 11 #[.int .i64 nn] W (GivesV W (.int .i64 n)))
    (cA : ∀ W, Calls Try.prog 12 #[.int .u64 u, .int .i64 n] W (GivesV W (.int .u64 a)))
    (cB : ∀ W, Calls Try.prog 12 #[.int .u64 v, .int .i64 n] W (GivesV W (.int .u64 0)))
    (c1 : ∀ W, Calls Try.prog 15 #[.int .i64 11, .int .u64 a, .int .u64 0, .int .i64 n] W (GivesV W (.tuple #[.int .u64 q, .int .i64 0])))
    (c2 : ∀ W, Calls Try.prog 15 #[.int .i64 12, .int .u64 a, .int .u64 0, .int .i64 n] W (GivesV W (.tuple #[.int .u64 a, .int .i64 0])))
    (c3 : ∀ W, Calls Try.prog 15 #[.int .i64 10, .int .u64 q, .int .u64 0, .int .i64 n] W (GivesV W (.tuple #[.int .u64 p, .int .i64 0])))
    (c4 : ∀ W, Calls Try.prog 15 #[.int .i64 9, .int .u64 p, .int .u64 a, .int .i64 n] W (GivesV W (.tuple #[.int .u64 a, .int .i64 0])))
    (c5 : ∀ W, Calls Try.prog 17 #[.int .i64 4, .int .u64 0, .int .i64 n] W (GivesV W (.tuple #[.int .u64 q, .int .i64 0])))
    : Calls Try.prog 7 #[.int .i64 nn, .int .u64 u, .int .u64 v] w (TruePost w) := by
  go_enter Try.func7, Try.ntmps7
  go_wp2_with (first
    | (go_at_call 11; refine (cW _).mono ?_; clear cW; rintro e w1 ⟨rfl, hb1⟩)
    | (go_at_call 12; refine (cA _).mono ?_; clear cA; rintro e w2 ⟨rfl, hb2⟩)
    | (go_at_call 12; refine (cB _).mono ?_; clear cB; rintro e w3 ⟨rfl, hb3⟩)
    | (go_at_call 15; refine (c1 _).mono ?_; clear c1; rintro e w4 ⟨rfl, hb4⟩)
    | (go_at_call 15; refine (c2 _).mono ?_; clear c2; rintro e w5 ⟨rfl, hb5⟩)
    | (go_at_call 15; refine (c3 _).mono ?_; clear c3; rintro e w6 ⟨rfl, hb6⟩)
    | (go_at_call 15; refine (c4 _).mono ?_; clear c4; rintro e w7 ⟨rfl, hb7⟩)
    | (go_at_call 17; refine (c5 _).mono ?_; clear c5; rintro e w8 ⟨rfl, hb8⟩)
    | (go_at_call 19; refine (livesB_any _).mono ?_; rintro e w9 ⟨rfl, hb9⟩))
  go_ret
  have d1 := hb1
  have d2 := d1.trans (hb2.mono d1.size)
  have d3 := d2.trans (hb3.mono d2.size)
  have d4 := d3.trans (hb4.mono d3.size)
  have d5 := d4.trans (hb5.mono d4.size)
  have d6 := d5.trans (hb6.mono d5.size)
  have d7 := d6.trans (hb7.mono d6.size)
  have d8 := d7.trans (hb8.mono d7.size)
  have d9 := d8.trans (hb9.mono d8.size)
  exact ⟨rfl, d9⟩
set_option maxRecDepth 100000 in
set_option maxHeartbeats 8000000 in
theorem divides_more (n u v a b q r p : Nat) (nn : Int) (w : World) (t1 : ((b : Int) == 0) = false) (h1 : r < b) (h2 : p ≤ a) (h64 : a < 18446744073709551616) (t2 : ((a : Int) - p == r) = true)
    (cW : ∀ W, Calls Try.prog 11 #[.int .i64 nn] W (GivesV W (.int .i64 n)))
    (cA : ∀ W, Calls Try.prog 12 #[.int .u64 u, .int .i64 n] W (GivesV W (.int .u64 a)))
    (cB : ∀ W, Calls Try.prog 12 #[.int .u64 v, .int .i64 n] W (GivesV W (.int .u64 b)))
    (c1 : ∀ W, Calls Try.prog 15 #[.int .i64 11, .int .u64 a, .int .u64 b, .int .i64 n] W (GivesV W (.tuple #[.int .u64 q, .int .i64 0])))
    (c2 : ∀ W, Calls Try.prog 15 #[.int .i64 12, .int .u64 a, .int .u64 b, .int .i64 n] W (GivesV W (.tuple #[.int .u64 r, .int .i64 0])))
    (c3 : ∀ W, Calls Try.prog 15 #[.int .i64 10, .int .u64 q, .int .u64 b, .int .i64 n] W (GivesV W (.tuple #[.int .u64 p, .int .i64 0])))
    (c4 : ∀ W, Calls Try.prog 15 #[.int .i64 9, .int .u64 p, .int .u64 r, .int .i64 n] W (GivesV W (.tuple #[.int .u64 a, .int .i64 0])))
    : Calls Try.prog 7 #[.int .i64 nn, .int .u64 u, .int .u64 v] w (TruePost w) := by
  go_enter Try.func7, Try.ntmps7
  go_wp2_with (first
    | (go_at_call 11; refine (cW _).mono ?_; clear cW; rintro e w1 ⟨rfl, hb1⟩)
    | (go_at_call 12; refine (cA _).mono ?_; clear cA; rintro e w2 ⟨rfl, hb2⟩)
    | (go_at_call 12; refine (cB _).mono ?_; clear cB; rintro e w3 ⟨rfl, hb3⟩)
    | (go_at_call 15; refine (c1 _).mono ?_; clear c1; rintro e w4 ⟨rfl, hb4⟩)
    | (go_at_call 15; refine (c2 _).mono ?_; clear c2; rintro e w5 ⟨rfl, hb5⟩)
    | (go_at_call 15; refine (c3 _).mono ?_; clear c3; rintro e w6 ⟨rfl, hb6⟩)
    | (go_at_call 15; refine (c4 _).mono ?_; clear c4; rintro e w7 ⟨rfl, hb7⟩)
    | (go_at_call 19; refine (livesB_any _).mono ?_; rintro e w8 ⟨rfl, hb8⟩))
  go_ret
  have d1 := hb1
  have d2 := d1.trans (hb2.mono d1.size)
  have d3 := d2.trans (hb3.mono d2.size)
  have d4 := d3.trans (hb4.mono d3.size)
  have d5 := d4.trans (hb5.mono d4.size)
  have d6 := d5.trans (hb6.mono d5.size)
  have d7 := d6.trans (hb7.mono d6.size)
  have d8 := d7.trans (hb8.mono d7.size)
  exact ⟨rfl, d8⟩
theorem divides_any (nn : Int) (u v : Nat) (w : World) (hn : I64 nn) (hu : u < 18446744073709551616) (hv : v < 18446744073709551616) :
    Calls Try.prog 7 #[.int .i64 nn, .int .u64 u, .int .u64 v] w (TruePost w) := by
  obtain ⟨n, h1, h64, cW⟩ := bWidth_any nn hn
  obtain ⟨a, ha, cA⟩ := bValue_any u n hu h1 h64
  obtain ⟨b, hb, cB⟩ := bValue_any v n hv h1 h64
  have hp := ppos n
  have hq := divQ_lt (y := b) ha
  have hr := divR_lt (y := b) ha
  have hm : divQ n a b * b % 2 ^ n < 2 ^ n := Nat.mod_lt _ hp
  by_cases h0 : b = 0
  · subst h0
    have e1 : divQ n a 0 = 2 ^ n - 1 := if_pos rfl
    have e2 : divR a 0 = a := if_pos rfl
    refine divides_zero n u v a (divQ n a 0) (divQ n a 0 * 0 % 2 ^ n) nn w cW cA cB (bin_ok 11 n a 0 _ h1 h64 ha hb (by decide) (by decide) rfl) (bin_ok 12 n a 0 a h1 h64 ha hb (by decide) (by decide) e2)
      (bin_ok 10 n _ 0 _ h1 h64 hq hb (by decide) (by decide) rfl) (bin_ok 9 n _ a _ h1 h64 hm ha (by decide) (by decide) ?_) (un_ok 4 n 0 _ h1 h64 hp (.inl rfl) ?_)
    · show (divQ n a 0 * 0 % 2 ^ n + a) % 2 ^ n = a
      rw [Nat.mul_zero, Nat.zero_mod, Nat.zero_add, Nat.mod_eq_of_lt ha]
    · show 2 ^ n - 1 - 0 = _
      rw [e1]; rfl
  · have e1 : divQ n a b = a / b := if_neg h0
    have e2 : divR a b = a % b := if_neg h0
    have hle : a / b * b ≤ a := Nat.div_mul_le_self a b
    have hd := Nat.div_add_mod a b
    rw [Nat.mul_comm] at hd
    have e3 : divQ n a b * b % 2 ^ n = a / b * b := by rw [e1, Nat.mod_eq_of_lt (by omega)]
    have hlt := Nat.mod_lt a (Nat.pos_of_ne_zero h0)
    have ha64 := lt64 h64 ha
    refine divides_more n u v a b (divQ n a b) (divR a b) (divQ n a b * b % 2 ^ n) nn w ?_ ?_ ?_ ?_ ?_ cW cA cB (bin_ok 11 n a b _ h1 h64 ha hb (by decide) (by decide) rfl) (bin_ok 12 n a b _ h1 h64 ha hb (by decide) (by decide) rfl)
      (bin_ok 10 n _ b _ h1 h64 hq hb (by decide) (by decide) rfl) (bin_ok 9 n _ _ _ h1 h64 hm hr (by decide) (by decide) ?_)
    · simpa using h0
    · rw [e2]; exact hlt
    · rw [e3]; exact hle
    · exact ha64
    · rw [e2, e3, beq_iff_eq]; omega
    · show (divQ n a b * b % 2 ^ n + divR a b) % 2 ^ n = a
      rw [e2, e3, hd, Nat.mod_eq_of_lt ha]
end Go.Proofs.Ytcpjchfgiogmeaa
