/-
  THE WALKS of the program's Concat, Extract, Extend: the same words as the reference's.
-/
import Derived.Test.YtcpjchfgiogmeaaBitsPc
namespace Go.Proofs.Ytcpjchfgiogmeaa
open Go.RowKit

theorem cat_raw {a b v n : Nat} (hvn : v + n ≤ 64) (ha : a < 2 ^ v) (hb : b < 2 ^ n) :
    bits .or .u64 (IntKind.u64.wrap ((a : Int) * 2 ^ n)) (b : Int) = ((b + 2 ^ n * a : Nat) : Int) := by
  have hp := pow64 hvn
  have hp2 := pow64 (n := n) (by omega)
  have hlt : a * 2 ^ n < 18446744073709551616 := by
    rw [Nat.pow_add] at hp
    exact Nat.lt_of_lt_of_le (Nat.mul_lt_mul_of_pos_right ha (ppos n)) hp
  have h := wrapN (a * 2 ^ n)
  rw [Nat.mod_eq_of_lt hlt, Int.natCast_mul, Int.natCast_pow] at h
  rw [show IntKind.u64.wrap ((a : Int) * 2 ^ n) = ((a * 2 ^ n : Nat) : Int) from by rw [Int.natCast_mul, Int.natCast_pow]; exact h]
  rw [u64_or_nat _ _ hlt (by omega), Nat.mul_comm a, ← Nat.two_pow_add_eq_or_of_lt hb, Nat.add_comm]
set_option maxHeartbeats 1000000 in
theorem pConcat_any (a : Nat) (v : Int) (b : Nat) (n : Int) (w : World) (ha : a < 18446744073709551616) (hb : b < 18446744073709551616) :
    Calls Try.prog 20 #[.int .u64 a, .int .i64 v, .int .u64 b, .int .i64 n] w (Num2 w (catS a v b n)) := by
  unfold catS
  have c1 := pValid_any a v w ha
  have c2 := pValid_any b n w hb
  have tok1 : True := trivial
  by_cases e1 : validE a v = 0
  · rw [if_neg (by simp [e1])]
    rw [e1] at c1
    by_cases e2 : validE b n = 0
    · rw [if_neg (by simp [e2])]
      rw [e2] at c2
      obtain ⟨m, rfl, h64, ha2⟩ := validE_zero e1
      obtain ⟨q, rfl, hq64, hb2⟩ := validE_zero e2
      rw [Int.toNat_natCast]
      clear e1 e2
      generalize m + 1 = v at *
      generalize q + 1 = n at *
      by_cases h : 64 < (v : Int) + n
      · rw [if_pos h]
        clear ha2 hb2
        go_enter Try.func20, Try.ntmps20
        go_wp2_with (first
          | (go_at_call 13; have _t := tok1; refine c1.mono ?_; clear c1 tok1; rintro e w1 ⟨rfl, rfl⟩; have tok2 : True := trivial)
          | (go_at_call 13; have _t := tok2; refine c2.mono ?_; clear c2; rintro e w1 ⟨rfl, rfl⟩)
          | (go_at_call 41; refine (pOr_second 0 _ _ (by simp [World.cell?_alloc_mark]) (by simp [World.cell?_alloc_mark])).mono ?_; rintro e w1 ⟨rfl, rfl⟩))
        go_ret2
        exact ⟨rfl, (Below.refl _ w).alloc (Nat.le_refl _) _⟩
      · rw [if_neg h]
        have HR := Lib.hid (cat_raw (by omega) ha2 hb2)
        clear ha2 hb2
        go_enter Try.func20, Try.ntmps20
        go_wp2_with (first
          | (go_at_call 13; have _t := tok1; refine c1.mono ?_; clear c1 tok1; rintro e w1 ⟨rfl, rfl⟩; have tok2 : True := trivial)
          | (go_at_call 13; have _t := tok2; refine c2.mono ?_; clear c2; rintro e w1 ⟨rfl, rfl⟩)
          | (go_at_call 41; refine (pOr_second 0 _ _ (by simp [World.cell?_alloc_mark]) (by simp [World.cell?_alloc_mark])).mono ?_; rintro e w1 ⟨rfl, rfl⟩))
        go_ret2
        exact ⟨by rw [← HR.out]; rfl, (Below.refl _ w).alloc (Nat.le_refl _) _⟩
    · rw [if_pos e2]
      have t1 : (validE b n != 0) = true := by simpa using e2
      generalize validE b n = y at *
      go_enter Try.func20, Try.ntmps20
      go_wp2_with (first
        | (go_at_call 13; have _t := tok1; refine c1.mono ?_; clear c1 tok1; rintro e w1 ⟨rfl, rfl⟩; have tok2 : True := trivial)
        | (go_at_call 13; have _t := tok2; refine c2.mono ?_; clear c2; rintro e w1 ⟨rfl, rfl⟩)
        | (go_at_call 41; refine (pOr_second y _ _ (by simp [World.cell?_alloc_mark]) (by simp [World.cell?_alloc_mark])).mono ?_; rintro e w1 ⟨rfl, rfl⟩))
      go_ret2
      exact ⟨rfl, (Below.refl _ w).alloc (Nat.le_refl _) _⟩
  · rw [if_pos e1]
    have t1 : (validE a v != 0) = true := by simpa using e1
    generalize validE a v = x at *
    generalize validE b n = y at *
    go_enter Try.func20, Try.ntmps20
    go_wp2_with (first
      | (go_at_call 13; have _t := tok1; refine c1.mono ?_; clear c1 tok1; rintro e w1 ⟨rfl, rfl⟩; have tok2 : True := trivial)
      | (go_at_call 13; have _t := tok2; refine c2.mono ?_; clear c2; rintro e w1 ⟨rfl, rfl⟩)
      | (go_at_call 41; refine (pOr_first x y e1 _ _ (by simp [World.cell?_alloc_mark])).mono ?_; rintro e w1 ⟨rfl, rfl⟩))
    go_ret2
    exact ⟨rfl, (Below.refl _ w).alloc (Nat.le_refl _) _⟩

theorem ext_raw {a lo k : Nat} (h64 : k ≤ 64) (ha : a < 18446744073709551616) : bits .and .u64 ((a : Int) / 2 ^ lo) ((2 ^ k - 1 : Nat) : Int) = ((a / 2 ^ lo % 2 ^ k : Nat) : Int) := by
  have h := and_mask (r := a / 2 ^ lo) h64 (Nat.lt_of_le_of_lt (Nat.div_le_self _ _) ha)
  rw [← h]
  congr 1
set_option maxHeartbeats 1000000 in
theorem pExtract_any (a : Nat) (n hi lo : Int) (w : World) (ha : a < 18446744073709551616) :
    Calls Try.prog 23 #[.int .u64 a, .int .i64 n, .int .i64 hi, .int .i64 lo] w (Num2 w (extS a n hi lo)) := by
  unfold extS
  have c1 := pValid_any a n w ha
  by_cases e1 : validE a n = 0
  · rw [if_neg (by simp [e1])]
    rw [e1] at c1
    obtain ⟨m, rfl, h64, ha2⟩ := validE_zero e1
    clear e1 ha2
    generalize m + 1 = n at *
    by_cases h : lo < 0 ∨ hi < lo ∨ n ≤ hi
    · rw [if_pos h]
      by_cases h1 : lo < 0
      · clear h
        go_enter Try.func23, Try.ntmps23
        go_wp2_with (go_at_call 13; refine c1.mono ?_; clear c1; rintro e w1 ⟨rfl, rfl⟩)
        go_ret2
        exact ⟨rfl, Below.refl _ _⟩
      · by_cases h2 : hi < lo
        · clear h
          go_enter Try.func23, Try.ntmps23
          go_wp2_with (go_at_call 13; refine c1.mono ?_; clear c1; rintro e w1 ⟨rfl, rfl⟩)
          go_ret2
          exact ⟨rfl, Below.refl _ _⟩
        · have h3 : (n : Int) ≤ hi := by omega
          clear h
          go_enter Try.func23, Try.ntmps23
          go_wp2_with (go_at_call 13; refine c1.mono ?_; clear c1; rintro e w1 ⟨rfl, rfl⟩)
          go_ret2
          exact ⟨rfl, Below.refl _ _⟩
    · rw [if_neg h]
      obtain ⟨p, rfl⟩ : ∃ p : Nat, lo = p := ⟨lo.toNat, by omega⟩
      obtain ⟨k, rfl⟩ : ∃ k : Nat, hi = ((p + k : Nat) : Int) := ⟨hi.toNat - p, by omega⟩
      have e2 : (((p + k : Nat) : Int) + 1 - p).toNat = k + 1 := by omega
      rw [e2, Int.toNat_natCast]
      have HR := Lib.hid (ext_raw (a := a) (lo := p) (k := k + 1) (by omega) ha)
      have hg : ∀ (W : World) (z : Int), z = (k : Int) + 1 → Calls Try.prog 37 #[.int .i64 z] W fun e w' => e = .returned (.int .u64 ((2 ^ (k + 1) - 1 : Nat) : Int)) ∧ w' = W := fun W z hz => by
        subst hz
        exact (pgreatest_any (k + 1) W (by omega) (by omega)).mono fun _ _ h => ⟨h.1, h.2.symm⟩
      generalize 2 ^ (k + 1) - 1 = q at hg HR
      generalize a / 2 ^ p % 2 ^ (k + 1) = r at HR ⊢
      go_enter Try.func23, Try.ntmps23
      go_wp2_with (go_at_call 13; refine c1.mono ?_; clear c1; rintro e w1 ⟨rfl, rfl⟩)
      go_quiet (exact Calls.quiet_of_same (hg _ _ (by omega)))
      go_wp2
      go_ret2
      exact ⟨by rw [← HR.out]; rfl, below_drewN (Below.refl _ _) _⟩
  · rw [if_pos e1]
    have t1 : (validE a n != 0) = true := by simpa using e1
    generalize validE a n = x at *
    go_enter Try.func23, Try.ntmps23
    go_wp2_with (go_at_call 13; refine c1.mono ?_; clear c1; rintro e w1 ⟨rfl, rfl⟩)
    go_ret2
    exact ⟨rfl, Below.refl _ _⟩

theorem exd_raw {a n more : Nat} (hnm : n + more ≤ 64) (ha : a < 2 ^ n) :
    bits .and .u64 (IntKind.u64.wrap (sgnI n a)) ((2 ^ (n + more) - 1 : Nat) : Int) = ((a + 2 ^ n * ((hiN n a).toNat * (2 ^ more - 1)) : Nat) : Int) := by
  have hp := pow64 hnm
  have hpn := pow64 (n := n) (by omega)
  have hs := split64 hnm
  have h1 := ppos more
  have h2 := ppos n
  unfold sgnI
  cases hx : hiN n a
  · have hw := wrapN a
    rw [Nat.mod_eq_of_lt (by omega)] at hw
    rw [if_neg (by decide), hw, and_mask hnm (by omega), Nat.mod_eq_of_lt]
    · simp
    · exact Nat.lt_of_lt_of_le ha (Nat.pow_le_pow_right (by decide) (by omega))
  · have e : (2 : Int) ^ n = ((2 ^ n : Nat) : Int) := by simp
    have hw : IntKind.u64.wrap ((a : Int) - 2 ^ n) = ((a + (18446744073709551616 - 2 ^ n) : Nat) : Int) := by
      rw [e, IntKind.wrap_u64]; omega
    rw [if_pos rfl, hw, and_mask hnm (by omega), Bool.toNat_true, Nat.one_mul]
    rw [Nat.pow_add] at hs ⊢
    generalize 2 ^ n = P at *
    generalize 2 ^ more = M at *
    have hq := ppos (64 - (n + more))
    generalize 2 ^ (64 - (n + more)) = Q at *
    obtain ⟨q, rfl⟩ : ∃ q, Q = q + 1 := ⟨Q - 1, by omega⟩
    obtain ⟨m, rfl⟩ : ∃ m, M = m + 1 := ⟨M - 1, by omega⟩
    rw [Nat.add_sub_cancel]
    have e1 : a + (18446744073709551616 - P) = (a + P * m) + P * (m + 1) * q := by
      rw [hs, Nat.mul_add (P * (m + 1)), Nat.mul_one, Nat.mul_add P, Nat.mul_one]
      omega
    have hl : a + P * m < P * (m + 1) := by rw [Nat.mul_add, Nat.mul_one]; omega
    rw [e1, Nat.add_mul_mod_self_left, Nat.mod_eq_of_lt hl]
set_option maxHeartbeats 1000000 in
theorem pExtend_any (a : Nat) (n more : Int) (sg : Bool) (w : World) (ha : a < 18446744073709551616) :
    Calls Try.prog 25 #[.int .u64 a, .int .i64 n, .int .i64 more, .bool sg] w (Num2 w (exdS a n more sg)) := by
  unfold exdS
  have c1 := pValid_any a n w ha
  by_cases e1 : validE a n = 0
  · rw [if_neg (by simp [e1])]
    rw [e1] at c1
    obtain ⟨m, rfl, h64, ha2⟩ := validE_zero e1
    have hm1 : 1 ≤ m + 1 := by omega
    clear e1
    generalize m + 1 = n at *
    by_cases h : more < 1 ∨ 64 - (n : Int) < more
    · rw [if_pos h]
      by_cases h1 : more < 1
      · clear h
        go_enter Try.func25, Try.ntmps25
        go_wp2_with (go_at_call 13; refine c1.mono ?_; clear c1; rintro e w1 ⟨rfl, rfl⟩)
        go_ret2
        exact ⟨rfl, Below.refl _ _⟩
      · have h2 : 64 - (n : Int) < more := by omega
        clear h
        go_enter Try.func25, Try.ntmps25
        go_wp2_with (go_at_call 13; refine c1.mono ?_; clear c1; rintro e w1 ⟨rfl, rfl⟩)
        go_ret2
        exact ⟨rfl, Below.refl _ _⟩
    · rw [if_neg h]
      obtain ⟨k, rfl⟩ : ∃ k : Nat, more = (k : Int) := ⟨more.toNat, by omega⟩
      rw [Int.toNat_natCast, Int.toNat_natCast]
      cases sg
      · have HR := Lib.hid (show a + 2 ^ n * ((false && hiN n a).toNat * (2 ^ k - 1)) = a by simp)
        rw [HR.out]
        clear ha2 HR
        go_enter Try.func25, Try.ntmps25
        go_wp2_with (go_at_call 13; refine c1.mono ?_; clear c1; rintro e w1 ⟨rfl, rfl⟩)
        go_ret2
        exact ⟨rfl, Below.refl _ _⟩
      · have HR := Lib.hid (exd_raw (a := a) (n := n) (more := k) (by omega) ha2)
        have hs := fun W => psigned_any a n W hm1 h64 ha2
        have hg : ∀ (W : World) (z : Int), z = (n : Int) + k → Calls Try.prog 37 #[.int .i64 z] W fun e w' => e = .returned (.int .u64 ((2 ^ (n + k) - 1 : Nat) : Int)) ∧ W = w' := fun W z hz => by
          subst hz
          exact pgreatest_any (n + k) W (by omega) (by omega)
        rw [Bool.true_and]
        generalize 2 ^ (n + k) - 1 = q at hg HR
        generalize sgnI n a = s at hs HR
        generalize a + 2 ^ n * ((hiN n a).toNat * (2 ^ k - 1)) = r at HR ⊢
        clear ha2
        go_enter Try.func25, Try.ntmps25
        go_wp2_with (first
          | (go_at_call 13; refine c1.mono ?_; clear c1; rintro e w1 ⟨rfl, rfl⟩)
          | (go_at_call 42; refine (hs _).mono ?_; clear hs; rintro e w1 ⟨rfl, rfl⟩)
          | (go_at_call 37; refine (hg _ _ (by omega)).mono ?_; clear hg; rintro e w1 ⟨rfl, rfl⟩))
        go_ret2
        exact ⟨by rw [← HR.out]; rfl, Below.refl _ _⟩
  · rw [if_pos e1]
    have t1 : (validE a n != 0) = true := by simpa using e1
    generalize validE a n = x at *
    go_enter Try.func25, Try.ntmps25
    go_wp2_with (go_at_call 13; refine c1.mono ?_; clear c1; rintro e w1 ⟨rfl, rfl⟩)
    go_ret2
    exact ⟨rfl, Below.refl _ _⟩
end Go.Proofs.Ytcpjchfgiogmeaa
