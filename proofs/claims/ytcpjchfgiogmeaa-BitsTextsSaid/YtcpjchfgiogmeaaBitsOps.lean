/-
  THE WALKS of the reference's Binary and Unary.
-/
import Derived.Test.YtcpjchfgiogmeaaBitsSpec
namespace Go.Proofs.Ytcpjchfgiogmeaa
open Go.RowKit

set_option maxHeartbeats 2000000 in
theorem bBinary_bad (op : Int) (u v : Nat) (n : Int) (w : World) (h : op < 6 ∨ 18 < op) :
    Calls Try.prog 16 #[.int .i64 op, .int .u64 u, .int .u64 v, .int .i64 n] w (Num2 w (0, 1)) := by
  rcases h with h | h
  all_goals
    go_enter Try.func16, Try.ntmps16
    go_wp2
    go_ret2
    exact ⟨rfl, Below.refl _ _⟩
set_option maxHeartbeats 2000000 in
theorem bBinary_e1 (op : Int) (u v : Nat) (n x : Int) (w : World) (h1 : 6 ≤ op) (h2 : op ≤ 18) (hx : x = 1 ∨ x = 5) (c : Calls Try.prog 14 #[.int .u64 u, .int .i64 n] w fun e w' => e = .returned (.int .i64 x) ∧ Below w.heap.size w w') :
    Calls Try.prog 16 #[.int .i64 op, .int .u64 u, .int .u64 v, .int .i64 n] w (Num2 w (0, x)) := by
  rcases hx with rfl | rfl
  all_goals
    go_enter Try.func16, Try.ntmps16
    go_wp2_with (go_at_call 14; refine c.mono ?_; clear c; rintro e w1 ⟨rfl, hb1⟩)
    go_ret2
    exact ⟨rfl, hb1⟩
set_option maxHeartbeats 2000000 in
theorem bBinary_e2 (op : Int) (u v : Nat) (n x : Int) (w : World) (h1 : 6 ≤ op) (h2 : op ≤ 18) (hx : x = 1 ∨ x = 5) (c : Calls Try.prog 14 #[.int .u64 u, .int .i64 n] w fun e w' => e = .returned (.int .i64 0) ∧ Below w.heap.size w w')
    (c2 : ∀ W, Calls Try.prog 14 #[.int .u64 v, .int .i64 n] W fun e w' => e = .returned (.int .i64 x) ∧ Below W.heap.size W w') :
    Calls Try.prog 16 #[.int .i64 op, .int .u64 u, .int .u64 v, .int .i64 n] w (Num2 w (0, x)) := by
  rcases hx with rfl | rfl
  all_goals
    go_enter Try.func16, Try.ntmps16
    go_wp2_with (first
      | (go_at_call 14; refine c.mono ?_; clear c; rintro e w1 ⟨rfl, hb1⟩)
      | (go_at_call 14; refine (c2 w1).mono ?_; clear c2; rintro e w2 ⟨rfl, hb2⟩))
    go_ret2
    exact ⟨rfl, hb1.trans (hb2.mono hb1.size)⟩
set_option maxHeartbeats 4000000 in
theorem bBinary_ok (op u v m : Nat) (w : World) (h1 : 6 ≤ op) (h2 : op ≤ 18) (h64 : m + 1 ≤ 64) (hu : u < 2 ^ (m + 1)) (hv : v < 2 ^ (m + 1)) (c : Calls Try.prog 14 #[.int .u64 u, .int .i64 (m + 1 : Nat)] w fun e w' => e = .returned (.int .i64 0) ∧ Below w.heap.size w w')
    (c2 : ∀ W, Calls Try.prog 14 #[.int .u64 v, .int .i64 (m + 1 : Nat)] W fun e w' => e = .returned (.int .i64 0) ∧ Below W.heap.size W w') :
    Calls Try.prog 16 #[.int .i64 op, .int .u64 u, .int .u64 v, .int .i64 (m + 1 : Nat)] w (Num2 w (binN op (m + 1) u v, 0)) := by
  have hp : 2 ^ (m + 1) ≤ 18446744073709551616 := by
    have : 2 ^ (m + 1) ≤ 2 ^ 64 := Nat.pow_le_pow_right (by decide) h64
    omega
  have cB1 : ∀ W, Calls Try.prog 32 #[.int .u64 u, .int .i64 (m + 1 : Nat)] W fun e w' => GivesB W.heap.size W (bitsL (m + 1) u) e w' := fun W => bBits_any u (m + 1) W (by omega) h64
  have cB2 : ∀ W, Calls Try.prog 32 #[.int .u64 v, .int .i64 (m + 1 : Nat)] W fun e w' => GivesB W.heap.size W (bitsL (m + 1) v) e w' := fun W => bBits_any v (m + 1) W (by omega) h64
  have hl1 := bitsL_length (m + 1) u
  have hl2 := bitsL_length (m + 1) v
  have ho1 := ofL_bitsL (m + 1) u
  have ho2 := ofL_bitsL (m + 1) v
  rw [Nat.mod_eq_of_lt hu] at ho1
  rw [Nat.mod_eq_of_lt hv] at ho2
  generalize bitsL (m + 1) u = a at cB1 hl1 ho1
  generalize bitsL (m + 1) v = b at cB2 hl2 ho2
  have cN : ∀ W A c A' c', RdB W W.heap.size A a → RdB W W.heap.size A' b → m + 1 ≤ c' → ∃ L : List Bool, L.length ≤ 64 ∧ ofL L = binN op (m + 1) u v ∧ Calls Try.prog 39 #[.int .i64 op, .slice A (m + 1) c, .slice A' (m + 1) c'] W (GetsB W L) := fun W A c A' c' hr hr' hc' => by
    have := bbinary_any op h1 h2 A A' m c c' a b W hl1 hl2 h64 hc' hr hr'
    rwa [ho1, ho2] at this
  generalize binN op (m + 1) u v = y at cN ⊢
  have HL1 := Lib.hid hl1
  have HL2 := Lib.hid hl2
  clear hl1 hl2 ho1 ho2 hu hv hp
  obtain ⟨n, hn⟩ : ∃ n, m + 1 = n := ⟨_, rfl⟩
  rw [hn] at c c2 cB1 cB2 HL1 HL2 cN ⊢
  have hn64 : n ≤ 64 := by omega
  clear hn h64
  go_enter Try.func16, Try.ntmps16
  go_wp2_with (first
    | (go_at_call 14; refine c.mono ?_; clear c; rintro e w1 ⟨rfl, hb1⟩)
    | (go_at_call 14; refine (c2 w1).mono ?_; clear c2; rintro e w2 ⟨rfl, hb2⟩)
    | (go_at_call 32; refine (cB1 w2).mono ?_; clear cB1; rintro e w3 ⟨A, d, rfl, hrow3, hb3⟩; rw [HL1.out] at hrow3 ⊢)
    | (go_at_call 32; refine (cB2 w3).mono ?_; clear cB2; rintro e w4 ⟨A', d', rfl, hrow4, hb4⟩; rw [HL2.out] at hrow4 ⊢; have hr3 := rdb_own (own_below hrow3 hb4); have hr4 := rdb_own hrow4; obtain ⟨L, hLl, hLo, cNN⟩ := cN w4 A d A' d' hr3 hr4 (own_cap hrow4))
    | (go_at_call 39; refine cNN.mono ?_; clear cNN; rintro e w5 ⟨A5, d5, rfl, hr5, hb5⟩)
    | (go_at_call 36; refine (bOf_any A5 L.length d5 w5.heap.size L w5 rfl hLl hr5).mono ?_; rintro e w6 ⟨rfl, rfl⟩; rw [hLo]))
  go_ret2
  have s1 := hb1.size
  have s2 := hb2.size
  have s3 := hb3.size
  have s4 := hb4.size
  exact ⟨rfl, (((hb1.trans (hb2.mono s1)).trans (hb3.mono (by omega))).trans (hb4.mono (by omega))).trans (hb5.mono (by omega))⟩
theorem bBinary_any (op : Int) (u v : Nat) (n : Int) (w : World) (hu : u < 18446744073709551616) (hv : v < 18446744073709551616) :
    Calls Try.prog 16 #[.int .i64 op, .int .u64 u, .int .u64 v, .int .i64 n] w (Num2 w (binS op u v n)) := by
  unfold binS
  by_cases h : op < 6 ∨ 18 < op
  · rw [if_pos h]
    exact bBinary_bad op u v n w h
  · rw [if_neg h]
    have c1 := bValid_any u n w hu
    have c2 : ∀ W, Calls Try.prog 14 #[.int .u64 v, .int .i64 n] W fun e w' => e = .returned (.int .i64 (validE v n)) ∧ Below W.heap.size W w' := fun W => bValid_any v n W hv
    by_cases e1 : validE u n = 0
    · rw [if_neg (by simp [e1])]
      rw [e1] at c1
      by_cases e2 : validE v n = 0
      · rw [if_neg (by simp [e2])]
        rw [e2] at c2
        obtain ⟨m, rfl, h64, hu2⟩ := validE_zero e1
        obtain ⟨m', hm, _, hv2⟩ := validE_zero e2
        obtain rfl : m = m' := by omega
        obtain ⟨k, rfl⟩ : ∃ k : Nat, op = k := ⟨op.toNat, by omega⟩
        rw [Int.toNat_natCast, Int.toNat_natCast]
        exact bBinary_ok k u v m w (by omega) (by omega) h64 hu2 hv2 c1 c2
      · rw [if_pos e2]
        exact bBinary_e2 op u v n _ w (by omega) (by omega) ((validE_vals v n).resolve_left e2) c1 c2
    · rw [if_pos e1]
      exact bBinary_e1 op u v n _ w (by omega) (by omega) ((validE_vals u n).resolve_left e1) c1
end Go.Proofs.Ytcpjchfgiogmeaa
