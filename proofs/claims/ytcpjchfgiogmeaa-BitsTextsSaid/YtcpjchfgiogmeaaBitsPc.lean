/-
  THE WALKS of the program's Unary, Binary, Concat, Extract, Extend: the same words as the reference's.
-/
import Derived.Test.YtcpjchfgiogmeaaBitsPb
namespace Go.Proofs.Ytcpjchfgiogmeaa
open Go.RowKit

theorem papply_any (op a b : Nat) (n : Int) (w : World) (h4 : 4 ≤ op) (h18 : op ≤ 18) (ha : a < 18446744073709551616) (hb : b < 18446744073709551616) :
    Calls Try.prog 38 #[.int .i64 op, .int .u64 a, .int .u64 b, .int .i64 n] w (Num2 w (appS op a b n)) := by
  unfold appS
  have c1 := pValid_any a n w ha
  have c2 := pValid_any b n w hb
  by_cases e1 : validE a n = 0
  · rw [if_neg (by simp [e1])]
    rw [e1] at c1
    by_cases e2 : validE b n = 0
    · rw [if_neg (by simp [e2])]
      rw [e2] at c2
      obtain ⟨m, rfl, h64, ha2⟩ := validE_zero e1
      obtain ⟨m', hm, _, hb2⟩ := validE_zero e2
      obtain rfl : m = m' := by omega
      rw [Int.toNat_natCast]
      have h1 : 1 ≤ m + 1 := by omega
      have hops : op = 4 ∨ op = 5 ∨ op = 6 ∨ op = 7 ∨ op = 8 ∨ op = 9 ∨ op = 10 ∨ op = 11 ∨ op = 12 ∨ op = 13 ∨ op = 14 ∨ op = 15 ∨ op = 16 ∨ op = 17 ∨ op = 18 := by omega
      rcases hops with rfl | rfl | rfl | rfl | rfl | rfl | rfl | rfl | rfl | rfl | rfl | rfl | rfl | rfl | rfl
      · exact papply_4 a b (m + 1) w _ h1 h64 (pop1_at _ a b h64 ha2) c1 c2
      · exact papply_5 a b (m + 1) w _ h1 h64 (pop2_at _ a b h64 ha2) c1 c2
      · exact papply_6 a b (m + 1) w _ h1 h64 (pop3_at _ a b h64 ha2 hb2) c1 c2
      · exact papply_7 a b (m + 1) w _ h1 h64 (pop4_at _ a b h64 ha2 hb2) c1 c2
      · exact papply_8 a b (m + 1) w _ h1 h64 (pop5_at _ a b h64 ha2 hb2) c1 c2
      · exact papply_9 a b (m + 1) w _ h1 h64 (pop6_at _ a b h64) c1 c2
      · exact papply_10 a b (m + 1) w _ h1 h64 (pop7_at _ a b h64) c1 c2
      · exact papply_11 a b (m + 1) w _ h1 h64 (pop8_at _ a b h1 h64 ha2) c1 c2
      · exact papply_12 a b (m + 1) w _ h1 h64 (pop9_at _ a b h1 h64 ha2) c1 c2
      · exact papply_13 a b (m + 1) w _ h1 h64 (pop10_at _ a b h64) c1 c2
      · exact papply_14 a b (m + 1) w _ h1 h64 (pop11_at _ a b h64 ha2) c1 c2
      · exact papply_15 a b (m + 1) w _ h1 h64 (pop12_at _ a b h1 h64 ha2) c1 c2
      · exact papply_16 a b (m + 1) w _ h1 h64 (pop13_at _ a b h1) c1 c2
      · exact papply_17 a b (m + 1) w _ h1 h64 (pop14_at _ a b h1 h64 ha2 hb2) c1 c2
      · exact papply_18 a b (m + 1) w _ h1 h64 (pop15_at _ a b h1) c1 c2
    · rw [if_pos e2]
      exact papply_e2 op a b n _ w e2 c1 c2
  · rw [if_pos e1]
    exact papply_e1 op a b n _ _ w e1 c1 c2

set_option maxHeartbeats 1000000 in
theorem pBinary_any (op : Int) (u v : Nat) (n : Int) (w : World) (hu : u < 18446744073709551616) (hv : v < 18446744073709551616) :
    Calls Try.prog 15 #[.int .i64 op, .int .u64 u, .int .u64 v, .int .i64 n] w (Num2 w (binS op u v n)) := by
  unfold binS
  by_cases h : op < 6 ∨ 18 < op
  · rw [if_pos h]
    rcases h with h | h
    all_goals
      go_enter Try.func15, Try.ntmps15
      go_wp2
      go_ret2
      exact ⟨rfl, Below.refl _ _⟩
  · rw [if_neg h]
    obtain ⟨k, rfl⟩ : ∃ k : Nat, op = k := ⟨op.toNat, by omega⟩
    have hc := papply_any k u v n w (by omega) (by omega) hu hv
    have he : appS k u v n = if validE u n ≠ 0 then (0, validE u n) else if validE v n ≠ 0 then (0, validE v n) else (binN (k : Int).toNat n.toNat u v, 0) := by
      unfold appS opN
      rw [if_neg (by omega : ¬ k < 6), Int.toNat_natCast]
    rw [← he]
    generalize appS k u v n = r at hc
    clear he
    go_enter Try.func15, Try.ntmps15
    go_wp2_with (go_at_call 38; refine hc.mono ?_; clear hc; rintro e w1 ⟨rfl, hb1⟩)
    go_ret2
    exact ⟨rfl, hb1⟩
set_option maxHeartbeats 1000000 in
theorem pUnary_any (op : Int) (u : Nat) (n : Int) (w : World) (hu : u < 18446744073709551616) :
    Calls Try.prog 17 #[.int .i64 op, .int .u64 u, .int .i64 n] w (Num2 w (unS op u n)) := by
  unfold unS
  by_cases h : op ≠ 4 ∧ op ≠ 5
  · rw [if_pos h]
    have h' : op < 4 ∨ 5 < op := by omega
    clear h
    rcases h' with h | h
    all_goals
      go_enter Try.func17, Try.ntmps17
      go_wp2
      go_ret2
      exact ⟨rfl, Below.refl _ _⟩
  · rw [if_neg h]
    obtain ⟨k, rfl⟩ : ∃ k : Nat, op = k := ⟨op.toNat, by omega⟩
    have hc := papply_any k u 0 n w (by omega) (by omega) hu (by decide)
    have he : appS k u 0 n = if validE u n ≠ 0 then (0, validE u n) else (unN (k : Int).toNat n.toNat u, 0) := by
      unfold appS opN
      rw [if_pos (by omega : k < 6), Int.toNat_natCast]
      by_cases e1 : validE u n = 0
      · have e2 : validE 0 n = 0 := by
          obtain ⟨m, rfl, h64, _⟩ := validE_zero e1
          rw [validE_in (by omega) h64, if_pos (ppos _)]
        rw [if_neg (by simp [e1]), if_neg (by simp [e2]), if_neg (by simp [e1])]
      · rw [if_pos e1, if_pos e1]
    rw [← he]
    generalize appS k u 0 n = r at hc
    clear he
    go_enter Try.func17, Try.ntmps17
    go_wp2_with (go_at_call 38; refine hc.mono ?_; clear hc; rintro e w1 ⟨rfl, hb1⟩)
    go_ret2
    exact ⟨rfl, hb1⟩
end Go.Proofs.Ytcpjchfgiogmeaa
