/-
  THE WALKS of the reference's Concat (whole) and Extract.
-/
import Derived.Test.YtcpjchfgiogmeaaBitsForms
namespace Go.Proofs.Ytcpjchfgiogmeaa
open Go.RowKit

theorem bConcat_any (a b : Nat) (v n : Int) (w : World) (ha : a < 18446744073709551616) (hb : b < 18446744073709551616) :
    Calls Try.prog 21 #[.int .u64 a, .int .i64 v, .int .u64 b, .int .i64 n] w (Num2 w (catS a v b n)) := by
  unfold catS
  have c1 := bValid_any a v w ha
  have c2 : ∀ W, Calls Try.prog 14 #[.int .u64 b, .int .i64 n] W fun e w' => e = .returned (.int .i64 (validE b n)) ∧ Below W.heap.size W w' := fun W => bValid_any b n W hb
  by_cases e1 : validE a v = 0
  · rw [if_neg (by simp [e1])]
    rw [e1] at c1
    by_cases e2 : validE b n = 0
    · rw [if_neg (by simp [e2])]
      rw [e2] at c2
      obtain ⟨m, rfl, h64, hu2⟩ := validE_zero e1
      obtain ⟨m', rfl, h64', hv2⟩ := validE_zero e2
      rw [Int.toNat_natCast]
      exact bConcat_ok a b (m + 1) (m' + 1) w (by omega) (by omega) h64 h64' hu2 hv2 c1 c2
    · rw [if_pos e2]
      exact bConcat_e2 a b v n _ w ((validE_vals b n).resolve_left e2) c1 c2
  · rw [if_pos e1]
    exact bConcat_e1 a b v n _ w ((validE_vals a v).resolve_left e1) c1

/-- Extract(a, n, hi, lo) -/
def extS (a : Nat) (n hi lo : Int) : Nat × Int :=
  if validE a n ≠ 0 then (0, validE a n) else if lo < 0 ∨ hi < lo ∨ n ≤ hi then (0, 1) else (a / 2 ^ lo.toNat % 2 ^ (hi + 1 - lo).toNat, 0)
set_option maxHeartbeats 2000000 in
theorem bExtract_e1 (a : Nat) (n hi lo x : Int) (w : World) (hx : x = 1 ∨ x = 5) (c : Calls Try.prog 14 #[.int .u64 a, .int .i64 n] w fun e w' => e = .returned (.int .i64 x) ∧ Below w.heap.size w w') :
    Calls Try.prog 24 #[.int .u64 a, .int .i64 n, .int .i64 hi, .int .i64 lo] w (Num2 w (0, x)) := by
  rcases hx with rfl | rfl
  all_goals
    go_enter Try.func24, Try.ntmps24
    go_wp2_with (go_at_call 14; refine c.mono ?_; clear c; rintro e w1 ⟨rfl, hb1⟩)
    go_ret2
    exact ⟨rfl, hb1⟩
set_option maxHeartbeats 2000000 in
theorem bExtract_bad (a : Nat) (n hi lo : Int) (w : World) (h : lo < 0 ∨ hi < lo ∨ n ≤ hi) (c : Calls Try.prog 14 #[.int .u64 a, .int .i64 n] w fun e w' => e = .returned (.int .i64 0) ∧ Below w.heap.size w w') :
    Calls Try.prog 24 #[.int .u64 a, .int .i64 n, .int .i64 hi, .int .i64 lo] w (Num2 w (0, 1)) := by
  by_cases h1 : lo < 0
  · clear h
    go_enter Try.func24, Try.ntmps24
    go_wp2_with (go_at_call 14; refine c.mono ?_; clear c; rintro e w1 ⟨rfl, hb1⟩)
    go_ret2
    exact ⟨rfl, hb1⟩
  · by_cases h2 : hi < lo
    · clear h
      go_enter Try.func24, Try.ntmps24
      go_wp2_with (go_at_call 14; refine c.mono ?_; clear c; rintro e w1 ⟨rfl, hb1⟩)
      go_ret2
      exact ⟨rfl, hb1⟩
    · have h3 : n ≤ hi := by omega
      clear h
      go_enter Try.func24, Try.ntmps24
      go_wp2_with (go_at_call 14; refine c.mono ?_; clear c; rintro e w1 ⟨rfl, hb1⟩)
      go_ret2
      exact ⟨rfl, hb1⟩
set_option maxHeartbeats 4000000 in
theorem bExtract_ok (a n q p : Nat) (w : World) (hpq : p ≤ q) (hqn : q < n) (h64 : n ≤ 64) (ha : a < 2 ^ n) (c : Calls Try.prog 14 #[.int .u64 a, .int .i64 n] w fun e w' => e = .returned (.int .i64 0) ∧ Below w.heap.size w w') :
    Calls Try.prog 24 #[.int .u64 a, .int .i64 n, .int .i64 q, .int .i64 p] w (Num2 w (a / 2 ^ p % 2 ^ (q + 1 - p), 0)) := by
  have hp := pow64 h64
  have cB : ∀ W, Calls Try.prog 32 #[.int .u64 a, .int .i64 n] W fun e w' => GivesB W.heap.size W (bitsL n a) e w' := fun W => bBits_any a n W (by omega) h64
  have hl1 := bitsL_length n a
  have ho1 := ofL_bitsL n a
  rw [Nat.mod_eq_of_lt ha] at ho1
  generalize bitsL n a = l at cB hl1 ho1
  have hv : ofL ((l.drop p).take (q + 1 - p)) = a / 2 ^ p % 2 ^ (q + 1 - p) := by rw [ofL_take, ofL_drop, ho1]
  have hvl : ((l.drop p).take (q + 1 - p)).length = q + 1 - p := by rw [List.length_take, List.length_drop, hl1]; omega
  have HV := Lib.hid hv
  have HVL := Lib.hid hvl
  have HL := Lib.hid hl1
  clear hv hvl hl1 ho1 ha hp
  go_enter Try.func24, Try.ntmps24
  go_wp2_with (first
    | (go_at_call 14; refine c.mono ?_; clear c; rintro e w1 ⟨rfl, hb1⟩)
    | (go_at_call 32; refine (cB w1).mono ?_; clear cB; rintro e w2 ⟨A, d, rfl, hrow, hb2⟩; rw [HL.out] at hrow ⊢; obtain ⟨g, rfl, _, _, _⟩ := own_block hrow (by omega); have hpart := (rdb_own hrow).part p (q + 1 - p); rw [Nat.zero_add] at hpart; have hcap := own_cap hrow; have hne : d ≠ p := (by omega))
    | (go_at_call 36; refine (bOf_any _ _ _ w2.heap.size ((l.drop p).take (q + 1 - p)) w2 HVL.out.symm (by rw [HVL.out]; omega) hpart).mono ?_; rintro e w3 ⟨rfl, rfl⟩; rw [HV.out]))
  go_ret2
  exact ⟨rfl, hb1.trans (hb2.mono hb1.size)⟩
theorem bExtract_any (a : Nat) (n hi lo : Int) (w : World) (ha : a < 18446744073709551616) :
    Calls Try.prog 24 #[.int .u64 a, .int .i64 n, .int .i64 hi, .int .i64 lo] w (Num2 w (extS a n hi lo)) := by
  unfold extS
  have c1 := bValid_any a n w ha
  by_cases e1 : validE a n = 0
  · rw [if_neg (by simp [e1])]
    rw [e1] at c1
    by_cases h : lo < 0 ∨ hi < lo ∨ n ≤ hi
    · rw [if_pos h]
      exact bExtract_bad a n hi lo w h c1
    · rw [if_neg h]
      obtain ⟨m, rfl, h64, hu2⟩ := validE_zero e1
      obtain ⟨p, rfl⟩ : ∃ p : Nat, lo = p := ⟨lo.toNat, by omega⟩
      obtain ⟨q, rfl⟩ : ∃ q : Nat, hi = q := ⟨hi.toNat, by omega⟩
      have e : ((q : Int) + 1 - p).toNat = q + 1 - p := by omega
      rw [e, Int.toNat_natCast]
      exact bExtract_ok a (m + 1) q p w (by omega) (by omega) h64 hu2 c1
  · rw [if_pos e1]
    exact bExtract_e1 a n hi lo _ w ((validE_vals a n).resolve_left e1) c1
end Go.Proofs.Ytcpjchfgiogmeaa
