/-
  THE WALK of the reference's Extend.
-/
import Derived.Test.YtcpjchfgiogmeaaBitsCut
namespace Go.Proofs.Ytcpjchfgiogmeaa
open Go.RowKit

/-- Extend(a, n, more, signed) -/
def exdS (a : Nat) (n more : Int) (sg : Bool) : Nat × Int :=
  if validE a n ≠ 0 then (0, validE a n) else if more < 1 ∨ 64 - n < more then (0, 1) else (a + 2 ^ n.toNat * ((sg && hiN n.toNat a).toNat * (2 ^ more.toNat - 1)), 0)
set_option maxHeartbeats 2000000 in
theorem bExtend_e1 (a : Nat) (n more x : Int) (sg : Bool) (w : World) (hx : x = 1 ∨ x = 5) (c : Calls Try.prog 14 #[.int .u64 a, .int .i64 n] w fun e w' => e = .returned (.int .i64 x) ∧ Below w.heap.size w w') :
    Calls Try.prog 26 #[.int .u64 a, .int .i64 n, .int .i64 more, .bool sg] w (Num2 w (0, x)) := by
  rcases hx with rfl | rfl
  all_goals
    go_enter Try.func26, Try.ntmps26
    go_wp2_with (go_at_call 14; refine c.mono ?_; clear c; rintro e w1 ⟨rfl, hb1⟩)
    go_ret2
    exact ⟨rfl, hb1⟩
set_option maxHeartbeats 2000000 in
theorem bExtend_bad (a n : Nat) (more : Int) (sg : Bool) (w : World) (hn : 1 ≤ n) (hn64 : n ≤ 64) (h : more < 1 ∨ 64 - (n : Int) < more) (c : Calls Try.prog 14 #[.int .u64 a, .int .i64 n] w fun e w' => e = .returned (.int .i64 0) ∧ Below w.heap.size w w') :
    Calls Try.prog 26 #[.int .u64 a, .int .i64 n, .int .i64 more, .bool sg] w (Num2 w (0, 1)) := by
  by_cases h1 : more < 1
  · clear h
    go_enter Try.func26, Try.ntmps26
    go_wp2_with (go_at_call 14; refine c.mono ?_; clear c; rintro e w1 ⟨rfl, hb1⟩)
    go_ret2
    exact ⟨rfl, hb1⟩
  · have h2 : 64 - (n : Int) < more := by omega
    clear h
    go_enter Try.func26, Try.ntmps26
    go_wp2_with (go_at_call 14; refine c.mono ?_; clear c; rintro e w1 ⟨rfl, hb1⟩)
    go_ret2
    exact ⟨rfl, hb1⟩
set_option maxHeartbeats 4000000 in
theorem bExtend_ok (a m more : Nat) (sg : Bool) (w : World) (hm1 : 1 ≤ more) (h64 : m + 1 + more ≤ 64) (ha : a < 2 ^ (m + 1)) (c : Calls Try.prog 14 #[.int .u64 a, .int .i64 (m + 1 : Nat)] w fun e w' => e = .returned (.int .i64 0) ∧ Below w.heap.size w w') :
    Calls Try.prog 26 #[.int .u64 a, .int .i64 (m + 1 : Nat), .int .i64 more, .bool sg] w (Num2 w (a + 2 ^ (m + 1) * ((sg && hiN (m + 1) a).toNat * (2 ^ more - 1)), 0)) := by
  have hp := pow64 (n := m + 1) (by omega)
  obtain ⟨i0, hi, hz0, hz1, hz2⟩ := info_parts info_bool
  have cB : ∀ W, Calls Try.prog 32 #[.int .u64 a, .int .i64 (m + 1 : Nat)] W fun e w' => GivesB W.heap.size W (bitsL (m + 1) a) e w' := fun W => bBits_any a (m + 1) W (by omega) (by omega)
  have hl1 := bitsL_length (m + 1) a
  have ho1 := ofL_bitsL (m + 1) a
  rw [Nat.mod_eq_of_lt ha] at ho1
  generalize bitsL (m + 1) a = l at cB hl1 ho1
  have hh := hiN_bit hl1
  rw [ho1] at hh
  have hv : ∀ y, ofL (l ++ List.replicate more y) = a + 2 ^ (m + 1) * (y.toNat * (2 ^ more - 1)) := fun y => by rw [ofL_append, ofL_replicate, hl1, ho1]
  rw [← hh]
  obtain ⟨x, hx⟩ : ∃ x, l[m]? = some x := ⟨_, List.getElem?_eq_getElem (by omega)⟩
  rw [show l[m]?.getD false = x by rw [hx]; rfl, ← hv]
  have HX := Lib.hid hx
  have HL := Lib.hid hl1
  have HC : Hid (∀ (W : World) (g : Nat), RdB W W.heap.size (some ⟨g, 0, none⟩) l → W.cell? ⟨g, m, none⟩ = some (.bool x)) := Lib.hid (fun W g hr => by
    obtain ⟨p, o, y, e, _, hy, hc⟩ := last_bit hl1 hr
    cases e
    rw [hx] at hy
    cases hy
    rwa [Nat.zero_add] at hc)
  clear hh hv hx hl1 ho1 ha hp
  cases sg
  · simp only [Bool.false_and]
    go_enter Try.func26, Try.ntmps26
    go_wp2_with (first
      | (go_at_call 14; refine c.mono ?_; clear c; rintro e w1 ⟨rfl, hb1⟩)
      | (go_at_call 32; refine (cB w1).mono ?_; clear cB; rintro e w2 ⟨A, d, rfl, hrow, hb2⟩; rw [HL.out] at hrow ⊢; obtain ⟨g, rfl, _, _, _⟩ := own_block hrow (by omega); have hcell := HC.out w2 g (rdb_own hrow)))
    have hb12 := hb1.trans (hb2.mono hb1.size)
    have s1 := hb1.size
    have hlw : w1.heap.size ≤ w2.heap.size := hb2.size
    go_loopw [11, 13] (fun v i wr => ∃ k : Nat, k ≤ more ∧ i = .int .i64 k ∧ wr.ownsRow w1.heap.size 4 1 v (m + 1 + k) ((l ++ List.replicate k false).map Value.bool) ∧ Below w.heap.size w wr ∧ w1.heap.size ≤ wr.heap.size) (fun _ i _ => more - (intOf i).toNat)
    case atStart => exact ⟨0, Nat.zero_le _, rfl, by rw [List.replicate_zero, List.append_nil]; exact hrow, hb12, hlw⟩
    case round =>
      clear hcell hb12 hrow hb1 hb2 hlw
      obtain ⟨k, hk, rfl, hr, hW, hs⟩ := hrel
      have hsz := hW.size
      by_cases h : k < more
      · go_wp2_with (at_builtin; refine wpList_append_own _ rfl (.tmp 44) (.tmp 46) 52 rfl w1.heap.size 4 i0 (.bool false) 1 1 Try.underlying52 hi hz0 hz1 hz2 rfl (by decide) _ (m + 1 + k) _ rfl (hr.alloc _) ⟨wr.heap.size, 0, none⟩ 1 1 [.bool false] rfl rfl (cell_one_new _ _ _) (by simp [Value.oneCell']) (by unfold maxLen; omega) (by omega) (by simp; omega) ?_; intro v' w3 hown' hgrow _)
        have s3 := hgrow.size
        go_roundw
        case rel => exact ⟨k + 1, by omega, by congr 1 <;> omega, by rw [List.replicate_succ', ← List.append_assoc, List.map_append]; exact hown', (hW.alloc hsz _).grown hgrow (by simp; omega) (fun j ej => by have := (hr.lt j ej).1; omega), by simp at s3; omega⟩
        case measure => simp [intOf]; omega
      · obtain rfl : k = more := by omega
        have hll : Hid ((l ++ List.replicate k false).length = m + 1 + k) := Lib.hid (by rw [List.length_append, HL.out, List.length_replicate])
        obtain ⟨A, d', rfl⟩ := sl_own hr
        have hrr := rdb_own hr
        go_wp2_with (go_at_call 36; refine (bOf_at hll.out h64 wr A d' hrr).mono ?_; rintro e w7 ⟨rfl, rfl⟩)
        go_ret2
        exact ⟨rfl, hW⟩
  · simp only [Bool.true_and]
    go_enter Try.func26, Try.ntmps26
    go_wp2_with (first
      | (go_at_call 14; refine c.mono ?_; clear c; rintro e w1 ⟨rfl, hb1⟩)
      | (go_at_call 32; refine (cB w1).mono ?_; clear cB; rintro e w2 ⟨A, d, rfl, hrow, hb2⟩; rw [HL.out] at hrow ⊢; obtain ⟨g, rfl, _, _, _⟩ := own_block hrow (by omega); have hcell := HC.out w2 g (rdb_own hrow)))
    have hb12 := hb1.trans (hb2.mono hb1.size)
    have s1 := hb1.size
    have hlw : w1.heap.size ≤ w2.heap.size := hb2.size
    go_loopw [11, 13] (fun v i wr => ∃ k : Nat, k ≤ more ∧ i = .int .i64 k ∧ wr.ownsRow w1.heap.size 4 1 v (m + 1 + k) ((l ++ List.replicate k x).map Value.bool) ∧ Below w.heap.size w wr ∧ w1.heap.size ≤ wr.heap.size) (fun _ i _ => more - (intOf i).toNat)
    case atStart => exact ⟨0, Nat.zero_le _, rfl, by rw [List.replicate_zero, List.append_nil]; exact hrow, hb12, hlw⟩
    case round =>
      clear hcell hb12 hrow hb1 hb2 hlw
      obtain ⟨k, hk, rfl, hr, hW, hs⟩ := hrel
      have hsz := hW.size
      by_cases h : k < more
      · go_wp2_with (at_builtin; refine wpList_append_own _ rfl (.tmp 44) (.tmp 46) 52 rfl w1.heap.size 4 i0 (.bool false) 1 1 Try.underlying52 hi hz0 hz1 hz2 rfl (by decide) _ (m + 1 + k) _ rfl (hr.alloc _) ⟨wr.heap.size, 0, none⟩ 1 1 [.bool x] rfl rfl (cell_one_new _ _ _) (by simp [Value.oneCell']) (by unfold maxLen; omega) (by omega) (by simp; omega) ?_; intro v' w3 hown' hgrow _)
        have s3 := hgrow.size
        go_roundw
        case rel => exact ⟨k + 1, by omega, by congr 1 <;> omega, by rw [List.replicate_succ', ← List.append_assoc, List.map_append]; exact hown', (hW.alloc hsz _).grown hgrow (by simp; omega) (fun j ej => by have := (hr.lt j ej).1; omega), by simp at s3; omega⟩
        case measure => simp [intOf]; omega
      · obtain rfl : k = more := by omega
        have hll : Hid ((l ++ List.replicate k x).length = m + 1 + k) := Lib.hid (by rw [List.length_append, HL.out, List.length_replicate])
        obtain ⟨A, d', rfl⟩ := sl_own hr
        have hrr := rdb_own hr
        go_wp2_with (go_at_call 36; refine (bOf_at hll.out h64 wr A d' hrr).mono ?_; rintro e w7 ⟨rfl, rfl⟩)
        go_ret2
        exact ⟨rfl, hW⟩
theorem bExtend_any (a : Nat) (n more : Int) (sg : Bool) (w : World) (ha : a < 18446744073709551616) :
    Calls Try.prog 26 #[.int .u64 a, .int .i64 n, .int .i64 more, .bool sg] w (Num2 w (exdS a n more sg)) := by
  unfold exdS
  have c1 := bValid_any a n w ha
  by_cases e1 : validE a n = 0
  · rw [if_neg (by simp [e1])]
    rw [e1] at c1
    obtain ⟨m, rfl, h64, hu2⟩ := validE_zero e1
    by_cases h : more < 1 ∨ 64 - ((m + 1 : Nat) : Int) < more
    · rw [if_pos h]
      exact bExtend_bad a (m + 1) more sg w (by omega) h64 h c1
    · rw [if_neg h]
      obtain ⟨q, rfl⟩ : ∃ q : Nat, more = q := ⟨more.toNat, by omega⟩
      rw [Int.toNat_natCast, Int.toNat_natCast]
      exact bExtend_ok a m q sg w (by omega) (by omega) hu2 c1
  · rw [if_pos e1]
    exact bExtend_e1 a n more _ sg w ((validE_vals a n).resolve_left e1) c1
end Go.Proofs.Ytcpjchfgiogmeaa
