/-
  THE WALKS of the reference's binary, further: Eq, Xor.
-/
import Derived.Test.YtcpjchfgiogmeaaBitsBit
import Derived.Deep.RegionLaw
import Derived.Deep.AppendLies
namespace Go.Proofs.Ytcpjchfgiogmeaa
open Go.RowKit

set_option maxRecDepth 100000 in
set_option maxHeartbeats 2000000 in
theorem bbin_eq (A1 A2 : Option Addr) (m c1 c2 : Nat) (a b : List Bool) (w : World) (ha : a.length = m + 1) (hb : b.length = m + 1) (h64 : m + 1 ≤ 64) (hr1 : RdB w w.heap.size A1 a) (hr2 : RdB w w.heap.size A2 b) :
    Calls Try.prog 39 #[.int .i64 18, .slice A1 (m + 1) c1, .slice A2 (m + 1) c2] w (GetsB w [decide (ofL a = ofL b)]) := by
  obtain ⟨p, o, hi, rfl, hp, hhi, hcell⟩ := last_bit ha hr1
  have HC := bless_any (some ⟨p, o, none⟩) A2 (m + 1) c1 (m + 1) c2 a b w ha.symm hb.symm (by rw [ha, hb]) (by omega) hr1 hr2
  have HD : ∀ W, Below w.heap.size w W → Calls Try.prog 51 #[.slice A2 (m + 1) c2, .slice (some ⟨p, o, none⟩) (m + 1) c1] W fun e w' => e = .returned (.bool (decide (ofL b < ofL a))) ∧ Below W.heap.size W w' := fun W hB =>
    bless_any A2 (some ⟨p, o, none⟩) (m + 1) c2 (m + 1) c1 b a W hb.symm ha.symm (by rw [ha, hb]) (by omega) ((hr2.below hB).mono hB.size) ((hr1.below hB).mono hB.size)
  clear hr1 hr2 ha hb
  by_cases h1 : ofL a < ofL b
  · rw [decide_eq_true h1] at HC
    rw [decide_eq_false (by omega)]
    go_enter Try.func39, Try.ntmps39
    go_wp2_with (first
      | (go_at_call 51; refine HC.mono ?_; clear HC; rintro e w1 ⟨rfl, hb1⟩)
      | (go_at_call 50; refine (bone_any _ w1).mono ?_; rintro e w2 ⟨A, c, rfl, hrow, hb2⟩))
    go_ret
    exact gets_b rfl hb1 hrow hb2
  · rw [decide_eq_false h1] at HC
    by_cases h2 : ofL b < ofL a
    · rw [decide_eq_true h2] at HD
      rw [decide_eq_false (by omega)]
      go_enter Try.func39, Try.ntmps39
      go_wp2_with (first
        | (go_at_call 51; refine HC.mono ?_; clear HC; rintro e w1 ⟨rfl, hb1⟩)
        | (go_at_call 51; refine (HD w1 hb1).mono ?_; clear HD; rintro e w2 ⟨rfl, hb2⟩)
        | (go_at_call 50; refine (bone_any _ w2).mono ?_; rintro e w3 ⟨A, c, rfl, hrow, hb3⟩))
      go_ret
      exact gets_b rfl (hb1.trans (hb2.mono hb1.size)) hrow hb3
    · rw [decide_eq_false h2] at HD
      rw [decide_eq_true (by omega)]
      go_enter Try.func39, Try.ntmps39
      go_wp2_with (first
        | (go_at_call 51; refine HC.mono ?_; clear HC; rintro e w1 ⟨rfl, hb1⟩)
        | (go_at_call 51; refine (HD w1 hb1).mono ?_; clear HD; rintro e w2 ⟨rfl, hb2⟩)
        | (go_at_call 50; refine (bone_any _ w2).mono ?_; rintro e w3 ⟨A, c, rfl, hrow, hb3⟩))
      go_ret
      exact gets_b rfl (hb1.trans (hb2.mono hb1.size)) hrow hb3

set_option maxRecDepth 100000 in
set_option maxHeartbeats 2000000 in
theorem bbin_xor (A1 A2 : Option Addr) (m c1 c2 : Nat) (a b : List Bool) (w : World) (ha : a.length = m + 1) (hb : b.length = m + 1) (h64 : m + 1 ≤ 64) (hr1 : RdB w w.heap.size A1 a) (hr2 : RdB w w.heap.size A2 b) :
    Calls Try.prog 39 #[.int .i64 8, .slice A1 (m + 1) c1, .slice A2 (m + 1) c2] w (GetsB w (List.zipWith (· != ·) a b)) := by
  obtain ⟨p, o, hi, rfl, hp, hhi, hcell⟩ := last_bit ha hr1
  obtain ⟨q, o2, hj, rfl, hq, hhj, hcell2⟩ := last_bit hb hr2
  obtain ⟨i0, hi, hz0, hz1, hz2⟩ := info_parts info_bool
  have HA := Lib.hid ha
  have HB := Lib.hid hb
  have HL := Lib.hid (show (List.zipWith (· != ·) a b).length = m + 1 by rw [List.length_zipWith, ha, hb, Nat.min_self])
  have HR1 := Lib.hid hr1
  have HR2 := Lib.hid hr2
  clear hr1 hr2 ha hb hhi hhj hcell2
  go_enter Try.func39, Try.ntmps39
  go_wp2
  go_loopw [9, 14] (fun v i wr => ∃ (k : Nat) (vv : Value), k ≤ m + 1 ∧ i = .int .i64 k ∧ vv = v ∧ wr.ownsRow w.heap.size 4 1 vv k (((List.zipWith (· != ·) a b).take k).map Value.bool) ∧ Below w.heap.size w wr) (fun _ i _ => m + 1 - (intOf i).toNat)
  case atStart => exact ⟨0, _, Nat.zero_le _, rfl, rfl, World.ownsRow_nil _ _ _ _, Below.refl _ _⟩
  case round =>
    clear hcell
    obtain ⟨k, vv, hk, rfl, rfl, hrow, hW⟩ := hrel
    have hsz := hW.size
    by_cases h : k < m + 1
    · have hka : k < a.length := by rw [HA.out]; exact h
      have hkb : k < b.length := by rw [HB.out]; exact h
      obtain ⟨p', o', e1, hb1, hc1⟩ := (HR1.out.below hW).at_ hka
      cases e1
      obtain ⟨q', o2', e2, hb2, hc2⟩ := (HR2.out.below hW).at_ hkb
      cases e2
      have hck1 := hc1 k hka
      have hck2 := hc2 k hkb
      rw [List.getElem?_eq_getElem hka, Option.getD_some] at hck1
      rw [List.getElem?_eq_getElem hkb, Option.getD_some] at hck2
      have HT := Lib.hid (show ((List.zipWith (· != ·) a b).take (k + 1)).map Value.bool = ((List.zipWith (· != ·) a b).take k).map Value.bool ++ [.bool (a[k] != b[k])] by
        rw [List.take_succ_eq_append_getElem (by rw [HL.out]; exact h), List.map_append]
        simp)
      have hbw : p < wr.heap.size := by omega
      have hbw2 : q < wr.heap.size := by omega
      clear hc1 hc2
      generalize a[k] = x at hck1 HT
      generalize b[k] = y at hck2 HT
      go_wp2
      go_region_law ((refine step_append_lies _ (by rfl) _ _ _ (by rfl) w.heap.size 4 i0 (.bool false) 1 1 Try.underlying52 hi hz0 hz1 hz2 rfl (by decide) vv k (((List.zipWith (· != ·) a b).take k).map Value.bool) (by rfl) ((hrow.alloc _).drew) ⟨wr.heap.size, 0, none⟩ 1 1 [.bool (x != y)] (by rfl) (by rfl) (World.news_of_block (cs := #[.bool (x != y)]) (t := 4) (fr := (0, 0)) (heap_alloc_new wr _)) (by simp [Value.oneCell']) (by decide) (by unfold maxLen; omega) (by omega) (by simp; omega) (wr.heap.size + 1) (by simp) ?_; intro g' cap' w5 hown5 hgrow5 hat5 hlt5))
      all_goals
        go_wp2
        go_roundw
        case rel => exact ⟨k + 1, _, by omega, by congr 1 <;> omega, rfl, by rw [HT.out]; exact hown5, ((hW.alloc hsz _).drew).grown hgrow5 (by simp; omega) (fun j ej => (hrow.lt j ej).1)⟩
        case measure => simp [intOf]; omega
    · go_wp2
      go_ret
      obtain rfl : k = m + 1 := by omega
      obtain ⟨A, c, hv, hrow2, hb2⟩ := gives_b (l := List.zipWith (· != ·) a b) (by rw [List.take_of_length_le (by rw [HL.out]; exact Nat.le_refl _)]) HL.out.symm hrow hW
      exact ⟨A, c, hv, rdb_own hrow2, hb2⟩
end Go.Proofs.Ytcpjchfgiogmeaa
