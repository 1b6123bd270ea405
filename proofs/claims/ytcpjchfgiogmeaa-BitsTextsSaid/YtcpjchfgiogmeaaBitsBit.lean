/-
  THE WALKS of the reference's binary, further: Slt, And, Or (made by gen/genbin2.py).
-/
import Derived.Test.YtcpjchfgiogmeaaBitsBin
namespace Go.Proofs.Ytcpjchfgiogmeaa
open Go.RowKit

set_option maxRecDepth 100000 in
set_option maxHeartbeats 2000000 in
theorem bbin_slt (A1 A2 : Option Addr) (m c1 c2 : Nat) (a b : List Bool) (w : World) (ha : a.length = m + 1) (hb : b.length = m + 1) (h64 : m + 1 ≤ 64) (hr1 : RdB w w.heap.size A1 a) (hr2 : RdB w w.heap.size A2 b) :
    Calls Try.prog 39 #[.int .i64 17, .slice A1 (m + 1) c1, .slice A2 (m + 1) c2] w (GetsB w [if a[m]?.getD false != b[m]?.getD false then a[m]?.getD false else decide (ofL a < ofL b)]) := by
  obtain ⟨p, o, hi, rfl, hp, hhi, hcell⟩ := last_bit ha hr1
  obtain ⟨q, o2, hj, rfl, hq, hhj, hcell2⟩ := last_bit hb hr2
  have HC := bless_any (some ⟨p, o, none⟩) (some ⟨q, o2, none⟩) (m + 1) c1 (m + 1) c2 a b w ha.symm hb.symm (by rw [ha, hb]) (by omega) hr1 hr2
  have HE := Lib.hid (show a[m]?.getD false = hi by rw [hhi]; rfl)
  have HE2 := Lib.hid (show b[m]?.getD false = hj by rw [hhj]; rfl)
  generalize decide (ofL a < ofL b) = x at HC ⊢
  have HX : Calls Try.prog 39 #[.int .i64 17, .slice (some ⟨p, o, none⟩) (m + 1) c1, .slice (some ⟨q, o2, none⟩) (m + 1) c2] w (GetsB w [if hi != hj then hi else x]) := by
    clear hr1 hr2 ha hb hhi hhj HE HE2
    cases hi <;> cases hj
    all_goals
      go_enter Try.func39, Try.ntmps39
      go_wp2_with (first
        | (go_at_call 51; refine HC.mono ?_; clear HC; rintro e w1 ⟨rfl, hb1⟩)
        | (go_at_call 50; refine (bone_any _ w1).mono ?_; rintro e w2 ⟨A, c, rfl, hrow, hb2⟩)
        | (go_at_call 50; refine (bone_any _ w).mono ?_; rintro e w2 ⟨A, c, rfl, hrow, hb2⟩))
      go_ret
      first
        | exact gets_b rfl hb1 hrow hb2
        | exact gets_b rfl (Below.refl _ _) hrow hb2
  rw [HE.out, HE2.out]
  exact HX

set_option maxRecDepth 100000 in
set_option maxHeartbeats 2000000 in
theorem bbin_and (A1 A2 : Option Addr) (m c1 c2 : Nat) (a b : List Bool) (w : World) (ha : a.length = m + 1) (hb : b.length = m + 1) (h64 : m + 1 ≤ 64) (hr1 : RdB w w.heap.size A1 a) (hr2 : RdB w w.heap.size A2 b) :
    Calls Try.prog 39 #[.int .i64 6, .slice A1 (m + 1) c1, .slice A2 (m + 1) c2] w (GetsB w (List.zipWith (· && ·) a b)) := by
  obtain ⟨p, o, hi, rfl, hp, hhi, hcell⟩ := last_bit ha hr1
  obtain ⟨q, o2, hj, rfl, hq, hhj, hcell2⟩ := last_bit hb hr2
  obtain ⟨i0, hi, hz0, hz1, hz2⟩ := info_parts info_bool
  have HA := Lib.hid ha
  have HB := Lib.hid hb
  have HL := Lib.hid (show (List.zipWith (· && ·) a b).length = m + 1 by rw [List.length_zipWith, ha, hb, Nat.min_self])
  have HR1 := Lib.hid hr1
  have HR2 := Lib.hid hr2
  clear hr1 hr2 ha hb hhi hhj hcell2
  go_enter Try.func39, Try.ntmps39
  go_wp2
  go_loopw [9, 14] (fun v i wr => ∃ k : Nat, k ≤ m + 1 ∧ i = .int .i64 k ∧ wr.ownsRow w.heap.size 4 1 v k (((List.zipWith (· && ·) a b).take k).map Value.bool) ∧ Below w.heap.size w wr) (fun _ i _ => m + 1 - (intOf i).toNat)
  case atStart => exact ⟨0, Nat.zero_le _, rfl, World.ownsRow_nil _ _ _ _, Below.refl _ _⟩
  case round =>
    clear hcell
    obtain ⟨k, hk, rfl, hrow, hW⟩ := hrel
    have hsz := hW.size
    by_cases h : k < m + 1
    · have hka : k < a.length := by rw [HA.out]; exact h
      have hkb : k < b.length := by rw [HB.out]; exact h
      obtain ⟨p', o', e1, hb1, hc1⟩ := (HR1.out.below hW).at_ hka
      cases e1
      obtain ⟨q', o2', e2, hb2, hc2⟩ := (HR2.out.below hW).at_ hkb
      cases e2
      have hck1 := hc1 k hka
      have hck2 := hc2 k hkb
      rw [List.getElem?_eq_getElem hka, Option.getD_some] at hck1
      rw [List.getElem?_eq_getElem hkb, Option.getD_some] at hck2
      have HT := Lib.hid (show ((List.zipWith (· && ·) a b).take (k + 1)).map Value.bool = ((List.zipWith (· && ·) a b).take k).map Value.bool ++ [.bool (a[k] && b[k])] by
        rw [List.take_succ_eq_append_getElem (by rw [HL.out]; exact h), List.map_append]
        simp)
      have hbw : p < wr.heap.size := by omega
      have hbw2 : q < wr.heap.size := by omega
      clear hc1 hc2
      generalize a[k] = x at hck1 HT
      generalize b[k] = y at hck2 HT
      cases x <;> cases y
      all_goals
        go_wp2_with (at_builtin; refine wpList_append_own _ rfl (.tmp 126) (.tmp 137) 52 rfl w.heap.size 4 i0 (.bool false) 1 1 Try.underlying52 hi hz0 hz1 hz2 rfl (by decide) _ k _ rfl (hrow.alloc _) ⟨wr.heap.size, 0, none⟩ 1 1 [.bool _] rfl rfl (cell_one_new _ _ _) (by simp [Value.oneCell']) (by unfold maxLen; omega) (by omega) (by simp; omega) ?_; intro v' w2 hown' hgrow _)
        go_roundw
        case rel => exact ⟨k + 1, by omega, by congr 1 <;> omega, by rw [HT.out]; exact hown', (hW.alloc hsz _).grown hgrow (by simp; omega) (fun j ej => (hrow.lt j ej).1)⟩
        case measure => simp [intOf]; omega
    · go_wp2
      go_ret
      obtain rfl : k = m + 1 := by omega
      obtain ⟨A, c, hv, hrow2, hb2⟩ := gives_b (l := List.zipWith (· && ·) a b) (by rw [List.take_of_length_le (by rw [HL.out]; exact Nat.le_refl _)]) HL.out.symm hrow hW
      exact ⟨A, c, hv, rdb_own hrow2, hb2⟩

set_option maxRecDepth 100000 in
set_option maxHeartbeats 2000000 in
theorem bbin_or (A1 A2 : Option Addr) (m c1 c2 : Nat) (a b : List Bool) (w : World) (ha : a.length = m + 1) (hb : b.length = m + 1) (h64 : m + 1 ≤ 64) (hr1 : RdB w w.heap.size A1 a) (hr2 : RdB w w.heap.size A2 b) :
    Calls Try.prog 39 #[.int .i64 7, .slice A1 (m + 1) c1, .slice A2 (m + 1) c2] w (GetsB w (List.zipWith (· || ·) a b)) := by
  obtain ⟨p, o, hi, rfl, hp, hhi, hcell⟩ := last_bit ha hr1
  obtain ⟨q, o2, hj, rfl, hq, hhj, hcell2⟩ := last_bit hb hr2
  obtain ⟨i0, hi, hz0, hz1, hz2⟩ := info_parts info_bool
  have HA := Lib.hid ha
  have HB := Lib.hid hb
  have HL := Lib.hid (show (List.zipWith (· || ·) a b).length = m + 1 by rw [List.length_zipWith, ha, hb, Nat.min_self])
  have HR1 := Lib.hid hr1
  have HR2 := Lib.hid hr2
  clear hr1 hr2 ha hb hhi hhj hcell2
  go_enter Try.func39, Try.ntmps39
  go_wp2
  go_loopw [9, 14] (fun v i wr => ∃ k : Nat, k ≤ m + 1 ∧ i = .int .i64 k ∧ wr.ownsRow w.heap.size 4 1 v k (((List.zipWith (· || ·) a b).take k).map Value.bool) ∧ Below w.heap.size w wr) (fun _ i _ => m + 1 - (intOf i).toNat)
  case atStart => exact ⟨0, Nat.zero_le _, rfl, World.ownsRow_nil _ _ _ _, Below.refl _ _⟩
  case round =>
    clear hcell
    obtain ⟨k, hk, rfl, hrow, hW⟩ := hrel
    have hsz := hW.size
    by_cases h : k < m + 1
    · have hka : k < a.length := by rw [HA.out]; exact h
      have hkb : k < b.length := by rw [HB.out]; exact h
      obtain ⟨p', o', e1, hb1, hc1⟩ := (HR1.out.below hW).at_ hka
      cases e1
      obtain ⟨q', o2', e2, hb2, hc2⟩ := (HR2.out.below hW).at_ hkb
      cases e2
      have hck1 := hc1 k hka
      have hck2 := hc2 k hkb
      rw [List.getElem?_eq_getElem hka, Option.getD_some] at hck1
      rw [List.getElem?_eq_getElem hkb, Option.getD_some] at hck2
      have HT := Lib.hid (show ((List.zipWith (· || ·) a b).take (k + 1)).map Value.bool = ((List.zipWith (· || ·) a b).take k).map Value.bool ++ [.bool (a[k] || b[k])] by
        rw [List.take_succ_eq_append_getElem (by rw [HL.out]; exact h), List.map_append]
        simp)
      have hbw : p < wr.heap.size := by omega
      have hbw2 : q < wr.heap.size := by omega
      clear hc1 hc2
      generalize a[k] = x at hck1 HT
      generalize b[k] = y at hck2 HT
      cases x <;> cases y
      all_goals
        go_wp2_with (at_builtin; refine wpList_append_own _ rfl (.tmp 141) (.tmp 152) 52 rfl w.heap.size 4 i0 (.bool false) 1 1 Try.underlying52 hi hz0 hz1 hz2 rfl (by decide) _ k _ rfl (hrow.alloc _) ⟨wr.heap.size, 0, none⟩ 1 1 [.bool _] rfl rfl (cell_one_new _ _ _) (by simp [Value.oneCell']) (by unfold maxLen; omega) (by omega) (by simp; omega) ?_; intro v' w2 hown' hgrow _)
        go_roundw
        case rel => exact ⟨k + 1, by omega, by congr 1 <;> omega, by rw [HT.out]; exact hown', (hW.alloc hsz _).grown hgrow (by simp; omega) (fun j ej => (hrow.lt j ej).1)⟩
        case measure => simp [intOf]; omega
    · go_wp2
      go_ret
      obtain rfl : k = m + 1 := by omega
      obtain ⟨A, c, hv, hrow2, hb2⟩ := gives_b (l := List.zipWith (· || ·) a b) (by rw [List.take_of_length_le (by rw [HL.out]; exact Nat.le_refl _)]) HL.out.symm hrow hW
      exact ⟨A, c, hv, rdb_own hrow2, hb2⟩
end Go.Proofs.Ytcpjchfgiogmeaa
