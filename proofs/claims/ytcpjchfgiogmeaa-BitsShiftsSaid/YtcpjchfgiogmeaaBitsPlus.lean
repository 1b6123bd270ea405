/-
  THE WALKS of the reference's bit lists, further: plus, moved.
-/
import Derived.Test.YtcpjchfgiogmeaaBitsRef
namespace Go.Proofs.Ytcpjchfgiogmeaa
open Go.RowKit

set_option maxHeartbeats 2000000 in
theorem bplus_any (A1 A2 : Option Addr) (n1 c1 n2 c2 : Nat) (a b : List Bool) (cy : Bool) (w : World) (hn1 : n1 = a.length) (hn2 : n2 = b.length) (hab : a.length = b.length) (h64 : a.length ≤ 65) (hr1 : RdB w w.heap.size A1 a) (hr2 : RdB w w.heap.size A2 b) :
    Calls Try.prog 40 #[.slice A1 n1 c1, .slice A2 n2 c2, .bool cy] w fun e w' => GivesB w.heap.size w (plusL a b cy) e w' := by
  subst hn1 hn2
  obtain ⟨i0, hi, hz0, hz1, hz2⟩ := info_parts info_bool
  have HL := Lib.hid (plusL_length a b cy hab)
  have HAB := Lib.hid hab
  clear hab
  go_enter Try.func40, Try.ntmps40
  go_wp2
  go_loopw [2, 7, 8] (fun y v i wr => ∃ (k : Nat) (pre : List Bool) (cc : Bool), k ≤ a.length ∧ i = .int .i64 k ∧ y = .bool cc ∧ pre.length = k ∧ Hid (pre ++ plusL (a.drop k) (b.drop k) cc = plusL a b cy) ∧ wr.ownsRow w.heap.size 4 1 v k (pre.map Value.bool) ∧ Below w.heap.size w wr) (fun _ _ i _ => a.length - (intOf i).toNat)
  case atStart => exact ⟨0, [], cy, Nat.zero_le _, rfl, rfl, rfl, Lib.hid rfl, World.ownsRow_nil _ _ _ _, Below.refl _ _⟩
  case round =>
    obtain ⟨k, pre, cc, hk, rfl, rfl, hpl, hp, hrow, hW⟩ := hrel
    have hsz := hW.size
    by_cases h : k < a.length
    · have h2 : k < b.length := HAB.out ▸ h
      obtain ⟨p, o, rfl, hb, hc⟩ := hr1.at_ h
      obtain ⟨q, o2, rfl, hb2, hc2⟩ := hr2.at_ h2
      have h0 := hc k h
      have h02 := hc2 k h2
      rw [List.getElem?_eq_getElem h, Option.getD_some] at h0
      rw [List.getElem?_eq_getElem h2, Option.getD_some] at h02
      have hck := (hW.cell (p := ⟨p, o + k, none⟩) hb).trans h0
      have hck2 := (hW.cell (p := ⟨q, o2 + k, none⟩) hb2).trans h02
      have H0 := Lib.hid h0
      have H02 := Lib.hid h02
      clear h0 h02
      have hbw : p < wr.heap.size := by omega
      have hbw2 : q < wr.heap.size := by omega
      have HP : Hid ((pre ++ [(a[k] != b[k]) != cc]) ++ plusL (a.drop (k + 1)) (b.drop (k + 1)) (a[k] && b[k] || (a[k] != b[k]) && cc) = plusL a b cy) := Lib.hid (by
        have e := hp.out
        rw [drop_cons h, drop_cons h2, plusL] at e
        rw [List.append_assoc]
        exact e)
      clear hc hc2 hp
      generalize a[k] = x at hck HP H0
      generalize b[k] = y at hck2 HP H02
      cases x <;> cases y <;> cases cc
      all_goals
        simp only [bne_self_eq_false, Bool.false_bne, Bool.bne_false, Bool.and_true, Bool.and_false, Bool.or_false, Bool.or_true] at HP
        go_wp2
        go_quiet (fail)
        go_wp2_with (at_builtin; refine wpList_append_own _ rfl (.tmp 25) (.tmp 29) 52 rfl w.heap.size 4 i0 (.bool false) 1 1 Try.underlying52 hi hz0 hz1 hz2 rfl (by decide) _ k _ rfl ((own_drewN hrow _).alloc _) ⟨wr.heap.size, 0, none⟩ 1 1 [.bool _] rfl rfl (cell_one_new _ _ _) (by simp [Value.oneCell']) (by unfold maxLen; omega) (by omega) (by simp; omega) ?_; intro v' w2 hown' hgrow _; have hW2 := ((below_drewN hW _).alloc hsz _).grown hgrow (by simp; omega) (fun j ej => (hrow.lt j ej).1); have k1 := (hW2.cell (p := ⟨p, o + k, none⟩) hb).trans H0.out; have k2 := (hW2.cell (p := ⟨q, o2 + k, none⟩) hb2).trans H02.out)
        go_roundw
        case rel => exact ⟨k + 1, _, _, by omega, by congr 1 <;> omega, rfl, by simp [hpl], HP, by rw [List.map_append]; exact hown', hW2⟩
        case measure => simp [intOf]; omega
    · go_wp2
      go_ret
      obtain rfl : k = a.length := by omega
      have e := hp.out
      rw [List.drop_eq_nil_of_le (Nat.le_refl _), plusL.eq_def] at e
      simp only [List.append_nil] at e
      exact gives_b (by rw [e]) (by rw [HL.out]) hrow hW

/-- bit i of the moved bits -/
theorem movedL_get (a : List Bool) (by_ : Int) (x : Bool) {k : Nat} (hk : k < a.length) : (movedL a by_ x)[k]? = some (if 0 ≤ (k : Int) - by_ ∧ (k : Int) - by_ < a.length then a[((k : Int) - by_).toNat]?.getD x else x) := by
  simp [movedL, hk]
set_option maxHeartbeats 2000000 in
theorem bmoved_any (A : Option Addr) (n c : Nat) (a : List Bool) (d : Int) (x : Bool) (w : World) (hn : n = a.length) (h64 : a.length ≤ 65) (hd1 : -65 ≤ d) (hd2 : d ≤ 65) (hr : RdB w w.heap.size A a) :
    Calls Try.prog 35 #[.slice A n c, .int .i64 d, .bool x] w fun e w' => GivesB w.heap.size w (movedL a d x) e w' := by
  subst hn
  obtain ⟨i0, hi, hz0, hz1, hz2⟩ := info_parts info_bool
  have HL := Lib.hid (movedL_length a d x)
  go_enter Try.func35, Try.ntmps35
  go_wp2
  go_loopw [7, 8] (fun v i wr => ∃ k : Nat, k ≤ a.length ∧ i = .int .i64 k ∧ wr.ownsRow w.heap.size 4 1 v k (((movedL a d x).take k).map Value.bool) ∧ Below w.heap.size w wr) (fun _ i _ => a.length - (intOf i).toNat)
  case atStart => exact ⟨0, Nat.zero_le _, rfl, World.ownsRow_nil _ _ _ _, Below.refl _ _⟩
  case round =>
    obtain ⟨k, hk, rfl, hrow, hW⟩ := hrel
    have hsz := hW.size
    by_cases h : k < a.length
    · have HT := Lib.hid (show ∀ y, (if 0 ≤ (k : Int) - d ∧ (k : Int) - d < a.length then a[((k : Int) - d).toNat]?.getD x else x) = y → ((movedL a d x).take (k + 1)).map Value.bool = ((movedL a d x).take k).map Value.bool ++ [.bool y] from fun y hy => by
        have e := movedL_get a d x h
        rw [hy] at e
        rw [List.take_add_one, e, List.map_append]
        rfl)
      by_cases h0 : 0 ≤ (k : Int) - d ∧ (k : Int) - d < a.length
      · obtain ⟨m, hm⟩ : ∃ m : Nat, (k : Int) - d = m := ⟨((k : Int) - d).toNat, by omega⟩
        have hma : m < a.length := by omega
        obtain ⟨b, o, rfl, hb, hc⟩ := (hr.below hW).at_ hma
        have hck := hc m hma
        have hbw : b < wr.heap.size := by omega
        have HV := Lib.hid (HT.out (a[m]?.getD false) (by rw [if_pos h0, hm, Int.toNat_natCast, List.getElem?_eq_getElem hma]; rfl))
        clear hc HT hr h0
        obtain rfl : d = (k : Int) - m := by omega
        generalize a[m]?.getD false = y at hck HV
        go_wp2_with (at_builtin; refine wpList_append_own _ rfl (.tmp 27) (.tmp 32) 52 rfl w.heap.size 4 i0 (.bool false) 1 1 Try.underlying52 hi hz0 hz1 hz2 rfl (by decide) _ k _ rfl (hrow.alloc _) ⟨wr.heap.size, 0, none⟩ 1 1 [.bool y] rfl rfl (cell_one_new _ _ _) (by simp [Value.oneCell']) (by unfold maxLen; omega) (by omega) (by simp; omega) ?_; intro v' w2 hown' hgrow _)
        go_roundw
        case rel => exact ⟨k + 1, by omega, by congr 1 <;> omega, by rw [HV.out]; exact hown', (hW.alloc hsz _).grown hgrow (by simp; omega) (fun j ej => (hrow.lt j ej).1)⟩
        case measure => simp [intOf]; omega
      · have HV := Lib.hid (HT.out x (by rw [if_neg h0]))
        clear HT
        obtain ⟨z, hz⟩ : ∃ z : Int, z = (k : Int) - d := ⟨_, rfl⟩
        by_cases h1 : 0 ≤ z
        · have h2 : (a.length : Int) ≤ z := by omega
          obtain rfl : d = (k : Int) - z := by omega
          clear h0 hz
          go_wp2_with (at_builtin; refine wpList_append_own _ rfl (.tmp 34) (.tmp 36) 52 rfl w.heap.size 4 i0 (.bool false) 1 1 Try.underlying52 hi hz0 hz1 hz2 rfl (by decide) _ k _ rfl (hrow.alloc _) ⟨wr.heap.size, 0, none⟩ 1 1 [.bool x] rfl rfl (cell_one_new _ _ _) (by simp [Value.oneCell']) (by unfold maxLen; omega) (by omega) (by simp; omega) ?_; intro v' w2 hown' hgrow _)
          go_roundw
          case rel => exact ⟨k + 1, by omega, by congr 1 <;> omega, by rw [HV.out]; exact hown', (hW.alloc hsz _).grown hgrow (by simp; omega) (fun j ej => (hrow.lt j ej).1)⟩
          case measure => simp [intOf]; omega
        · have h2 : z < 0 := by omega
          obtain rfl : d = (k : Int) - z := by omega
          clear h0 hz h1
          go_wp2_with (at_builtin; refine wpList_append_own _ rfl (.tmp 34) (.tmp 36) 52 rfl w.heap.size 4 i0 (.bool false) 1 1 Try.underlying52 hi hz0 hz1 hz2 rfl (by decide) _ k _ rfl (hrow.alloc _) ⟨wr.heap.size, 0, none⟩ 1 1 [.bool x] rfl rfl (cell_one_new _ _ _) (by simp [Value.oneCell']) (by unfold maxLen; omega) (by omega) (by simp; omega) ?_; intro v' w2 hown' hgrow _)
          go_roundw
          case rel => exact ⟨k + 1, by omega, by congr 1 <;> omega, by rw [HV.out]; exact hown', (hW.alloc hsz _).grown hgrow (by simp; omega) (fun j ej => (hrow.lt j ej).1)⟩
          case measure => simp [intOf]; omega
    · go_wp2
      go_ret
      obtain rfl : k = a.length := by omega
      exact gives_b (by rw [List.take_of_length_le (by rw [HL.out]; exact Nat.le_refl _)]) (by rw [HL.out]) hrow hW
end Go.Proofs.Ytcpjchfgiogmeaa
