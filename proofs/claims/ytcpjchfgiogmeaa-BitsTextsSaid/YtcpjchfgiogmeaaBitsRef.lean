/-
  THE WALKS of the reference's bit lists: Bits, Of, flip, plus, moved, less, zero.
-/
import Derived.Test.YtcpjchfgiogmeaaBitsW
import Derived.WalkKit
import Derived.WalkSpells
import Derived.WalkLawsBesides
import Derived.Lib.Hide
import Derived.Deep.QuietTactic
import Derived.BigQuiet
import Derived.OpenShut
namespace Go.Proofs.Ytcpjchfgiogmeaa
open Go.RowKit

theorem own_drewN {w : World} {B : Nat} {e : TypeId} {size n : Nat} {v : Value} {xs : List Value} (h : w.ownsRow B e size v n xs) (k : Nat) : (w.drewN k).ownsRow B e size v n xs := h
theorem odd_int (m : Nat) : (((m : Int) % 2 == 1) : Bool) = (m % 2 == 1) := by
  cases h : (m % 2 == 1) <;> simp at h ⊢ <;> omega
set_option maxHeartbeats 1000000 in
theorem bBits_any (u n : Nat) (w : World) (hu : u < 18446744073709551616) (hn : n ≤ 64) :
    Calls Try.prog 32 #[.int .u64 u, .int .i64 n] w fun e w' => GivesB w.heap.size w (bitsL n u) e w' := by
  obtain ⟨i0, hi, hz0, hz1, hz2⟩ := info_parts info_bool
  have HL := Lib.hid (bitsL_length n u)
  go_enter Try.func32, Try.ntmps32
  go_wp2
  go_loopw [0, 5, 6] (fun x v i wr => ∃ (m k : Nat) (pre : List Bool), m ≤ u ∧ x = .int .u64 m ∧ k ≤ n ∧ i = .int .i64 k ∧ pre.length = k ∧ Hid (pre ++ bitsL (n - k) m = bitsL n u) ∧ wr.ownsRow w.heap.size 4 1 v k (pre.map Value.bool) ∧ Below w.heap.size w wr) (fun _ _ i _ => n - (intOf i).toNat)
  case atStart => exact ⟨u, 0, [], Nat.le_refl _, rfl, Nat.zero_le _, rfl, rfl, Lib.hid rfl, World.ownsRow_nil _ _ _ _, Below.refl _ _⟩
  case round =>
    obtain ⟨m, k, pre, hm, rfl, hk, rfl, hpl, hp, hrow, hW⟩ := hrel
    have hsz := hW.size
    by_cases h : k < n
    · go_wp2_with (at_builtin; refine wpList_append_own _ rfl (.tmp 12) (.tmp 16) 52 rfl w.heap.size 4 i0 (.bool false) 1 1 Try.underlying52 hi hz0 hz1 hz2 rfl (by decide) _ k _ rfl (hrow.alloc _) ⟨wr.heap.size, 0, none⟩ 1 1 [.bool ((m : Int) % 2 == 1)] rfl rfl (cell_one_new _ _ _) (by simp [Value.oneCell']) (by unfold maxLen; omega) (by omega) (by simp; omega) ?_; intro v' w2 hown' hgrow _)
      go_roundw
      case rel =>
        rw [show (((m : Int) % 2 == 1) : Bool) = (m % 2 == 1) from odd_int m] at hown'
        refine ⟨m / 2, k + 1, pre ++ [m % 2 == 1], by omega, by congr 1 <;> omega, by omega, by congr 1 <;> omega, by simp [hpl], ?_, ?_, (hW.alloc hsz _).grown hgrow (by simp; omega) (fun j ej => (hrow.lt j ej).1)⟩
        · refine Lib.hid ?_
          have e := hp.out
          rw [show n - k = (n - (k + 1)) + 1 by omega, bitsL] at e
          rw [List.append_assoc]
          exact e
        · rw [List.map_append]
          exact hown'
      case measure => simp [intOf]; omega
    · go_wp2
      go_ret
      obtain rfl : k = n := by omega
      have e := hp.out
      rw [Nat.sub_self, bitsL, List.append_nil] at e
      exact gives_b (by rw [e]) (by rw [HL.out]) hrow hW
theorem ofL_drop_lt {l : List Bool} (h64 : l.length ≤ 64) (k : Nat) : ofL (l.drop k) < 18446744073709551616 := by
  have h := ofL_lt (l.drop k)
  have h2 : 2 ^ (l.drop k).length ≤ 2 ^ 64 := Nat.pow_le_pow_right (by decide) (by rw [List.length_drop]; omega)
  omega
set_option maxRecDepth 100000 in
set_option maxHeartbeats 1000000 in
theorem bOf_any (A : Option Addr) (n c B : Nat) (l : List Bool) (w : World) (hn : n = l.length) (h64 : l.length ≤ 64) (hr : RdB w B A l) :
    Calls Try.prog 36 #[.slice A n c] w fun e w' => e = .returned (.int .u64 (ofL l)) ∧ w = w' := by
  subst hn
  go_enter Try.func36, Try.ntmps36
  go_wp2
  go_loop [3, 4] (fun v i => ∃ (k : Nat) (z : Int), k ≤ l.length ∧ z = (k : Int) - 1 ∧ i = .int .i64 z ∧ v = .int .u64 (ofL (l.drop k))) (fun _ i => (intOf i + 1).toNat)
  case atStart => exact ⟨l.length, _, Nat.le_refl _, rfl, rfl, by rw [List.drop_eq_nil_of_le (Nat.le_refl _)]; rfl⟩
  case round =>
    obtain ⟨k, z, hk, hz, rfl, rfl⟩ := hrel
    cases k with
    | zero =>
      obtain rfl : z = -1 := by omega
      clear hz hr hk
      go_wp2
      go_ret
      exact ⟨rfl, rfl⟩
    | succ j =>
      obtain rfl : z = (j : Int) := by omega
      have hj : j < l.length := by omega
      obtain ⟨b, o, rfl, _, hc⟩ := hr.at_ hj
      have hcj := hc j hj
      have hd := drop_bit l hj
      have hlt := ofL_drop_lt h64 j
      rw [List.getElem?_eq_getElem hj, Option.getD_some] at hcj
      rw [hd] at hlt
      have HD := Lib.hid hd
      clear hc hr hd hz
      generalize l[j] = x at hcj hlt HD
      generalize ofL (l.drop (j + 1)) = m at hlt HD
      cases x
      · simp only [Bool.toNat_false, Nat.add_zero] at hlt
        go_wp2
        go_round
        case rel => exact ⟨j, (j : Int) - 1, by omega, rfl, by go_num, by rw [HD.out]; go_num⟩
        case measure => simp [intOf]
      · simp only [Bool.toNat_true] at hlt
        go_wp2
        go_round
        case rel => exact ⟨j, (j : Int) - 1, by omega, rfl, by go_num, by rw [HD.out]; go_num⟩
        case measure => simp [intOf]

set_option maxHeartbeats 1000000 in
theorem bflip_any (A : Option Addr) (n c : Nat) (l : List Bool) (w : World) (hn : n = l.length) (h64 : l.length ≤ 65) (hr : RdB w w.heap.size A l) :
    Calls Try.prog 34 #[.slice A n c] w fun e w' => GivesB w.heap.size w (l.map (!·)) e w' := by
  subst hn
  obtain ⟨i0, hi, hz0, hz1, hz2⟩ := info_parts info_bool
  go_enter Try.func34, Try.ntmps34
  go_wp2
  go_loopw [3, 4] (fun v i wr => ∃ k : Nat, k ≤ l.length ∧ i = .int .i64 k ∧ wr.ownsRow w.heap.size 4 1 v k (((l.map (!·)).take k).map Value.bool) ∧ Below w.heap.size w wr) (fun _ i _ => l.length - (intOf i).toNat)
  case atStart => exact ⟨0, Nat.zero_le _, rfl, World.ownsRow_nil _ _ _ _, Below.refl _ _⟩
  case round =>
    obtain ⟨k, hk, rfl, hrow, hW⟩ := hrel
    have hsz := hW.size
    by_cases h : k < l.length
    · obtain ⟨b, o, rfl, hb, hc⟩ := (hr.below hW).at_ h
      have hck := hc k h
      have hbw : b < wr.heap.size := by omega
      have HT := Lib.hid (show ((l.map (!·)).take (k + 1)).map Value.bool = ((l.map (!·)).take k).map Value.bool ++ [.bool (!(l[k]?.getD false))] by
        rw [List.take_succ_eq_append_getElem (by simpa using h), List.map_append]
        simp [h])
      clear hc
      generalize l[k]?.getD false = x at hck HT
      go_wp2_with (at_builtin; refine wpList_append_own _ rfl (.tmp 11) (.tmp 17) 52 rfl w.heap.size 4 i0 (.bool false) 1 1 Try.underlying52 hi hz0 hz1 hz2 rfl (by decide) _ k _ rfl (hrow.alloc _) ⟨wr.heap.size, 0, none⟩ 1 1 [.bool (!x)] rfl rfl (cell_one_new _ _ _) (by simp [Value.oneCell']) (by unfold maxLen; omega) (by omega) (by simp; omega) ?_; intro v' w2 hown' hgrow _)
      go_roundw
      case rel => exact ⟨k + 1, by omega, by congr 1 <;> omega, by rw [HT.out]; exact hown', (hW.alloc hsz _).grown hgrow (by simp; omega) (fun j ej => (hrow.lt j ej).1)⟩
      case measure => simp [intOf]; omega
    · go_wp2
      go_ret
      obtain rfl : k = l.length := by omega
      exact gives_b (by rw [List.take_of_length_le (by simp)]) (by simp) hrow hW

theorem bzero_any (n : Nat) (w : World) (hn : n ≤ 65) :
    Calls Try.prog 33 #[.int .i64 n] w fun e w' => GivesB w.heap.size w (List.replicate n false) e w' := by
  obtain ⟨i0, hi, hz0, hz1, hz2⟩ := info_parts info_bool
  go_enter Try.func33, Try.ntmps33
  go_wp2_with (refine wpList_make_row _ rfl (.tmp 3) (.tmp 3) 52 rfl 4 i0 (.bool false) Try.underlying52 hi hz0 hz1 rfl .i64 .i64 n rfl rfl (by rw [hz2]; omega) (by omega) ?_)
  go_ret
  have := own_made w n w.heap.size (Nat.le_refl _) (by unfold maxLen; omega)
  exact ⟨some ⟨w.heap.size, 0, none⟩, n, by simp, by rw [List.length_replicate]; exact this, (Below.refl _ _).alloc (Nat.le_refl _) _⟩

set_option maxRecDepth 100000 in
set_option maxHeartbeats 1000000 in
theorem bless_any (A1 A2 : Option Addr) (n1 c1 n2 c2 : Nat) (a b : List Bool) (w : World) (hn1 : n1 = a.length) (hn2 : n2 = b.length) (hab : a.length = b.length) (h64 : a.length ≤ 65) (hr1 : RdB w w.heap.size A1 a) (hr2 : RdB w w.heap.size A2 b) :
    Calls Try.prog 51 #[.slice A1 n1 c1, .slice A2 n2 c2] w fun e w' => e = .returned (.bool (decide (ofL a < ofL b))) ∧ Below w.heap.size w w' := by
  subst hn1 hn2
  have HAB := Lib.hid hab
  clear hab
  go_enter Try.func51, Try.ntmps51
  go_wp2
  go_loopw [5] (fun i wr => ∃ (k : Nat) (z : Int), k ≤ a.length ∧ z = (k : Int) - 1 ∧ i = .int .i64 z ∧ Hid (a.drop k = b.drop k) ∧ Below w.heap.size w wr) (fun i _ => (intOf i + 1).toNat)
  case atStart => exact ⟨a.length, _, Nat.le_refl _, rfl, rfl, Lib.hid (by rw [List.drop_eq_nil_of_le (Nat.le_refl _), List.drop_eq_nil_of_le (by have := HAB.out; omega)]), Below.refl _ _⟩
  case round =>
    obtain ⟨k, z, hk, hz, rfl, hd, hW⟩ := hrel
    cases k with
    | zero =>
      obtain rfl : z = -1 := by omega
      clear hz hr1 hr2 hk
      go_wp2
      go_ret
      have e := hd.out
      rw [List.drop_zero, List.drop_zero] at e
      subst e
      exact ⟨by simp, hW⟩
    | succ j =>
      obtain rfl : z = (j : Int) := by omega
      have hj : j < a.length := by omega
      have hj2 : j < b.length := HAB.out ▸ hj
      obtain ⟨p, o, rfl, _, hc⟩ := (hr1.below hW).at_ hj
      obtain ⟨q, o2, rfl, _, hc2⟩ := (hr2.below hW).at_ hj2
      have hcj := hc j hj
      have hcj2 := hc2 j hj2
      rw [List.getElem?_eq_getElem hj, Option.getD_some] at hcj
      rw [List.getElem?_eq_getElem hj2, Option.getD_some] at hcj2
      have HA := Lib.hid (less_at HAB.out hj hd.out)
      have HB : Hid (a[j] = b[j] → a.drop j = b.drop j) := Lib.hid (fun e => by rw [drop_cons hj, drop_cons hj2, e, hd.out])
      clear hc hc2 hd hz hr1 hr2
      generalize a[j] = x at hcj HA HB
      generalize b[j] = y at hcj2 HA HB
      have HD : Hid (x ≠ y → decide (ofL a < ofL b) = y) := Lib.hid (fun h => by
        have := HA.out h
        cases y
        · exact decide_eq_false (fun e => nomatch this.1 e)
        · exact decide_eq_true (this.2 rfl))
      clear HA
      by_cases hxy : x = y
      · subst hxy
        clear HD
        cases x
        all_goals
          go_wp2
          go_quiet (fail)
          go_wp2
          go_roundw
          case rel => exact ⟨j, (j : Int) - 1, by omega, rfl, by go_num, Lib.hid (HB.out (by trivial)), below_drewN hW _⟩
          case measure => simp [intOf]
      · have HZ := Lib.hid (HD.out hxy)
        clear HD HB
        cases x <;> cases y
        · exact absurd rfl hxy
        · go_wp2
          go_quiet (fail)
          go_wp2
          go_ret
          exact ⟨by rw [HZ.out]; rfl, below_drewN hW _⟩
        · go_wp2
          go_quiet (fail)
          go_wp2
          go_ret
          exact ⟨by rw [HZ.out]; rfl, below_drewN hW _⟩
        · exact absurd rfl hxy

theorem bone_any (x : Bool) (w : World) :
    Calls Try.prog 50 #[.bool x] w fun e w' => GivesB w.heap.size w [x] e w' := by
  go_enter Try.func50, Try.ntmps50
  go_wp2
  go_ret
  exact ⟨_, 1, rfl, ⟨rfl, .inr ⟨_, 1, _, rfl, Nat.le_refl _, heap_alloc_new w _, Nat.le_refl _, by unfold maxLen; omega, rfl, rfl⟩⟩, (Below.refl _ _).alloc (Nat.le_refl _) _⟩
end Go.Proofs.Ytcpjchfgiogmeaa
