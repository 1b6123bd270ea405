/-
  THE WALK of the program's Reader.Uint of wire.
-/
import Derived.Test.YtebfgdonikedaaaDevR
namespace Go.Proofs.Ytebfgdonikedaaa
open Go.RowKit

theorem dev_num {x : Int} {N k : Nat} (hx : 0 ≤ x ∧ x < 256) (hN : N < 128 ^ k) (hk : k ≤ 9) (h9 : k = 9 → x ≤ 1) :
    bits .or .u64 (N : Int) (IntKind.u64.wrap (IntKind.u64.wrap (bits .andNot .u8 x 128) * 2 ^ (7 * k))) = ((N + x.toNat % 128 * 128 ^ k : Nat) : Int) ∧ N + x.toNat % 128 * 128 ^ k < 18446744073709551616 := by
  obtain ⟨d, hd, rfl⟩ : ∃ d : Nat, d < 256 ∧ x = d := ⟨x.toNat, by omega, by omega⟩
  have e0 : bits .andNot .u8 (d : Int) 128 = ((d % 128 : Nat) : Int) := by
    have := u8_andNot_nat d 128 hd (by decide)
    rw [show (255 - 128 : Nat) = 2 ^ 7 - 1 from rfl, Nat.and_two_pow_sub_one_eq_mod] at this
    exact this
  have e1 : ((d : Int).toNat) % 128 = d % 128 := by omega
  have ep : (128 : Nat) ^ k = 2 ^ (7 * k) := by rw [Nat.pow_mul]
  have hmul : d % 128 * 128 ^ k ≤ 127 * 128 ^ k := Nat.mul_le_mul_right _ (by omega)
  have hb : N + d % 128 * 128 ^ k < 18446744073709551616 := by
    by_cases h : k = 9
    · subst h
      have : d % 128 * 128 ^ 9 ≤ 1 * 128 ^ 9 := Nat.mul_le_mul_right _ (by have := h9 rfl; omega)
      omega
    · have hp8 : (128 : Nat) ^ k ≤ 128 ^ 8 := Nat.pow_le_pow_right (by decide) (by omega)
      omega
  rw [e0, e1]
  refine ⟨?_, hb⟩
  have e2 : ((d % 128 : Nat) : Int) * 2 ^ (7 * k) = ((d % 128 * 128 ^ k : Nat) : Int) := by rw [ep, Int.natCast_mul, Int.natCast_pow]; rfl
  rw [u64_of (x := ((d % 128 : Nat) : Int)) ⟨by omega, by omega⟩, e2, u64_of (x := ((d % 128 * 128 ^ k : Nat) : Int)) ⟨by omega, by omega⟩, u64_or_nat N (d % 128 * 128 ^ k) (by omega) (by omega)]
  rw [ep] at hN ⊢
  rw [Nat.or_comm, Nat.mul_comm, ← Nat.two_pow_add_eq_or_of_lt hN]
  omega
set_option maxRecDepth 100000 in
set_option maxHeartbeats 4000000 in
theorem rUint_zero (g : Nat) (l : List Int) (w : World) (h : RdrAt w 77 g ⟨l, 0⟩) (h8 : Bytes8 l) (hl : l.length ≤ 900000) :
    Calls Try.prog 45 #[.pointer (some ⟨g, 0, none⟩)] w (RdrPost w 77 g (.int .u64 ((uintR ⟨l, 0⟩).1 : Nat)) (nrm (uintR ⟨l, 0⟩).2)) := by
  go_enter Try.func45, Try.ntmps45
  go_wp2
  go_loopw [3, 4] (fun n i wr => ∃ k N : Nat, k ≤ 9 ∧ k ≤ l.length ∧ Hid (N < 128 ^ k) ∧ Hid (rdv 0 0 l = rdv k N (l.drop k)) ∧ n = .int .u64 N ∧ i = .int .i64 k ∧ RdrAt wr 77 g ⟨l.drop k, 0⟩ ∧ w.grownBy wr (some g)) (fun _ i _ => 10 - (intOf i).toNat)
  case atStart => exact ⟨0, 0, by omega, by omega, Lib.hid (by decide), Lib.hid rfl, rfl, rfl, h, World.grownBy.refl w _⟩
  case round =>
    clear h
    obtain ⟨k, N, hk9, hkl, hN, hrd, rfl, rfl, hra, hW⟩ := hrel
    by_cases hlt : k < l.length
    · have hcb := h8.get k
      have hdrop : l.drop k = l[k]?.getD 0 :: l.drop (k + 1) := by rw [List.drop_eq_getElem_cons hlt]; simp [hlt]
      obtain ⟨x, hx⟩ : ∃ x, x = l[k]?.getD 0 := ⟨_, rfl⟩
      rw [← hx] at hcb hdrop
      rw [hdrop] at hra
      have hO := roctet_cons g x (l.drop (k + 1)) 0 wr hra (by rw [List.length_drop]; omega)
      have HD := Lib.hid hdrop
      obtain ⟨hx0, hx1⟩ := hcb
      clear hx hdrop hra
      obtain ⟨r, hrr⟩ : ∃ r, r = l.drop (k + 1) := ⟨_, rfl⟩
      rw [← hrr] at hO HD
      have HR := Lib.hid hrr.symm
      clear hrr
      by_cases hbad : (k = 9 ∧ 1 < x) ∨ (0 < k ∧ x = 0)
      · have HU := Lib.hid (show nrm (uintR ⟨l, 0⟩).2 = ⟨[], 2⟩ ∧ (uintR ⟨l, 0⟩).1 = 0 by
          have : rdv 0 0 l = .error true := by rw [hrd.out, HD.out, rdv, if_pos hbad]
          simp [uintR, this, nrm])
        by_cases h9 : k = 9
        · subst h9
          have hx9 : 1 < x ∨ x = 0 := by omega
          clear hbad
          rcases hx9 with hx9 | rfl
          all_goals
            go_wp2_with (first
              | (go_at_call 62; refine hO.mono ?_; clear hO; rintro e' w1 ⟨rfl, hr1, hg1⟩; obtain ⟨A, c, q0, q1, f0, f1, HK, hc, hA, hr⟩ := rdr_cells hr1; have hF := rfail_any g _ 2 _ hr1; rw [if_pos rfl] at hF)
              | (go_at_call 63; refine hF.mono ?_; clear hF; rintro e' w2 ⟨rfl, hr2, hg2⟩))
            go_ret
            exact ⟨by rw [HU.out.2]; rfl, by rw [HU.out.1]; exact hr2, (hW.trans hg1).trans hg2⟩
        · have h0k : 0 < k := by omega
          obtain rfl : x = 0 := by omega
          clear hbad
          have b3 : ((k : Int) == 9) = false := by simp; omega
          have b4 : decide ((0 : Int) < (k : Int)) = true := decide_eq_true (by omega)
          have b5 : decide (0 < k) = true := decide_eq_true (by omega)
          go_wp2_with (first
              | (go_at_call 62; refine hO.mono ?_; clear hO; rintro e' w1 ⟨rfl, hr1, hg1⟩; obtain ⟨A, c, q0, q1, f0, f1, HK, hc, hA, hr⟩ := rdr_cells hr1; have hF := rfail_any g _ 2 _ hr1; rw [if_pos rfl] at hF)
              | (go_at_call 63; refine hF.mono ?_; clear hF; rintro e' w2 ⟨rfl, hr2, hg2⟩))
          go_ret
          exact ⟨by rw [HU.out.2]; rfl, by rw [HU.out.1]; exact hr2, (hW.trans hg1).trans hg2⟩
      · have hx9 : k = 9 → x ≤ 1 := fun h => by omega
        have hnum := dev_num (x := x) (N := N) (k := k) ⟨hx0, hx1⟩ hN.out hk9 hx9
        have HNM := Lib.hid hnum
        clear hnum
        by_cases hx128 : x < 128
        · have HU := Lib.hid (show uintR ⟨l, 0⟩ = (N + x.toNat % 128 * 128 ^ k, ⟨r, 0⟩) by
            have : rdv 0 0 l = .ok (N + x.toNat % 128 * 128 ^ k, r) := by rw [hrd.out, HD.out, rdv, if_neg hbad, if_pos hx128]
            simp [uintR, this])
          have hkk : (9 ≤ k ∧ x ≤ 1 ∧ 1 ≤ x) ∨ (0 < k ∧ k < 9 ∧ 1 ≤ x) ∨ (k ≤ 0 ∧ k < 9 ∧ k < 10) := by omega
          clear hbad hx9
          have b123 : Hid ((9 ≤ k → x ≤ 1 → decide ((1 : Int) < x) = false ∧ ((k : Int) == 9) = true) ∧ (k < 9 → ((k : Int) == 9) = false) ∧ (1 ≤ x → (x == 0) = false)) := Lib.hid ⟨fun h h2 => ⟨by simp; omega, by simp; omega⟩, fun h => by simp; omega, fun h => by simp; omega⟩
          rcases hkk with ⟨hk0, hk1, hx2⟩ | ⟨hk0, hk1, hx2⟩ | ⟨hk0, hk1, hx2⟩
          · obtain ⟨b2, b3⟩ := b123.out.1 hk0 hk1
            have b1 := b123.out.2.2 hx2
            have b4 : decide (0 < k) = true := decide_eq_true (by omega)
            have b5 : decide ((0 : Int) < (k : Int)) = true := decide_eq_true (by omega)
            go_wp2_with (go_at_call 62; refine hO.mono ?_; clear hO; rintro e' w1 ⟨rfl, hr1, hg1⟩; obtain ⟨A, c, q0, q1, f0, f1, HK, hc, hA, hr⟩ := rdr_cells hr1)
            go_ret
            exact ⟨by rw [HU.out, ← HNM.out.1]; rfl, by rw [HU.out]; exact hr1, hW.trans hg1⟩
          · have b3 := b123.out.2.1 hk1
            have b2 := b123.out.2.2 hx2
            have b4 : decide (0 < k) = true := decide_eq_true hk0
            have b5 : decide ((0 : Int) < (k : Int)) = true := decide_eq_true (by omega)
            go_wp2_with (go_at_call 62; refine hO.mono ?_; clear hO; rintro e' w1 ⟨rfl, hr1, hg1⟩; obtain ⟨A, c, q0, q1, f0, f1, HK, hc, hA, hr⟩ := rdr_cells hr1)
            go_ret
            exact ⟨by rw [HU.out, ← HNM.out.1]; rfl, by rw [HU.out]; exact hr1, hW.trans hg1⟩
          · have b3 := b123.out.2.1 hk1
            have b4 : decide (0 < k) = false := decide_eq_false (by omega)
            have b5 : decide ((0 : Int) < (k : Int)) = false := decide_eq_false (by omega)
            go_wp2_with (go_at_call 62; refine hO.mono ?_; clear hO; rintro e' w1 ⟨rfl, hr1, hg1⟩; obtain ⟨A, c, q0, q1, f0, f1, HK, hc, hA, hr⟩ := rdr_cells hr1)
            go_ret
            exact ⟨by rw [HU.out, ← HNM.out.1]; rfl, by rw [HU.out]; exact hr1, hW.trans hg1⟩
        · have hk8 : k < 9 := by omega
          have hrd2 := Lib.hid (show rdv 0 0 l = rdv (k + 1) (N + x.toNat % 128 * 128 ^ k) (l.drop (k + 1)) by rw [hrd.out, HD.out, rdv, if_neg hbad, if_neg hx128, ← HR.out])
          have hN2 : Hid (N + x.toNat % 128 * 128 ^ k < 128 ^ (k + 1)) := Lib.hid (by
            have h1 := hN.out
            have hmul : x.toNat % 128 * 128 ^ k ≤ 127 * 128 ^ k := Nat.mul_le_mul_right _ (by omega)
            rw [Nat.pow_succ]
            omega)
          have hkk : (0 < k ∧ 1 ≤ x) ∨ (k ≤ 0 ∧ 1 ≤ x) := by omega
          clear hbad hx9
          have b3 : ((k : Int) == 9) = false := by simp; omega
          have b2 : (x == 0) = false := by simp; omega
          have b6 : decide (x < 128) = false := decide_eq_false hx128
          rcases hkk with ⟨hk0, hx2⟩ | ⟨hk0, hx2⟩
          · have b4 : decide (0 < k) = true := decide_eq_true hk0
            have b5 : decide ((0 : Int) < (k : Int)) = true := decide_eq_true (by omega)
            go_wp2_with (go_at_call 62; refine hO.mono ?_; clear hO; rintro e' w1 ⟨rfl, hr1, hg1⟩; obtain ⟨A, c, q0, q1, f0, f1, HK, hc, hA, hr⟩ := rdr_cells hr1)
            go_roundw
            case rel => exact ⟨k + 1, N + x.toNat % 128 * 128 ^ k, by omega, by omega, hN2, hrd2, by rw [← HNM.out.1], by go_num, by rw [HR.out]; exact hr1, hW.trans hg1⟩
            case measure => simp [intOf]; omega
          · have b4 : decide (0 < k) = false := decide_eq_false (by omega)
            have b5 : decide ((0 : Int) < (k : Int)) = false := decide_eq_false (by omega)
            go_wp2_with (go_at_call 62; refine hO.mono ?_; clear hO; rintro e' w1 ⟨rfl, hr1, hg1⟩; obtain ⟨A, c, q0, q1, f0, f1, HK, hc, hA, hr⟩ := rdr_cells hr1)
            go_roundw
            case rel => exact ⟨k + 1, N + x.toNat % 128 * 128 ^ k, by omega, by omega, hN2, hrd2, by rw [← HNM.out.1], by go_num, by rw [HR.out]; exact hr1, hW.trans hg1⟩
            case measure => simp [intOf]; omega
    · have hO := roctet_nil g 0 wr (by rw [List.drop_eq_nil_of_le (by omega)] at hra; exact hra)
      rw [if_pos rfl] at hO
      have HU := Lib.hid (show nrm (uintR ⟨l, 0⟩).2 = ⟨[], 3⟩ ∧ (uintR ⟨l, 0⟩).1 = 0 by
        have : rdv 0 0 l = .error false := by rw [hrd.out, List.drop_eq_nil_of_le (by omega)]; rfl
        simp [uintR, this, nrm])
      clear hra
      go_wp2_with (go_at_call 62; refine hO.mono ?_; clear hO; rintro e' w1 ⟨rfl, hr1, hg1⟩; obtain ⟨A, c, q0, q1, f0, f1, HK, hc, hA, hr⟩ := rdr_cells hr1)
      go_ret
      exact ⟨by rw [HU.out.2]; rfl, by rw [HU.out.1]; exact hr1, hW.trans hg1⟩
theorem rUint_err (g : Nat) (e : Int) (w : World) (h : RdrAt w 77 g ⟨[], e⟩) (he : e ≠ 0) :
    Calls Try.prog 45 #[.pointer (some ⟨g, 0, none⟩)] w (RdrPost w 77 g (.int .u64 0) ⟨[], e⟩) := by
  have hO := roctet_nil g e w h
  rw [if_neg he] at hO
  have b1 : (e != 0) = true := by simpa using he
  have b2 : (e == 0) = false := by simpa using he
  clear h
  go_enter Try.func45, Try.ntmps45
  go_wp2
  go_loopw [3, 4] (fun n i wr => n = .int .u64 0 ∧ i = .int .i64 0 ∧ w = wr) (fun _ _ _ => 0)
  case atStart => exact ⟨rfl, rfl, rfl⟩
  case round =>
    obtain ⟨rfl, rfl, rfl⟩ := hrel
    go_wp2_with (go_at_call 62; refine hO.mono ?_; clear hO; rintro e' w1 ⟨rfl, hr1, hg1⟩; obtain ⟨A, c, q0, q1, f0, f1, HK, hc, hA, hr⟩ := rdr_cells hr1)
    go_ret
    exact ⟨rfl, hr1, hg1⟩
/-- UINT, whatever the reader's state -/
theorem rUint_any (g : Nat) (s : Rst) (w : World) (h : RdrAt w 77 g (nrm s)) (h8 : Bytes8 s.l) (hl : s.l.length ≤ 900000) :
    Calls Try.prog 45 #[.pointer (some ⟨g, 0, none⟩)] w (RdrPost w 77 g (.int .u64 ((uintR s).1 : Nat)) (nrm (uintR s).2)) := by
  by_cases he : s.e = 0
  · rw [nrm_ok he] at h
    rw [Rst.zero he] at h ⊢
    exact rUint_zero g s.l w h h8 hl
  · rw [nrm_err he] at h
    rw [uintR_err he, nrm_err he]
    exact rUint_err g s.e w h he
end Go.Proofs.Ytebfgdonikedaaa
