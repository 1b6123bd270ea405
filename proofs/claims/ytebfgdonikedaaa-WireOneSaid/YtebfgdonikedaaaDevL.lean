/-
  THE WALKS of the program's Reader of wire, third part: the lists.
-/
import Derived.Test.YtebfgdonikedaaaDevV
namespace Go.Proofs.Ytebfgdonikedaaa
open Go.RowKit

theorem lenR_zero {s : Rst} (h : (lenR s).2.e ≠ 0) : (lenR s).1 = 0 := by
  unfold lenR at h ⊢
  split
  · rename_i h0
    rw [if_pos h0] at h
    split
    · rfl
    · rename_i h1
      rw [if_neg h1] at h
      exact absurd h0 h
  · rfl
theorem lenR_nrm (s : Rst) (h8 : Bytes8 s.l) : (lenR s).1 ≤ (nrm (lenR s).2).l.length := by
  by_cases h : (lenR s).2.e = 0
  · rw [nrm_ok h]
    exact (lenR_len s h8 h).1
  · rw [lenR_zero h]
    exact Nat.zero_le _
theorem lenR_short (s : Rst) (h8 : Bytes8 s.l) : (nrm (lenR s).2).l.length ≤ s.l.length := by
  by_cases h : (lenR s).2.e = 0
  · rw [nrm_ok h]
    exact (lenR_len s h8 h).2.1
  · rw [nrm_err h]
    exact Nat.zero_le _
theorem rawR_nrm (s : Rst) : (nrm (lenR s).2).l.take (lenR s).1 = (rawR s).1 ∧ (⟨(nrm (lenR s).2).l.drop (lenR s).1, (nrm (lenR s).2).e⟩ : Rst) = nrm (rawR s).2 := by
  unfold rawR
  by_cases h : (lenR s).2.e = 0
  · rw [if_pos h, nrm_ok h, h]
    exact ⟨rfl, (nrm_ok rfl).symm⟩
  · rw [if_neg h, nrm_err h, lenR_zero h]
    exact ⟨rfl, rfl⟩

set_option maxHeartbeats 2000000 in
theorem listText_any (g : Nat) (s : Rst) (w : World) (h : RdrAt w 77 g (nrm s)) (h8 : Bytes8 s.l) (hl : s.l.length ≤ 900000) (P : World → Ending → World → Prop)
    (hE : ∀ W, w.grownBy W (some g) → RdrAt W 77 g (nrm (lenR s).2) → Calls Try.prog 66 #[.pointer (some ⟨g, 0, none⟩), .int .i64 ((lenR s).1 : Nat)] W fun e w' => ∃ v, e = .returned v ∧ P W (.returned v) w') :
    Calls Try.prog 65 #[.pointer (some ⟨g, 0, none⟩), .func (.func 66) #[.pointer (some ⟨g, 0, none⟩)] #[]] w fun e w' => ∃ W, w.grownBy W (some g) ∧ P W e w' := by
  have hU := rUint_any g s w h h8 hl
  obtain ⟨hul, hu8⟩ := uintR_len h8
  have hfl := uintR_fail (s := s)
  have HL := Lib.hid (show lenR s = if (uintR s).2.e = 0 then (if (uintR s).2.l.length < (uintR s).1 then (0, ⟨(uintR s).2.l, 3⟩) else uintR s) else (0, (uintR s).2) from rfl)
  generalize uintR s = r at hU hul hu8 hfl HL
  generalize lenR s = q at hE HL
  obtain ⟨n, s1⟩ := r
  simp only at hU hul hu8 hfl HL
  clear h h8 hu8
  by_cases he : s1.e = 0
  · have HE0 := Lib.hid he
    by_cases hlt : s1.l.length < n
    · have HR : q = (0, ⟨s1.l, 3⟩) := by rw [HL.out, if_pos he, if_pos hlt]
      subst HR
      have b1 : decide (s1.l.length < n) = true := decide_eq_true hlt
      have b2 : decide ((s1.l.length : Int) < (n : Int)) = true := decide_eq_true (by omega)
      rw [nrm_ok he] at hU
      rw [nrm_err (s := ⟨s1.l, 3⟩) (show (3 : Int) ≠ 0 by decide)] at hE
      simp only at hE
      have hll : s1.l.length ≤ 900000 := by omega
      clear hfl he HL
      go_enter Try.func65, Try.ntmps65
      go_wp2_with (first
        | (go_at_call 45; refine hU.mono ?_; clear hU; rintro e' w1 ⟨rfl, hr1, hg1⟩; obtain ⟨A, c, q0, q1, f0, f1, HK, hc, hA, hr⟩ := rdr_cells hr1; have hF := rfail_any g _ 3 _ hr1; rw [if_pos HE0.out] at hF)
        | (go_at_call 63; refine hF.mono ?_; clear hF; rintro e' w2 ⟨rfl, hr2, hg2⟩; have hG := Lib.hid (hg1.trans hg2))
        | (go_at_call 66; refine (hE _ hG.out hr2).mono ?_; clear hE; rintro e' w3 ⟨v3, rfl, hp3⟩))
      go_ret
      exact ⟨w2, hG.out, hp3⟩
    · have HR : q = (n, s1) := by rw [HL.out, if_pos he, if_neg hlt]
      subst HR
      have b1 : decide (s1.l.length < n) = false := decide_eq_false hlt
      have b2 : decide ((s1.l.length : Int) < (n : Int)) = false := decide_eq_false (by omega)
      rw [nrm_ok he] at hU hE
      simp only at hE
      have hll : s1.l.length ≤ 900000 := by omega
      have hnn : n ≤ 900000 := by omega
      clear hfl he HL
      go_enter Try.func65, Try.ntmps65
      go_wp2_with (first
        | (go_at_call 45; refine hU.mono ?_; clear hU; rintro e' w1 ⟨rfl, hr1, hg1⟩; obtain ⟨A, c, q0, q1, f0, f1, HK, hc, hA, hr⟩ := rdr_cells hr1; have hG := Lib.hid hg1)
        | (go_at_call 66; refine (hE _ hG.out hr1).mono ?_; clear hE; rintro e' w3 ⟨v3, rfl, hp3⟩))
      go_ret
      exact ⟨w1, hG.out, hp3⟩
  · obtain rfl : n = 0 := hfl he
    have HR : q = (0, s1) := by rw [HL.out, if_neg he]
    subst HR
    rw [nrm_err he] at hU hE
    simp only at hE
    clear hfl he HL
    go_enter Try.func65, Try.ntmps65
    go_wp2_with (first
      | (go_at_call 45; refine hU.mono ?_; clear hU; rintro e' w1 ⟨rfl, hr1, hg1⟩; obtain ⟨A, c, q0, q1, f0, f1, HK, hc, hA, hr⟩ := rdr_cells hr1; have hG := Lib.hid hg1)
      | (go_at_call 66; refine (hE _ hG.out hr1).mono ?_; clear hE; rintro e' w3 ⟨v3, rfl, hp3⟩))
    go_ret
    exact ⟨w1, hG.out, hp3⟩

set_option maxHeartbeats 2000000 in
theorem listRaw_any (g : Nat) (s : Rst) (w : World) (h : RdrAt w 77 g (nrm s)) (h8 : Bytes8 s.l) (hl : s.l.length ≤ 900000) (P : World → Ending → World → Prop)
    (hE : ∀ W, w.grownBy W (some g) → RdrAt W 77 g (nrm (lenR s).2) → Calls Try.prog 56 #[.pointer (some ⟨g, 0, none⟩), .int .i64 ((lenR s).1 : Nat)] W fun e w' => ∃ v, e = .returned v ∧ P W (.returned v) w') :
    Calls Try.prog 55 #[.pointer (some ⟨g, 0, none⟩), .func (.func 56) #[.pointer (some ⟨g, 0, none⟩)] #[]] w fun e w' => ∃ W, w.grownBy W (some g) ∧ P W e w' := by
  have hU := rUint_any g s w h h8 hl
  obtain ⟨hul, hu8⟩ := uintR_len h8
  have hfl := uintR_fail (s := s)
  have HL := Lib.hid (show lenR s = if (uintR s).2.e = 0 then (if (uintR s).2.l.length < (uintR s).1 then (0, ⟨(uintR s).2.l, 3⟩) else uintR s) else (0, (uintR s).2) from rfl)
  generalize uintR s = r at hU hul hu8 hfl HL
  generalize lenR s = q at hE HL
  obtain ⟨n, s1⟩ := r
  simp only at hU hul hu8 hfl HL
  clear h h8 hu8
  by_cases he : s1.e = 0
  · have HE0 := Lib.hid he
    by_cases hlt : s1.l.length < n
    · have HR : q = (0, ⟨s1.l, 3⟩) := by rw [HL.out, if_pos he, if_pos hlt]
      subst HR
      have b1 : decide (s1.l.length < n) = true := decide_eq_true hlt
      have b2 : decide ((s1.l.length : Int) < (n : Int)) = true := decide_eq_true (by omega)
      rw [nrm_ok he] at hU
      rw [nrm_err (s := ⟨s1.l, 3⟩) (show (3 : Int) ≠ 0 by decide)] at hE
      simp only at hE
      have hll : s1.l.length ≤ 900000 := by omega
      clear hfl he HL
      go_enter Try.func55, Try.ntmps55
      go_wp2_with (first
        | (go_at_call 45; refine hU.mono ?_; clear hU; rintro e' w1 ⟨rfl, hr1, hg1⟩; obtain ⟨A, c, q0, q1, f0, f1, HK, hc, hA, hr⟩ := rdr_cells hr1; have hF := rfail_any g _ 3 _ hr1; rw [if_pos HE0.out] at hF)
        | (go_at_call 63; refine hF.mono ?_; clear hF; rintro e' w2 ⟨rfl, hr2, hg2⟩; have hG := Lib.hid (hg1.trans hg2))
        | (go_at_call 56; refine (hE _ hG.out hr2).mono ?_; clear hE; rintro e' w3 ⟨v3, rfl, hp3⟩))
      go_ret
      exact ⟨w2, hG.out, hp3⟩
    · have HR : q = (n, s1) := by rw [HL.out, if_pos he, if_neg hlt]
      subst HR
      have b1 : decide (s1.l.length < n) = false := decide_eq_false hlt
      have b2 : decide ((s1.l.length : Int) < (n : Int)) = false := decide_eq_false (by omega)
      rw [nrm_ok he] at hU hE
      simp only at hE
      have hll : s1.l.length ≤ 900000 := by omega
      have hnn : n ≤ 900000 := by omega
      clear hfl he HL
      go_enter Try.func55, Try.ntmps55
      go_wp2_with (first
        | (go_at_call 45; refine hU.mono ?_; clear hU; rintro e' w1 ⟨rfl, hr1, hg1⟩; obtain ⟨A, c, q0, q1, f0, f1, HK, hc, hA, hr⟩ := rdr_cells hr1; have hG := Lib.hid hg1)
        | (go_at_call 56; refine (hE _ hG.out hr1).mono ?_; clear hE; rintro e' w3 ⟨v3, rfl, hp3⟩))
      go_ret
      exact ⟨w1, hG.out, hp3⟩
  · obtain rfl : n = 0 := hfl he
    have HR : q = (0, s1) := by rw [HL.out, if_neg he]
    subst HR
    rw [nrm_err he] at hU hE
    simp only at hE
    clear hfl he HL
    go_enter Try.func55, Try.ntmps55
    go_wp2_with (first
      | (go_at_call 45; refine hU.mono ?_; clear hU; rintro e' w1 ⟨rfl, hr1, hg1⟩; obtain ⟨A, c, q0, q1, f0, f1, HK, hc, hA, hr⟩ := rdr_cells hr1; have hG := Lib.hid hg1)
      | (go_at_call 56; refine (hE _ hG.out hr1).mono ?_; clear hE; rintro e' w3 ⟨v3, rfl, hp3⟩))
    go_ret
    exact ⟨w1, hG.out, hp3⟩

set_option maxHeartbeats 2000000 in
theorem listInts_any (g : Nat) (s : Rst) (w : World) (h : RdrAt w 77 g (nrm s)) (h8 : Bytes8 s.l) (hl : s.l.length ≤ 900000) (P : World → Ending → World → Prop)
    (hE : ∀ W, w.grownBy W (some g) → RdrAt W 77 g (nrm (lenR s).2) → Calls Try.prog 58 #[.pointer (some ⟨g, 0, none⟩), .int .i64 ((lenR s).1 : Nat)] W fun e w' => ∃ v, e = .returned v ∧ P W (.returned v) w') :
    Calls Try.prog 57 #[.pointer (some ⟨g, 0, none⟩), .func (.func 58) #[.pointer (some ⟨g, 0, none⟩)] #[]] w fun e w' => ∃ W, w.grownBy W (some g) ∧ P W e w' := by
  have hU := rUint_any g s w h h8 hl
  obtain ⟨hul, hu8⟩ := uintR_len h8
  have hfl := uintR_fail (s := s)
  have HL := Lib.hid (show lenR s = if (uintR s).2.e = 0 then (if (uintR s).2.l.length < (uintR s).1 then (0, ⟨(uintR s).2.l, 3⟩) else uintR s) else (0, (uintR s).2) from rfl)
  generalize uintR s = r at hU hul hu8 hfl HL
  generalize lenR s = q at hE HL
  obtain ⟨n, s1⟩ := r
  simp only at hU hul hu8 hfl HL
  clear h h8 hu8
  by_cases he : s1.e = 0
  · have HE0 := Lib.hid he
    by_cases hlt : s1.l.length < n
    · have HR : q = (0, ⟨s1.l, 3⟩) := by rw [HL.out, if_pos he, if_pos hlt]
      subst HR
      have b1 : decide (s1.l.length < n) = true := decide_eq_true hlt
      have b2 : decide ((s1.l.length : Int) < (n : Int)) = true := decide_eq_true (by omega)
      rw [nrm_ok he] at hU
      rw [nrm_err (s := ⟨s1.l, 3⟩) (show (3 : Int) ≠ 0 by decide)] at hE
      simp only at hE
      have hll : s1.l.length ≤ 900000 := by omega
      clear hfl he HL
      go_enter Try.func57, Try.ntmps57
      go_wp2_with (first
        | (go_at_call 45; refine hU.mono ?_; clear hU; rintro e' w1 ⟨rfl, hr1, hg1⟩; obtain ⟨A, c, q0, q1, f0, f1, HK, hc, hA, hr⟩ := rdr_cells hr1; have hF := rfail_any g _ 3 _ hr1; rw [if_pos HE0.out] at hF)
        | (go_at_call 63; refine hF.mono ?_; clear hF; rintro e' w2 ⟨rfl, hr2, hg2⟩; have hG := Lib.hid (hg1.trans hg2))
        | (go_at_call 58; refine (hE _ hG.out hr2).mono ?_; clear hE; rintro e' w3 ⟨v3, rfl, hp3⟩))
      go_ret
      exact ⟨w2, hG.out, hp3⟩
    · have HR : q = (n, s1) := by rw [HL.out, if_pos he, if_neg hlt]
      subst HR
      have b1 : decide (s1.l.length < n) = false := decide_eq_false hlt
      have b2 : decide ((s1.l.length : Int) < (n : Int)) = false := decide_eq_false (by omega)
      rw [nrm_ok he] at hU hE
      simp only at hE
      have hll : s1.l.length ≤ 900000 := by omega
      have hnn : n ≤ 900000 := by omega
      clear hfl he HL
      go_enter Try.func57, Try.ntmps57
      go_wp2_with (first
        | (go_at_call 45; refine hU.mono ?_; clear hU; rintro e' w1 ⟨rfl, hr1, hg1⟩; obtain ⟨A, c, q0, q1, f0, f1, HK, hc, hA, hr⟩ := rdr_cells hr1; have hG := Lib.hid hg1)
        | (go_at_call 58; refine (hE _ hG.out hr1).mono ?_; clear hE; rintro e' w3 ⟨v3, rfl, hp3⟩))
      go_ret
      exact ⟨w1, hG.out, hp3⟩
  · obtain rfl : n = 0 := hfl he
    have HR : q = (0, s1) := by rw [HL.out, if_neg he]
    subst HR
    rw [nrm_err he] at hU hE
    simp only at hE
    clear hfl he HL
    go_enter Try.func57, Try.ntmps57
    go_wp2_with (first
      | (go_at_call 45; refine hU.mono ?_; clear hU; rintro e' w1 ⟨rfl, hr1, hg1⟩; obtain ⟨A, c, q0, q1, f0, f1, HK, hc, hA, hr⟩ := rdr_cells hr1; have hG := Lib.hid hg1)
      | (go_at_call 58; refine (hE _ hG.out hr1).mono ?_; clear hE; rintro e' w3 ⟨v3, rfl, hp3⟩))
    go_ret
    exact ⟨w1, hG.out, hp3⟩
end Go.Proofs.Ytebfgdonikedaaa
