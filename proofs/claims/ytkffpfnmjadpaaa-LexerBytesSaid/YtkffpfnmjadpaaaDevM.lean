/-
  THE WALKS of the program's Reader of wire, first part: fail, take, octet, Uint.
  THE WALK of the program's Reader.Uint of wire.
  THE WALKS of the program's Reader of wire, second part: Int, Bool, End, Read, Text, Raw.
  THE WALKS of the program's Reader of wire, third part: the lists.
  THE WALKS of the program's Reader of wire, fourth part: ints, Text, Raw, Ints.
-/
import Derived.Test.YtkffpfnmjadpaaaWireRdr
import Derived.Test.YtkffpfnmjadpaaaDevX
namespace Go.Proofs.Ytkffpfnmjadpaaa
open Go.RowKit

/-- what the program's reader keeps of a reader's state: with an error no bytes -/
def nrm (s : Rst) : Rst := if s.e = 0 then s else ⟨[], s.e⟩
theorem nrm_ok {s : Rst} (h : s.e = 0) : nrm s = s := if_pos h
theorem nrm_err {s : Rst} (h : s.e ≠ 0) : nrm s = ⟨[], s.e⟩ := if_neg h
theorem nrm_e (s : Rst) : (nrm s).e = s.e := by unfold nrm; split <;> rfl

theorem blk2_far {w : World} {g : Nat} {x y : Value} {t : TypeId} (h : w.heap[g]? = some (.cells #[x, y] t (0, 0))) : w.cell? ⟨g, 0, none⟩ = some x ∧ w.cell? ⟨g, 1, none⟩ = some y ∧ w.frozen? ⟨g, 0, none⟩ = false ∧ w.frozen? ⟨g, 1, none⟩ = false := by
  refine ⟨by simp [World.cell?, h], by simp [World.cell?, h], by simp [World.frozen?, h], by simp [World.frozen?, h]⟩

theorem rfail_any (g : Nat) (s : Rst) (x : Int) (w : World) (h : RdrAt w 81 g s) :
    Calls Try.prog 42 #[.pointer (some ⟨g, 0, none⟩), .int .i64 x] w (RdrPost w 81 g (.tuple #[]) ⟨[], if s.e = 0 then x else s.e⟩) := by
  obtain ⟨A, c, q0, q1, f0, f1, HK, hc, hA, hr⟩ := rdr_cells h
  clear h hr hA hc
  obtain ⟨l, e⟩ := s
  simp only at q0 q1 HK ⊢
  by_cases he : e = 0
  · subst he
    rw [if_pos rfl]
    go_enter Try.func42, Try.ntmps42
    go_wp2
    go_end0
    refine ⟨rfl, ⟨none, 0, ?_, Nat.le_refl _, fun _ => rfl, .inl rfl⟩, (grown_set _ _ _ _).trans (grown_set _ _ _ _)⟩
    exact blk_set (blk_set HK.out _) _
  · rw [if_neg he]
    have b1 : (e == 0) = false := by simpa using he
    go_enter Try.func42, Try.ntmps42
    go_wp2
    go_end0
    refine ⟨rfl, ⟨none, 0, ?_, Nat.le_refl _, fun _ => rfl, .inl rfl⟩, grown_set _ _ _ _⟩
    exact blk_set HK.out _

set_option maxHeartbeats 1000000 in
theorem rtake_any (g n : Nat) (s : Rst) (w : World) (h : RdrAt w 81 g s) (hn : n ≤ s.l.length) (hl : s.l.length ≤ 100000000) :
    Calls Try.prog 53 #[.pointer (some ⟨g, 0, none⟩), .int .i64 n] w (RawPost w 81 g (s.l.take n) ⟨s.l.drop n, s.e⟩) := by
  obtain ⟨A, c, q0, q1, f0, f1, HK, hc, hA, hr⟩ := rdr_cells h
  clear h
  obtain ⟨l, e⟩ := s
  simp only at q0 q1 HK hc hr hn hl ⊢
  go_enter Try.func53, Try.ntmps53
  go_wp2
  all_goals
    go_ret
    refine ⟨_, rfl, ?_, ?_, grown_set _ _ _ _⟩
  · have hcn := h
    refine ⟨A, n, ?_, ?_, fun h => by rw [← hcn]; exact hA h, rd_far (rd_take hr n) (Nat.le_refl _) _⟩
    · rw [List.length_take, Nat.min_eq_left hn]; rfl
    · rw [List.length_take]; omega
  · have hcn := h
    have hmv := rdr_move2 HK.out hc hA hr n hn A (.inl ⟨hcn, rfl⟩)
    rw [show c - n = 0 by omega] at hmv
    exact hmv
  · refine ⟨A, c, ?_, ?_, hA, rd_far (rd_take hr n) (Nat.le_refl _) _⟩
    · rw [List.length_take, Nat.min_eq_left hn]; rfl
    · rw [List.length_take]; omega
  · have hcn := h
    exact rdr_move2 HK.out hc hA hr n hn _ (.inr ⟨hcn, rfl⟩)

theorem roctet_nil (g : Nat) (e : Int) (w : World) (h : RdrAt w 81 g ⟨[], e⟩) :
    Calls Try.prog 41 #[.pointer (some ⟨g, 0, none⟩)] w (RdrPost w 81 g (.int .u8 0) ⟨[], if e = 0 then 3 else e⟩) := by
  have hF := rfail_any g ⟨[], e⟩ 3 w h
  obtain ⟨A, c, q0, q1, f0, f1, HK, hc, hA, hr⟩ := rdr_cells h
  clear h hr hA hc q1
  simp only [List.length_nil] at q0 hF
  generalize (if e = 0 then (3 : Int) else e) = e2 at hF
  go_enter Try.func41, Try.ntmps41
  go_wp2_with (go_at_call 42; refine hF.mono ?_; clear hF; rintro e' w1 ⟨rfl, hr1, hg1⟩)
  go_ret
  exact ⟨rfl, hr1, hg1⟩
theorem roctet_cons (g : Nat) (x : Int) (r : List Int) (e : Int) (w : World) (h : RdrAt w 81 g ⟨x :: r, e⟩) (hl : r.length ≤ 90000000) :
    Calls Try.prog 41 #[.pointer (some ⟨g, 0, none⟩)] w (RdrPost w 81 g (.int .u8 x) ⟨r, e⟩) := by
  have hT : Calls Try.prog 53 #[.pointer (some ⟨g, 0, none⟩), .int .i64 1] w (RawPost w 81 g [x] ⟨r, e⟩) := rtake_any g 1 ⟨x :: r, e⟩ w h (by simp) (by simp; omega)
  obtain ⟨A, c, q0, q1, f0, f1, HK, hc, hA, hr⟩ := rdr_cells h
  clear h hr hA hc q1
  simp only [List.length_cons] at q0
  have b1 : (((r.length : Int) + 1) == 0) = false := by simp; omega
  go_enter Try.func41, Try.ntmps41
  go_wp2_with (go_at_call 53; refine hT.mono ?_; clear hT; rintro e' w1 ⟨v1, rfl, ⟨A1, c1, rfl, hc1, _, hr1⟩, hrd1, hg1⟩; obtain ⟨b1, o1, rfl, hb1, hck⟩ := hr1.at_ (j := 0) (by simp); simp only [List.getElem?_cons_zero, Option.getD_some, Nat.add_zero] at hck)
  go_ret
  exact ⟨rfl, hrd1, hg1⟩
end Go.Proofs.Ytkffpfnmjadpaaa

namespace Go.Proofs.Ytkffpfnmjadpaaa
open Go.RowKit

theorem dev_num {x : Int} {N k : Nat} (hx : 0 ≤ x ∧ x < 256) (hN : N < 128 ^ k) (hk : k ≤ 9) (h9 : k = 9 → x ≤ 1) :
    bits .or .u64 (N : Int) (IntKind.u64.wrap (IntKind.u64.wrap (bits .andNot .u8 x 128) * 2 ^ (7 * k))) = ((N + x.toNat % 128 * 128 ^ k : Nat) : Int) ∧ N + x.toNat % 128 * 128 ^ k < 18446744073709551616 := by
  obtain ⟨d, hd, rfl⟩ : ∃ d : Nat, d < 256 ∧ x = d := ⟨x.toNat, by omega, by omega⟩
  have e0 : bits .andNot .u8 (d : Int) 128 = ((d % 128 : Nat) : Int) := by
    have := u8_andNot_nat d 128 hd (by decide)
    rw [show (255 - 128 : Nat) = 2 ^ 7 - 1 from rfl, Nat.and_two_pow_sub_one_eq_mod] at this
    exact this
  have e1 : ((d : Int).toNat) % 128 = d % 128 := by omega
  have ep : (128 : Nat) ^ k = 2 ^ (7 * k) := by rw [Nat.pow_mul]
  have hmul : d % 128 * 128 ^ k ≤ 127 * 128 ^ k := Nat.mul_le_mul_right _ (by omega)
  have hb : N + d % 128 * 128 ^ k < 18446744073709551616 := by
    by_cases h : k = 9
    · subst h
      have : d % 128 * 128 ^ 9 ≤ 1 * 128 ^ 9 := Nat.mul_le_mul_right _ (by have := h9 rfl; omega)
      omega
    · have hp8 : (128 : Nat) ^ k ≤ 128 ^ 8 := Nat.pow_le_pow_right (by decide) (by omega)
      omega
  rw [e0, e1]
  refine ⟨?_, hb⟩
  have e2 : ((d % 128 : Nat) : Int) * 2 ^ (7 * k) = ((d % 128 * 128 ^ k : Nat) : Int) := by rw [ep, Int.natCast_mul, Int.natCast_pow]; rfl
  rw [u64_of (x := ((d % 128 : Nat) : Int)) ⟨by omega, by omega⟩, e2, u64_of (x := ((d % 128 * 128 ^ k : Nat) : Int)) ⟨by omega, by omega⟩, u64_or_nat N (d % 128 * 128 ^ k) (by omega) (by omega)]
  rw [ep] at hN ⊢
  rw [Nat.or_comm, Nat.mul_comm, ← Nat.two_pow_add_eq_or_of_lt hN]
  omega
set_option maxRecDepth 100000 in
set_option maxHeartbeats 4000000 in
theorem rUint_zero (g : Nat) (l : List Int) (w : World) (h : RdrAt w 81 g ⟨l, 0⟩) (h8 : Bytes8 l) (hl : l.length ≤ 90000000) :
    Calls Try.prog 26 #[.pointer (some ⟨g, 0, none⟩)] w (RdrPost w 81 g (.int .u64 ((uintR ⟨l, 0⟩).1 : Nat)) (nrm (uintR ⟨l, 0⟩).2)) := by
  go_enter Try.func26, Try.ntmps26
  go_wp2
  go_loopw [3, 4] (fun n i wr => ∃ k N : Nat, k ≤ 9 ∧ k ≤ l.length ∧ Hid (N < 128 ^ k) ∧ Hid (rdv 0 0 l = rdv k N (l.drop k)) ∧ n = .int .u64 N ∧ i = .int .i64 k ∧ RdrAt wr 81 g ⟨l.drop k, 0⟩ ∧ w.grownBy wr (some g)) (fun _ i _ => 10 - (intOf i).toNat)
  case atStart => exact ⟨0, 0, by omega, by omega, Lib.hid (by decide), Lib.hid rfl, rfl, rfl, h, World.grownBy.refl w _⟩
  case round =>
    clear h
    obtain ⟨k, N, hk9, hkl, hN, hrd, rfl, rfl, hra, hW⟩ := hrel
    by_cases hlt : k < l.length
    · have hcb := h8.get k
      have hdrop : l.drop k = l[k]?.getD 0 :: l.drop (k + 1) := by rw [List.drop_eq_getElem_cons hlt]; simp [hlt]
      obtain ⟨x, hx⟩ : ∃ x, x = l[k]?.getD 0 := ⟨_, rfl⟩
      rw [← hx] at hcb hdrop
      rw [hdrop] at hra
      have hO := roctet_cons g x (l.drop (k + 1)) 0 wr hra (by rw [List.length_drop]; omega)
      have HD := Lib.hid hdrop
      obtain ⟨hx0, hx1⟩ := hcb
      clear hx hdrop hra
      obtain ⟨r, hrr⟩ : ∃ r, r = l.drop (k + 1) := ⟨_, rfl⟩
      rw [← hrr] at hO HD
      have HR := Lib.hid hrr.symm
      clear hrr
      by_cases hbad : (k = 9 ∧ 1 < x) ∨ (0 < k ∧ x = 0)
      · have HU := Lib.hid (show nrm (uintR ⟨l, 0⟩).2 = ⟨[], 2⟩ ∧ (uintR ⟨l, 0⟩).1 = 0 by
          have : rdv 0 0 l = .error true := by rw [hrd.out, HD.out, rdv, if_pos hbad]
          simp [uintR, this, nrm])
        by_cases h9 : k = 9
        · subst h9
          have hx9 : 1 < x ∨ x = 0 := by omega
          clear hbad
          rcases hx9 with hx9 | rfl
          all_goals
            go_wp2_with (first
              | (go_at_call 41; refine hO.mono ?_; clear hO; rintro e' w1 ⟨rfl, hr1, hg1⟩; obtain ⟨A, c, q0, q1, f0, f1, HK, hc, hA, hr⟩ := rdr_cells hr1; have hF := rfail_any g _ 2 _ hr1; rw [if_pos rfl] at hF)
              | (go_at_call 42; refine hF.mono ?_; clear hF; rintro e' w2 ⟨rfl, hr2, hg2⟩))
            go_ret
            exact ⟨by rw [HU.out.2]; rfl, by rw [HU.out.1]; exact hr2, (hW.trans hg1).trans hg2⟩
        · have h0k : 0 < k := by omega
          obtain rfl : x = 0 := by omega
          clear hbad
          have b3 : ((k : Int) == 9) = false := by simp; omega
          have b4 : decide ((0 : Int) < (k : Int)) = true := decide_eq_true (by omega)
          have b5 : decide (0 < k) = true := decide_eq_true (by omega)
          go_wp2_with (first
              | (go_at_call 41; refine hO.mono ?_; clear hO; rintro e' w1 ⟨rfl, hr1, hg1⟩; obtain ⟨A, c, q0, q1, f0, f1, HK, hc, hA, hr⟩ := rdr_cells hr1; have hF := rfail_any g _ 2 _ hr1; rw [if_pos rfl] at hF)
              | (go_at_call 42; refine hF.mono ?_; clear hF; rintro e' w2 ⟨rfl, hr2, hg2⟩))
          go_ret
          exact ⟨by rw [HU.out.2]; rfl, by rw [HU.out.1]; exact hr2, (hW.trans hg1).trans hg2⟩
      · have hx9 : k = 9 → x ≤ 1 := fun h => by omega
        have hnum := dev_num (x := x) (N := N) (k := k) ⟨hx0, hx1⟩ hN.out hk9 hx9
        have HNM := Lib.hid hnum
        clear hnum
        by_cases hx128 : x < 128
        · have HU := Lib.hid (show uintR ⟨l, 0⟩ = (N + x.toNat % 128 * 128 ^ k, ⟨r, 0⟩) by
            have : rdv 0 0 l = .ok (N + x.toNat % 128 * 128 ^ k, r) := by rw [hrd.out, HD.out, rdv, if_neg hbad, if_pos hx128]
            simp [uintR, this])
          have hkk : (9 ≤ k ∧ x ≤ 1 ∧ 1 ≤ x) ∨ (0 < k ∧ k < 9 ∧ 1 ≤ x) ∨ (k ≤ 0 ∧ k < 9 ∧ k < 10) := by omega
          clear hbad hx9
          have b123 : Hid ((9 ≤ k → x ≤ 1 → decide ((1 : Int) < x) = false ∧ ((k : Int) == 9) = true) ∧ (k < 9 → ((k : Int) == 9) = false) ∧ (1 ≤ x → (x == 0) = false)) := Lib.hid ⟨fun h h2 => ⟨by simp; omega, by simp; omega⟩, fun h => by simp; omega, fun h => by simp; omega⟩
          rcases hkk with ⟨hk0, hk1, hx2⟩ | ⟨hk0, hk1, hx2⟩ | ⟨hk0, hk1, hx2⟩
          · obtain ⟨b2, b3⟩ := b123.out.1 hk0 hk1
            have b1 := b123.out.2.2 hx2
            have b4 : decide (0 < k) = true := decide_eq_true (by omega)
            have b5 : decide ((0 : Int) < (k : Int)) = true := decide_eq_true (by omega)
            go_wp2_with (go_at_call 41; refine hO.mono ?_; clear hO; rintro e' w1 ⟨rfl, hr1, hg1⟩; obtain ⟨A, c, q0, q1, f0, f1, HK, hc, hA, hr⟩ := rdr_cells hr1)
            go_ret
            exact ⟨by rw [HU.out, ← HNM.out.1]; rfl, by rw [HU.out]; exact hr1, hW.trans hg1⟩
          · have b3 := b123.out.2.1 hk1
            have b2 := b123.out.2.2 hx2
            have b4 : decide (0 < k) = true := decide_eq_true hk0
            have b5 : decide ((0 : Int) < (k : Int)) = true := decide_eq_true (by omega)
            go_wp2_with (go_at_call 41; refine hO.mono ?_; clear hO; rintro e' w1 ⟨rfl, hr1, hg1⟩; obtain ⟨A, c, q0, q1, f0, f1, HK, hc, hA, hr⟩ := rdr_cells hr1)
            go_ret
            exact ⟨by rw [HU.out, ← HNM.out.1]; rfl, by rw [HU.out]; exact hr1, hW.trans hg1⟩
          · have b3 := b123.out.2.1 hk1
            have b4 : decide (0 < k) = false := decide_eq_false (by omega)
            have b5 : decide ((0 : Int) < (k : Int)) = false := decide_eq_false (by omega)
            go_wp2_with (go_at_call 41; refine hO.mono ?_; clear hO; rintro e' w1 ⟨rfl, hr1, hg1⟩; obtain ⟨A, c, q0, q1, f0, f1, HK, hc, hA, hr⟩ := rdr_cells hr1)
            go_ret
            exact ⟨by rw [HU.out, ← HNM.out.1]; rfl, by rw [HU.out]; exact hr1, hW.trans hg1⟩
        · have hk8 : k < 9 := by omega
          have hrd2 := Lib.hid (show rdv 0 0 l = rdv (k + 1) (N + x.toNat % 128 * 128 ^ k) (l.drop (k + 1)) by rw [hrd.out, HD.out, rdv, if_neg hbad, if_neg hx128, ← HR.out])
          have hN2 : Hid (N + x.toNat % 128 * 128 ^ k < 128 ^ (k + 1)) := Lib.hid (by
            have h1 := hN.out
            have hmul : x.toNat % 128 * 128 ^ k ≤ 127 * 128 ^ k := Nat.mul_le_mul_right _ (by omega)
            rw [Nat.pow_succ]
            omega)
          have hkk : (0 < k ∧ 1 ≤ x) ∨ (k ≤ 0 ∧ 1 ≤ x) := by omega
          clear hbad hx9
          have b3 : ((k : Int) == 9) = false := by simp; omega
          have b2 : (x == 0) = false := by simp; omega
          have b6 : decide (x < 128) = false := decide_eq_false hx128
          rcases hkk with ⟨hk0, hx2⟩ | ⟨hk0, hx2⟩
          · have b4 : decide (0 < k) = true := decide_eq_true hk0
            have b5 : decide ((0 : Int) < (k : Int)) = true := decide_eq_true (by omega)
            go_wp2_with (go_at_call 41; refine hO.mono ?_; clear hO; rintro e' w1 ⟨rfl, hr1, hg1⟩; obtain ⟨A, c, q0, q1, f0, f1, HK, hc, hA, hr⟩ := rdr_cells hr1)
            go_roundw
            case rel => exact ⟨k + 1, N + x.toNat % 128 * 128 ^ k, by omega, by omega, hN2, hrd2, by rw [← HNM.out.1], by go_num, by rw [HR.out]; exact hr1, hW.trans hg1⟩
            case measure => simp [intOf]; omega
          · have b4 : decide (0 < k) = false := decide_eq_false (by omega)
            have b5 : decide ((0 : Int) < (k : Int)) = false := decide_eq_false (by omega)
            go_wp2_with (go_at_call 41; refine hO.mono ?_; clear hO; rintro e' w1 ⟨rfl, hr1, hg1⟩; obtain ⟨A, c, q0, q1, f0, f1, HK, hc, hA, hr⟩ := rdr_cells hr1)
            go_roundw
            case rel => exact ⟨k + 1, N + x.toNat % 128 * 128 ^ k, by omega, by omega, hN2, hrd2, by rw [← HNM.out.1], by go_num, by rw [HR.out]; exact hr1, hW.trans hg1⟩
            case measure => simp [intOf]; omega
    · have hO := roctet_nil g 0 wr (by rw [List.drop_eq_nil_of_le (by omega)] at hra; exact hra)
      rw [if_pos rfl] at hO
      have HU := Lib.hid (show nrm (uintR ⟨l, 0⟩).2 = ⟨[], 3⟩ ∧ (uintR ⟨l, 0⟩).1 = 0 by
        have : rdv 0 0 l = .error false := by rw [hrd.out, List.drop_eq_nil_of_le (by omega)]; rfl
        simp [uintR, this, nrm])
      clear hra
      go_wp2_with (go_at_call 41; refine hO.mono ?_; clear hO; rintro e' w1 ⟨rfl, hr1, hg1⟩; obtain ⟨A, c, q0, q1, f0, f1, HK, hc, hA, hr⟩ := rdr_cells hr1)
      go_ret
      exact ⟨by rw [HU.out.2]; rfl, by rw [HU.out.1]; exact hr1, hW.trans hg1⟩
theorem rUint_err (g : Nat) (e : Int) (w : World) (h : RdrAt w 81 g ⟨[], e⟩) (he : e ≠ 0) :
    Calls Try.prog 26 #[.pointer (some ⟨g, 0, none⟩)] w (RdrPost w 81 g (.int .u64 0) ⟨[], e⟩) := by
  have hO := roctet_nil g e w h
  rw [if_neg he] at hO
  have b1 : (e != 0) = true := by simpa using he
  have b2 : (e == 0) = false := by simpa using he
  clear h
  go_enter Try.func26, Try.ntmps26
  go_wp2
  go_loopw [3, 4] (fun n i wr => n = .int .u64 0 ∧ i = .int .i64 0 ∧ w = wr) (fun _ _ _ => 0)
  case atStart => exact ⟨rfl, rfl, rfl⟩
  case round =>
    obtain ⟨rfl, rfl, rfl⟩ := hrel
    go_wp2_with (go_at_call 41; refine hO.mono ?_; clear hO; rintro e' w1 ⟨rfl, hr1, hg1⟩; obtain ⟨A, c, q0, q1, f0, f1, HK, hc, hA, hr⟩ := rdr_cells hr1)
    go_ret
    exact ⟨rfl, hr1, hg1⟩
/-- UINT, whatever the reader's state -/
theorem rUint_any (g : Nat) (s : Rst) (w : World) (h : RdrAt w 81 g (nrm s)) (h8 : Bytes8 s.l) (hl : s.l.length ≤ 90000000) :
    Calls Try.prog 26 #[.pointer (some ⟨g, 0, none⟩)] w (RdrPost w 81 g (.int .u64 ((uintR s).1 : Nat)) (nrm (uintR s).2)) := by
  by_cases he : s.e = 0
  · rw [nrm_ok he] at h
    rw [Rst.zero he] at h ⊢
    exact rUint_zero g s.l w h h8 hl
  · rw [nrm_err he] at h
    rw [uintR_err he, nrm_err he]
    exact rUint_err g s.e w h he
end Go.Proofs.Ytkffpfnmjadpaaa

namespace Go.Proofs.Ytkffpfnmjadpaaa
open Go.RowKit

theorem grown_below {w w' : World} (hb : Below w.heap.size w w') (row : Option Nat) : w.grownBy w' row := ⟨hb.os, hb.tape, hb.output, hb.size, fun i hi _ => hb.block i hi⟩
theorem rdr_below {W W' : World} {T : TypeId} {g : Nat} {s : Rst} (h : RdrAt W T g s) (hb : Below W.heap.size W W') : RdrAt W' T g s := by
  obtain ⟨A, c, hk, hc, hA, hr⟩ := h
  have hg : g < W.heap.size := (Array.getElem?_eq_some_iff.1 hk).1
  exact ⟨A, c, (hb.block g hg).trans hk, hc, hA, hr.below (hb.mono (Nat.le_of_lt hg))⟩
theorem uintR_len {s : Rst} (h8 : Bytes8 s.l) : (uintR s).2.l.length ≤ s.l.length ∧ Bytes8 (uintR s).2.l := by
  obtain ⟨l, e⟩ := s
  unfold uintR
  split
  · cases hr : rdv 0 0 l with
    | error b => exact ⟨Nat.le_refl _, h8⟩
    | ok p =>
      obtain ⟨q, _, he, _⟩ := rdv_back l 0 0 p.1 p.2 h8 hr
      have h1 := congrArg List.length he
      rw [List.length_append] at h1
      exact ⟨by simp only; omega, bytes8_right (he ▸ h8)⟩
  · exact ⟨Nat.le_refl _, h8⟩
theorem uintR_fail {s : Rst} (h : (uintR s).2.e ≠ 0) : (uintR s).1 = 0 := by
  unfold uintR at h ⊢
  split
  · rename_i h0
    rw [if_pos h0] at h
    cases hr : rdv 0 0 s.l with
    | error b => rfl
    | ok p =>
      simp only [hr] at h
      exact absurd rfl h
  · rfl

theorem rInt_any (g : Nat) (s : Rst) (w : World) (h : RdrAt w 81 g (nrm s)) (h8 : Bytes8 s.l) (hl : s.l.length ≤ 90000000) :
    Calls Try.prog 52 #[.pointer (some ⟨g, 0, none⟩)] w (RdrPost w 81 g (.int .i64 (intR s).1) (nrm (intR s).2)) := by
  have hU := rUint_any g s w h h8 hl
  have hB := fun W => dunzig_any (uintR s).1 W (uintR_lt s h8)
  have H1 := Lib.hid (show (intR s).1 = unzz (uintR s).1 from rfl)
  have H2 := Lib.hid (show (intR s).2 = (uintR s).2 from rfl)
  generalize uintR s = r at hU hB H1 H2
  generalize intR s = r2 at H1 H2
  clear h
  go_enter Try.func52, Try.ntmps52
  go_wp2_with (first
    | (go_at_call 26; refine hU.mono ?_; clear hU; rintro e w1 ⟨rfl, hr1, hg1⟩)
    | (go_at_call 57; refine (hB _).mono ?_; clear hB; rintro e w2 ⟨rfl, rfl⟩))
  go_ret
  exact ⟨by rw [H1.out]; rfl, by rw [H2.out]; exact hr1, hg1⟩

theorem endR_nrm (s : Rst) : endR (nrm s) = endR s := by
  unfold nrm
  split
  · rfl
  · rename_i h
    simp [endR, h]
theorem rEnd_any (g : Nat) (s : Rst) (w : World) (h : RdrAt w 81 g (nrm s)) (hl : s.l.length ≤ 100000000) :
    Calls Try.prog 28 #[.pointer (some ⟨g, 0, none⟩)] w fun e w' => e = .returned (.int .i64 (endR s)) ∧ w = w' := by
  have hll : (nrm s).l.length ≤ 100000000 := by
    unfold nrm
    split
    · exact hl
    · exact Nat.zero_le _
  rw [← endR_nrm]
  generalize nrm s = s at h hll
  clear hl
  obtain ⟨A, c, q0, q1, f0, f1, HK, hc, hA, hr⟩ := rdr_cells h
  clear h hr hA
  obtain ⟨l, e⟩ := s
  simp only at q0 q1 hll hc HK ⊢
  by_cases he : e = 0
  · subst he
    by_cases h0 : 0 < l.length
    · have HR := Lib.hid (show endR ⟨l, 0⟩ = 2 by simp [endR, h0])
      have b1 : decide (0 < l.length) = true := decide_eq_true h0
      have b2 : decide ((0 : Int) < (l.length : Int)) = true := decide_eq_true (by omega)
      go_enter Try.func28, Try.ntmps28
      go_wp2
      go_ret
      exact ⟨by rw [HR.out]; rfl, rfl⟩
    · have HR := Lib.hid (show endR ⟨l, 0⟩ = 0 by simp [endR, h0])
      have b1 : decide (0 < l.length) = false := decide_eq_false h0
      have b2 : decide ((0 : Int) < (l.length : Int)) = false := decide_eq_false (by omega)
      go_enter Try.func28, Try.ntmps28
      go_wp2
      go_ret
      exact ⟨by rw [HR.out]; rfl, rfl⟩
  · have HR := Lib.hid (show endR ⟨l, e⟩ = e by simp [endR, he])
    have b1 : (e == 0) = false := by simpa using he
    have b2 : (e != 0) = true := by simpa using he
    go_enter Try.func28, Try.ntmps28
    go_wp2
    go_ret
    exact ⟨by rw [HR.out]; rfl, rfl⟩

/-- what Read leaves: a reader in a block of its own -/
def ReadPost (w : World) (zs : List Int) (e : Ending) (w' : World) : Prop := ∃ g, e = .returned (.pointer (some ⟨g, 0, none⟩)) ∧ w.heap.size ≤ g ∧ RdrAt w' 81 g ⟨zs, 0⟩ ∧ Below w.heap.size w w'
theorem dRead_any (A : Option Addr) (n c : Nat) (zs : List Int) (w : World) (hn : n = zs.length) (hz : zs.length ≤ 90000000) (hcap : zs.length ≤ c) (hA : A = none → c = 0) (hr : RdI w w.heap.size .u8 A zs) :
    Calls Try.prog 24 #[.slice A n c] w (ReadPost w zs) := by
  subst hn
  have hC := clone_any A zs.length c zs w rfl (by omega) hcap hA hr
  clear hr hA
  go_enter Try.func24, Try.ntmps24
  go_wp2_with (go_at_call 36; refine hC.mono ?_; clear hC; rintro e w1 ⟨A1, c1, rfl, hc1, hrow1, hb1⟩)
  go_ret
  have hsz := hb1.size
  have hR : RdrAt (w1.alloc (.cells #[.slice A1 zs.length c1, .int .i64 0] 81)) 81 w1.heap.size ⟨zs, 0⟩ := ⟨A1, c1, heap_alloc_new w1 _, hc1, own_none hrow1, (rd_own hrow1).below ((Below.refl _ _).alloc (Nat.le_refl _) _)⟩
  exact ⟨w1.heap.size, rfl, hsz, hR, hb1.alloc hsz _⟩

/-- string(b) of a byte slice, nil let in -/
theorem conv_str (A : Option Addr) (n c : Nat) (zs : List Int) (W : World) (B : Nat) (hn : zs.length = n) (hr : RdI W B .u8 A zs) :
    (convert 24 9 (.slice A n c)).run Try.prog W = .ok (.string (strOfNums zs)) W := by
  cases A with
  | none =>
    rcases hr with rfl | ⟨b, o, e, _⟩
    · exact run_convert_bytes_nil W 24 5 Try.underlying24 Try.underlying5 n c 9 Try.underlying9
    · cases e
  | some x =>
    have hl : (loadCells x n).run Try.prog W = .ok (zs.map (Value.int .u8)).toArray W := by
      have hc := rd_cells hr zs.length
      rw [List.take_length] at hc
      have := run_loadCells_list (P := Try.prog) W x (zs.map (Value.int .u8)) (fun j v hj => hc j v hj)
      simpa [hn] using this
    rw [run_convert_bytes_string W 24 9 5 _ n c Try.underlying24 Try.underlying5 Try.underlying9, run_bytesToString W _ n c zs hl, foldl_push_bytes]
    simp [strOfNums, ByteArray.empty, ByteArray.emptyWithCapacity]
    rfl

/-- what is handed back is a new row; the reader moved on -/
def RowPost (w : World) (g : Nat) (e : TypeId) (k : IntKind) (zs : List Int) (s : Rst) (en : Ending) (w' : World) : Prop :=
  ∃ A c, en = .returned (.slice A zs.length c) ∧ zs.length ≤ c ∧ w'.ownsRow w.heap.size e 1 (.slice A zs.length c) zs.length (zs.map (Value.int k)) ∧ RdrAt w' 81 g s ∧ w.grownBy w' (some g)
end Go.Proofs.Ytkffpfnmjadpaaa

namespace Go.Proofs.Ytkffpfnmjadpaaa
open Go.RowKit

theorem lenR_zero {s : Rst} (h : (lenR s).2.e ≠ 0) : (lenR s).1 = 0 := by
  unfold lenR at h ⊢
  split
  · rename_i h0
    rw [if_pos h0] at h
    split
    · rfl
    · rename_i h1
      rw [if_neg h1] at h
      exact absurd h0 h
  · rfl
theorem lenR_nrm (s : Rst) (h8 : Bytes8 s.l) : (lenR s).1 ≤ (nrm (lenR s).2).l.length := by
  by_cases h : (lenR s).2.e = 0
  · rw [nrm_ok h]
    exact (lenR_len s h8 h).1
  · rw [lenR_zero h]
    exact Nat.zero_le _
theorem lenR_short (s : Rst) (h8 : Bytes8 s.l) : (nrm (lenR s).2).l.length ≤ s.l.length := by
  by_cases h : (lenR s).2.e = 0
  · rw [nrm_ok h]
    exact (lenR_len s h8 h).2.1
  · rw [nrm_err h]
    exact Nat.zero_le _
theorem rawR_nrm (s : Rst) : (nrm (lenR s).2).l.take (lenR s).1 = (rawR s).1 ∧ (⟨(nrm (lenR s).2).l.drop (lenR s).1, (nrm (lenR s).2).e⟩ : Rst) = nrm (rawR s).2 := by
  unfold rawR
  by_cases h : (lenR s).2.e = 0
  · rw [if_pos h, nrm_ok h, h]
    exact ⟨rfl, (nrm_ok rfl).symm⟩
  · rw [if_neg h, nrm_err h, lenR_zero h]
    exact ⟨rfl, rfl⟩


set_option maxHeartbeats 2000000 in
theorem listInts_any (g : Nat) (s : Rst) (w : World) (h : RdrAt w 81 g (nrm s)) (h8 : Bytes8 s.l) (hl : s.l.length ≤ 90000000) (P : World → Ending → World → Prop)
    (hE : ∀ W, w.grownBy W (some g) → RdrAt W 81 g (nrm (lenR s).2) → Calls Try.prog 40 #[.pointer (some ⟨g, 0, none⟩), .int .i64 ((lenR s).1 : Nat)] W fun e w' => ∃ v, e = .returned v ∧ P W (.returned v) w') :
    Calls Try.prog 39 #[.pointer (some ⟨g, 0, none⟩), .func (.func 40) #[.pointer (some ⟨g, 0, none⟩)] #[]] w fun e w' => ∃ W, w.grownBy W (some g) ∧ P W e w' := by
  have hU := rUint_any g s w h h8 hl
  obtain ⟨hul, hu8⟩ := uintR_len h8
  have hfl := uintR_fail (s := s)
  have HL := Lib.hid (show lenR s = if (uintR s).2.e = 0 then (if (uintR s).2.l.length < (uintR s).1 then (0, ⟨(uintR s).2.l, 3⟩) else uintR s) else (0, (uintR s).2) from rfl)
  generalize uintR s = r at hU hul hu8 hfl HL
  generalize lenR s = q at hE HL
  obtain ⟨n, s1⟩ := r
  simp only at hU hul hu8 hfl HL
  clear h h8 hu8
  by_cases he : s1.e = 0
  · have HE0 := Lib.hid he
    by_cases hlt : s1.l.length < n
    · have HR : q = (0, ⟨s1.l, 3⟩) := by rw [HL.out, if_pos he, if_pos hlt]
      subst HR
      have b1 : decide (s1.l.length < n) = true := decide_eq_true hlt
      have b2 : decide ((s1.l.length : Int) < (n : Int)) = true := decide_eq_true (by omega)
      rw [nrm_ok he] at hU
      rw [nrm_err (s := ⟨s1.l, 3⟩) (show (3 : Int) ≠ 0 by decide)] at hE
      simp only at hE
      have hll : s1.l.length ≤ 90000000 := by omega
      clear hfl he HL
      go_enter Try.func39, Try.ntmps39
      go_wp2_with (first
        | (go_at_call 26; refine hU.mono ?_; clear hU; rintro e' w1 ⟨rfl, hr1, hg1⟩; obtain ⟨A, c, q0, q1, f0, f1, HK, hc, hA, hr⟩ := rdr_cells hr1; have hF := rfail_any g _ 3 _ hr1; rw [if_pos HE0.out] at hF)
        | (go_at_call 42; refine hF.mono ?_; clear hF; rintro e' w2 ⟨rfl, hr2, hg2⟩; have hG := Lib.hid (hg1.trans hg2))
        | (go_at_call 40; refine (hE _ hG.out hr2).mono ?_; clear hE; rintro e' w3 ⟨v3, rfl, hp3⟩))
      go_ret
      exact ⟨w2, hG.out, hp3⟩
    · have HR : q = (n, s1) := by rw [HL.out, if_pos he, if_neg hlt]
      subst HR
      have b1 : decide (s1.l.length < n) = false := decide_eq_false hlt
      have b2 : decide ((s1.l.length : Int) < (n : Int)) = false := decide_eq_false (by omega)
      rw [nrm_ok he] at hU hE
      simp only at hE
      have hll : s1.l.length ≤ 90000000 := by omega
      have hnn : n ≤ 90000000 := by omega
      clear hfl he HL
      go_enter Try.func39, Try.ntmps39
      go_wp2_with (first
        | (go_at_call 26; refine hU.mono ?_; clear hU; rintro e' w1 ⟨rfl, hr1, hg1⟩; obtain ⟨A, c, q0, q1, f0, f1, HK, hc, hA, hr⟩ := rdr_cells hr1; have hG := Lib.hid hg1)
        | (go_at_call 40; refine (hE _ hG.out hr1).mono ?_; clear hE; rintro e' w3 ⟨v3, rfl, hp3⟩))
      go_ret
      exact ⟨w1, hG.out, hp3⟩
  · obtain rfl : n = 0 := hfl he
    have HR : q = (0, s1) := by rw [HL.out, if_neg he]
    subst HR
    rw [nrm_err he] at hU hE
    simp only at hE
    clear hfl he HL
    go_enter Try.func39, Try.ntmps39
    go_wp2_with (first
      | (go_at_call 26; refine hU.mono ?_; clear hU; rintro e' w1 ⟨rfl, hr1, hg1⟩; obtain ⟨A, c, q0, q1, f0, f1, HK, hc, hA, hr⟩ := rdr_cells hr1; have hG := Lib.hid hg1)
      | (go_at_call 40; refine (hE _ hG.out hr1).mono ?_; clear hE; rintro e' w3 ⟨v3, rfl, hp3⟩))
    go_ret
    exact ⟨w1, hG.out, hp3⟩
end Go.Proofs.Ytkffpfnmjadpaaa

namespace Go.Proofs.Ytkffpfnmjadpaaa
open Go.RowKit

theorem rdr_grown {W W' : World} {T : TypeId} {g : Nat} {s : Rst} {row : Option Nat} (h : RdrAt W T g s) (hg : W.grownBy W' row) (hr : ∀ j, row = some j → g < j) : RdrAt W' T g s := by
  obtain ⟨A, c, hk, hc, hA, hr0⟩ := h
  have hl : g < W.heap.size := (Array.getElem?_eq_some_iff.1 hk).1
  have hb : Below (g + 1) W W' := ⟨hg.os, hg.tape, hg.output, hg.size, fun k hk => hg.block k (by omega) (fun e => by have := hr k e.symm; omega)⟩
  exact ⟨A, c, (hb.block g (by omega)).trans hk, hc, hA, hr0.below (hb.mono (by omega))⟩
theorem grownBy_two {w W W' : World} {row : Option Nat} {g : Nat} (h : w.grownBy W (some g)) (hg : W.grownBy W' row) (hr : ∀ j, row = some j → w.heap.size ≤ j) : w.grownBy W' (some g) :=
  ⟨hg.os.trans h.os, hg.tape.trans h.tape, hg.output.trans h.output, Nat.le_trans h.size hg.size, fun k hk hne => (hg.block k (Nat.lt_of_lt_of_le hk h.size) (fun e => by have := hr k e.symm; omega)).trans (h.block k hk hne)⟩

theorem intR_len {s : Rst} (h8 : Bytes8 s.l) : (intR s).2.l.length ≤ s.l.length ∧ Bytes8 (intR s).2.l := uintR_len h8

set_option maxRecDepth 100000 in
set_option maxHeartbeats 2000000 in
theorem rints_any (g n : Nat) (t : Rst) (w : World) (h : RdrAt w 81 g (nrm t)) (h8 : Bytes8 t.l) (hl : t.l.length ≤ 90000000) (hn : n ≤ 90000000) :
    Calls Try.prog 40 #[.pointer (some ⟨g, 0, none⟩), .int .i64 n] w (RowPost w g 3 .i64 (intsGo n [] t).1 (nrm (intsGo n [] t).2)) := by
  obtain ⟨i0, hi, hz0, hz1, hz2⟩ := info_parts info_int
  have hgl : g < w.heap.size := by
    obtain ⟨_, _, hk, _⟩ := h
    exact (Array.getElem?_eq_some_iff.1 hk).1
  have hib : i0.bytes * n ≤ 281474976710656 := by rw [hz2]; omega
  go_enter Try.func40, Try.ntmps40
  go_wp2_with (refine wpList_make_own _ rfl _ _ 22 rfl w.heap.size 3 i0 (.int .i64 0) 1 Try.underlying22 hi hz0 hz1 .i64 .i64 n n rfl rfl rfl hib (by unfold maxLen; omega) (Nat.le_refl _) ?_; intro w1 hrow1 hg1)
  go_loopw [5, 9] (fun v i wr => ∃ (k : Nat) (acc : List Int) (t' : Rst), k ≤ n ∧ i = .int .i64 k ∧ Hid (intsGo n [] t = intsGo (n - k) acc t') ∧ Hid (acc.length = k) ∧ wr.ownsRow w.heap.size 3 1 v k (acc.map (Value.int .i64)) ∧ RdrAt wr 81 g (nrm t') ∧ w.grownBy wr (some g) ∧ Bytes8 t'.l ∧ t'.l.length ≤ 90000000) (fun _ i _ => n - (intOf i).toNat)
  case atStart => exact ⟨0, [], t, Nat.zero_le _, rfl, Lib.hid rfl, Lib.hid rfl, hrow1, rdr_grown h hg1 (fun j ej => nomatch ej), grownBy_two (World.grownBy.refl w _) hg1 (fun j ej => nomatch ej), h8, hl⟩
  case round =>
    clear h hrow1 hg1 h8 hl
    obtain ⟨k, acc, t', hk, rfl, hgo, hal, hrow, hra, hW, h8', hl'⟩ := hrel
    have hsz := hW.size
    by_cases hlt : k < n
    · have hI := rInt_any g t' wr hra h8' hl'
      obtain ⟨hil, hi8⟩ := intR_len h8'
      have HG := Lib.hid (show intsGo n [] t = if (intR t').2.e = 0 then intsGo (n - (k + 1)) (acc ++ [(intR t').1]) (intR t').2 else ([], (intR t').2) by
        rw [hgo.out, show n - k = (n - (k + 1)) + 1 by omega, intsGo])
      clear hra h8'
      obtain ⟨x, hx⟩ : ∃ x, x = (intR t').1 := ⟨_, rfl⟩
      rw [← hx] at hI HG
      generalize (intR t').2 = t2 at hI HG hil hi8
      have he2 := nrm_e t2
      clear hx
      by_cases he : t2.e = 0
      · have HG2 := Lib.hid (show intsGo n [] t = intsGo (n - (k + 1)) (acc ++ [x]) t2 by rw [HG.out, if_pos he])
        have HE := Lib.hid (show (nrm t2).e = 0 by rw [he2, he])
        clear he he2
        go_wp2_with (first
          | (go_at_call 52; refine hI.mono ?_; clear hI; rintro e' w2 ⟨rfl, hr2, hg2⟩; have hrow2 := hrow.kept hg2 (.inr (fun e => by have := (hrow.lt g e).1; omega)); have hsz2 : w.heap.size ≤ w2.heap.size := Nat.le_trans hsz hg2.size)
          | (at_builtin; refine wpList_append_own _ rfl (.tmp 11) (.tmp 14) 22 rfl w.heap.size 3 i0 (.int .i64 0) 1 8 Try.underlying22 hi hz0 hz1 hz2 rfl (by decide) _ k _ rfl (hrow2.alloc _) ⟨w2.heap.size, 0, none⟩ 1 1 [.int .i64 x] rfl rfl (cell_one_new _ _ _) (by simp [Value.oneCell']) (by unfold maxLen; omega) (by omega) (by simp; omega) ?_; intro v' w3 hown' hgrow _; have hr3 := rdr_grown (rdr_grown hr2 (World.grownBy_alloc w2 _ none) (fun j ej => nomatch ej)) hgrow (fun j ej => by have := (hrow2.lt j ej).1; omega); obtain ⟨A, c, q0, q1, f0, f1, HK, hc, hA, hr⟩ := rdr_cells hr3; have hW3 := grownBy_two (grownBy_two (hW.trans hg2) (World.grownBy_alloc w2 _ none) (fun j ej => nomatch ej)) hgrow (fun j ej => (hrow2.lt j ej).1); rw [HE.out] at q1))
        go_roundw
        case rel =>
          refine ⟨k + 1, acc ++ [x], t2, by omega, by go_num, HG2, Lib.hid (by rw [List.length_append, hal.out]; rfl), ?_, hr3, hW3, hi8, by omega⟩
          rw [List.map_append]
          exact hown'
        case measure => simp [intOf]; omega
      · have HG2 := Lib.hid (show intsGo n [] t = ([], t2) by rw [HG.out, if_neg he])
        have HE := Lib.hid (show (nrm t2).e = t2.e from he2)
        have b1 : (t2.e != 0) = true := by simpa using he
        clear he he2
        go_wp2_with (first
          | (go_at_call 52; refine hI.mono ?_; clear hI; rintro e' w2 ⟨rfl, hr2, hg2⟩; have hrow2 := hrow.kept hg2 (.inr (fun e => by have := (hrow.lt g e).1; omega)); have hsz2 : w.heap.size ≤ w2.heap.size := Nat.le_trans hsz hg2.size)
          | (at_builtin; refine wpList_append_own _ rfl (.tmp 11) (.tmp 14) 22 rfl w.heap.size 3 i0 (.int .i64 0) 1 8 Try.underlying22 hi hz0 hz1 hz2 rfl (by decide) _ k _ rfl (hrow2.alloc _) ⟨w2.heap.size, 0, none⟩ 1 1 [.int .i64 x] rfl rfl (cell_one_new _ _ _) (by simp [Value.oneCell']) (by unfold maxLen; omega) (by omega) (by simp; omega) ?_; intro v' w3 hown' hgrow _; have hr3 := rdr_grown (rdr_grown hr2 (World.grownBy_alloc w2 _ none) (fun j ej => nomatch ej)) hgrow (fun j ej => by have := (hrow2.lt j ej).1; omega); obtain ⟨A, c, q0, q1, f0, f1, HK, hc, hA, hr⟩ := rdr_cells hr3; have hW3 := grownBy_two (grownBy_two (hW.trans hg2) (World.grownBy_alloc w2 _ none) (fun j ej => nomatch ej)) hgrow (fun j ej => (hrow2.lt j ej).1); rw [HE.out] at q1))
        go_ret
        refine ⟨none, 0, ?_, Nat.le_of_eq ?_, ?_, ?_, ?_⟩
        · rw [HG2.out]; rfl
        · rw [HG2.out]; rfl
        · rw [HG2.out]; exact World.ownsRow_nil _ _ _ _
        · rw [HG2.out]; exact hr3
        · exact hW3
    · obtain rfl : k = n := by omega
      have HG2 := Lib.hid (show intsGo k [] t = (acc, t') by rw [hgo.out, Nat.sub_self]; rfl)
      obtain ⟨A, c, rfl⟩ := own_slice hrow
      go_wp2
      go_ret
      refine ⟨A, c, ?_, ?_, ?_, ?_, hW⟩
      · rw [HG2.out]; simp only; rw [hal.out]; rfl
      · rw [HG2.out]; simp only; rw [hal.out]; exact own_cap hrow
      · rw [HG2.out]; simp only; rw [hal.out]; exact hrow
      · rw [HG2.out]; exact hra

theorem intsR_go (s : Rst) : intsR s = intsGo (lenR s).1 [] (lenR s).2 := by
  unfold intsR
  by_cases h : (lenR s).2.e = 0
  · rw [if_pos h]
  · rw [if_neg h, lenR_zero h]; rfl
theorem lenR_bd (s : Rst) (h8 : Bytes8 s.l) (hl : s.l.length ≤ 90000000) : (lenR s).2.l.length ≤ 90000000 ∧ Bytes8 (lenR s).2.l ∧ (lenR s).1 ≤ 90000000 := by
  have h1 := lenR_nrm s h8
  have h2 := lenR_short s h8
  obtain ⟨h3, h4⟩ := uintR_len h8
  refine ⟨?_, ?_, by omega⟩
  · unfold lenR
    split
    · split
      · show (uintR s).2.l.length ≤ _; omega
      · show (uintR s).2.l.length ≤ _; omega
    · show (uintR s).2.l.length ≤ _; omega
  · unfold lenR
    split
    · split <;> exact h4
    · exact h4
theorem rInts_any (g : Nat) (s : Rst) (w : World) (h : RdrAt w 81 g (nrm s)) (h8 : Bytes8 s.l) (hl : s.l.length ≤ 90000000) :
    Calls Try.prog 25 #[.pointer (some ⟨g, 0, none⟩)] w (RowPost w g 3 .i64 (intsR s).1 (nrm (intsR s).2)) := by
  obtain ⟨hl2, h82, hn2⟩ := lenR_bd s h8 hl
  have hL := listInts_any g s w h h8 hl (fun W => RowPost W g 3 .i64 (intsR s).1 (nrm (intsR s).2)) (fun W hW hr => by
    have := rints_any g (lenR s).1 (lenR s).2 W hr h82 hl2 hn2
    rw [← intsR_go s] at this
    exact this.mono fun e w' hp => by obtain ⟨A, c, rfl, hp⟩ := hp; exact ⟨_, rfl, A, c, rfl, hp⟩)
  generalize nrm (intsR s).2 = s2 at hL
  generalize (intsR s).1 = zs at hL
  clear h h8 hl hl2 h82 hn2
  go_enter Try.func25, Try.ntmps25
  go_wp2_with (go_at_call 39; refine hL.mono ?_; clear hL; rintro e' w1 ⟨W, hW, A1, c1, rfl, hc1, hrow1, hr1, hg1⟩)
  go_ret
  exact ⟨A1, c1, rfl, hc1, own_base hrow1 hW.size, hr1, hW.trans hg1⟩
end Go.Proofs.Ytkffpfnmjadpaaa
