/-
  THE WALKS of the reference's Reader of wire.
-/
import Derived.Test.YtebfgdonikedaaaWireRef
import Derived.Test.YtebfgdonikedaaaVal
import Derived.Outline
namespace Go.Proofs.Ytebfgdonikedaaa
open Go.RowKit

/-- block g holds the reader s; its bytes lie below g -/
def RdrAt (w : World) (T : TypeId) (g : Nat) (s : Rst) : Prop :=
  ∃ A c, w.heap[g]? = some (.cells #[.slice A s.l.length c, .int .i64 s.e] T (0, 0)) ∧ s.l.length ≤ c ∧ (A = none → c = 0) ∧ RdI w g .u8 A s.l

theorem step_num {c : Int} {N k : Nat} (hc : 0 ≤ c ∧ c < 256) (hN : N < 128 ^ k) (hk : k ≤ 9) (h9 : k = 9 → c ≤ 1) :
    IntKind.u64.wrap ((N : Int) + IntKind.u64.wrap (c % 128 * ((128 ^ k : Nat) : Int))) = ((N + c.toNat % 128 * 128 ^ k : Nat) : Int) ∧ N + c.toNat % 128 * 128 ^ k < 18446744073709551616 := by
  obtain ⟨d, hd, rfl⟩ : ∃ d : Nat, d < 256 ∧ c = d := ⟨c.toNat, by omega, by omega⟩
  have e0 : (d : Int) % 128 = ((d % 128 : Nat) : Int) := by omega
  have e1 : ((d : Int).toNat) % 128 = d % 128 := by omega
  rw [e0, e1, ← Int.natCast_mul]
  have hmul : d % 128 * 128 ^ k ≤ 127 * 128 ^ k := Nat.mul_le_mul_right _ (by omega)
  have hb : N + d % 128 * 128 ^ k < 18446744073709551616 := by
    by_cases h : k = 9
    · subst h
      have : d % 128 * 128 ^ 9 ≤ 1 * 128 ^ 9 := Nat.mul_le_mul_right _ (by have := h9 rfl; omega)
      omega
    · have hp8 : (128 : Nat) ^ k ≤ 128 ^ 8 := Nat.pow_le_pow_right (by decide) (by omega)
      omega
  refine ⟨?_, hb⟩
  rw [u64_of (x := ((d % 128 * 128 ^ k : Nat) : Int)) ⟨by omega, by omega⟩, ← Int.natCast_add]
  exact u64_of ⟨by omega, by omega⟩
theorem step_pow {k : Nat} (hk : k < 9) : IntKind.u64.wrap (((128 ^ k : Nat) : Int) * 128) = ((128 ^ (k + 1) : Nat) : Int) := by
  have hp8 : (128 : Nat) ^ k ≤ 128 ^ 8 := Nat.pow_le_pow_right (by decide) (by omega)
  rw [show ((128 ^ k : Nat) : Int) * 128 = ((128 ^ (k + 1) : Nat) : Int) by rw [Nat.pow_succ, Int.natCast_mul]; rfl]
  rw [u64_of]
  rw [Nat.pow_succ]
  exact ⟨by omega, by omega⟩

theorem wrUint_err (T : TypeId) (g : Nat) (s : Rst) (w : World) (A : Option Addr) (c : Nat) (hk : w.heap[g]? = some (.cells #[.slice A s.l.length c, .int .i64 s.e] T (0, 0))) (he : s.e ≠ 0) :
    Calls Try.prog 49 #[.pointer (some ⟨g, 0, none⟩)] w fun e w' => e = .returned (.int .u64 0) ∧ w = w' := by
  have h1 : w.cell? ⟨g, 1, none⟩ = some (.int .i64 s.e) := by simp [World.cell?, hk]
  have hne : (s.e == 0) = false := by simpa using he
  generalize s.e = x at h1 hne
  clear hk
  go_enter Try.func49, Try.ntmps49
  go_wp2
  go_loop [5] (fun i => i = .int .i64 0) (fun _ => 0)
  case atStart => rfl
  case round =>
    subst hrel
    go_wp2
    go_ret
    exact ⟨rfl, rfl⟩

theorem rd_cut {w : World} {B b o : Nat} {k : IntKind} {l : List Int} (h : RdI w B k (some ⟨b, o, none⟩) l) (j : Nat) : RdI w B k (some ⟨b, o + j, none⟩) (l.drop j) := by
  rcases h with rfl | ⟨b', o', e, hb, hc⟩
  · left; simp
  · obtain ⟨rfl, rfl⟩ : b = b' ∧ o = o' := by cases e; exact ⟨rfl, rfl⟩
    refine .inr ⟨b, o + j, rfl, hb, fun i hi => ?_⟩
    rw [List.length_drop] at hi
    rw [Nat.add_assoc, hc (j + i) (by omega), List.getElem?_drop]

/-- the reader moves on: as the walk spells the new slice -/
theorem rdr_move {w : World} {T : TypeId} {g b o c : Nat} {l : List Int} {e : Int} (hk : w.heap[g]? = some (.cells #[.slice (some ⟨b, o, none⟩) l.length c, .int .i64 e] T (0, 0))) (hc : l.length ≤ c) (hr : RdI w g .u8 (some ⟨b, o, none⟩) l) (j : Nat) (hj : j ≤ l.length) (A' : Option Addr)
    (hA : (c = j ∧ A' = some ⟨b, o, none⟩) ∨ (c ≠ j ∧ A' = some ⟨b, o + j, none⟩)) : RdrAt (w.setCell ⟨g, 0, none⟩ (.slice A' (l.length - j) (c - j))) T g ⟨l.drop j, e⟩ := by
  refine ⟨A', c - j, ?_, by rw [List.length_drop]; omega, ?_, ?_⟩
  · rw [List.length_drop]
    exact blk_set hk _
  · rcases hA with ⟨_, rfl⟩ | ⟨_, rfl⟩ <;> exact fun h => nomatch h
  · rcases hA with ⟨h1, rfl⟩ | ⟨_, rfl⟩
    · left
      exact List.drop_eq_nil_of_le (by omega)
    · exact rd_far (rd_cut hr j) (Nat.le_refl _) _

set_option maxHeartbeats 4000000 in
theorem wrUint_zero (T : TypeId) (g : Nat) (l : List Int) (w : World) (h : RdrAt w T g ⟨l, 0⟩) (h8 : Bytes8 l) (hl : l.length ≤ 1000000) :
    Calls Try.prog 49 #[.pointer (some ⟨g, 0, none⟩)] w fun e w' => e = .returned (.int .u64 ((uintR ⟨l, 0⟩).1 : Nat)) ∧ RdrAt w' T g (uintR ⟨l, 0⟩).2 ∧ w.grownBy w' (some g) := by
  obtain ⟨A, c, hk, hc, hA, hr⟩ := h
  simp only at hk hc hr
  have h0 : w.cell? ⟨g, 0, none⟩ = some (.slice A l.length c) := by simp [World.cell?, hk]
  have h1 : w.cell? ⟨g, 1, none⟩ = some (.int .i64 0) := by simp [World.cell?, hk]
  have f0 : w.frozen? ⟨g, 0, none⟩ = false := by simp [World.frozen?, hk]
  have f1 : w.frozen? ⟨g, 1, none⟩ = false := by simp [World.frozen?, hk]
  have HK := Lib.hid hk
  clear hk
  go_enter Try.func49, Try.ntmps49
  go_wp2
  go_loop [3, 4, 5] (fun n u i => ∃ k N U : Nat, k ≤ 9 ∧ k ≤ l.length ∧ Hid (N < 128 ^ k) ∧ Hid (U = 128 ^ k) ∧ Hid (rdv 0 0 l = rdv k N (l.drop k)) ∧ n = .int .u64 N ∧ u = .int .u64 U ∧ i = .int .i64 k) (fun _ _ i => 10 - (intOf i).toNat)
  case atStart => exact ⟨0, 0, 1, by omega, by omega, Lib.hid (by decide), Lib.hid rfl, Lib.hid rfl, rfl, rfl, rfl⟩
  case round =>
    obtain ⟨k, N, U, hk9, hkl, hN, hU, hrd, rfl, rfl, rfl⟩ := hrel
    by_cases hlt : k < l.length
    · obtain ⟨b, o, rfl, hb, hck⟩ := hr.at_ hlt
      have hcb := h8.get k
      have hdrop : l.drop k = l[k]?.getD 0 :: l.drop (k + 1) := by rw [List.drop_eq_getElem_cons hlt]; simp [hlt]
      obtain ⟨x, hx⟩ : ∃ x, x = l[k]?.getD 0 := ⟨_, rfl⟩
      rw [← hx] at hck hcb hdrop
      have HD := Lib.hid hdrop
      obtain ⟨hx0, hx1⟩ := hcb
      clear hx hdrop
      by_cases hbad : (k = 9 ∧ 1 < x) ∨ (0 < k ∧ x = 0)
      · have HU := Lib.hid (show uintR ⟨l, 0⟩ = (0, ⟨l, 2⟩) by
          have : rdv 0 0 l = .error true := by rw [hrd.out, HD.out, rdv, if_pos hbad]
          simp [uintR, this])
        by_cases h9 : k = 9
        · subst h9
          have hx9 : 1 < x ∨ x = 0 := by omega
          clear hbad
          rcases hx9 with hx9 | rfl
          all_goals
            go_wp2
            go_ret
            refine ⟨by rw [HU.out]; rfl, ?_, grown_set _ _ _ _⟩
            rw [HU.out]
            exact ⟨_, c, blk_set HK.out _, hc, hA, rd_far hr (Nat.le_refl _) _⟩
        · have h0k : 0 < k := by omega
          obtain rfl : x = 0 := by omega
          clear hbad
          go_wp2
          go_ret
          refine ⟨by rw [HU.out]; rfl, ?_, grown_set _ _ _ _⟩
          rw [HU.out]
          exact ⟨_, c, blk_set HK.out _, hc, hA, rd_far hr (Nat.le_refl _) _⟩
      · have hx9 : k = 9 → x ≤ 1 := fun h => by omega
        have hnum := step_num (c := x) (N := N) (k := k) ⟨hx0, hx1⟩ hN.out hk9 hx9
        have HNM := Lib.hid hnum
        have HP := Lib.hid (show k < 9 → IntKind.u64.wrap (((128 ^ k : Nat) : Int) * 128) = ((128 ^ (k + 1) : Nat) : Int) from step_pow)
        clear hnum
        by_cases hx128 : x < 128
        · have HU := Lib.hid (show uintR ⟨l, 0⟩ = (N + x.toNat % 128 * 128 ^ k, ⟨l.drop (k + 1), 0⟩) by
            have : rdv 0 0 l = .ok (N + x.toNat % 128 * 128 ^ k, l.drop (k + 1)) := by rw [hrd.out, HD.out, rdv, if_neg hbad, if_pos hx128]
            simp [uintR, this])
          have hx10 : k = 9 → x = 1 := fun h => by omega
          have hkk : (9 ≤ k ∧ x ≤ 1 ∧ 1 ≤ x) ∨ (0 < k ∧ k < 9 ∧ 1 ≤ x) ∨ (k ≤ 0 ∧ k < 9 ∧ k < 10) := by omega
          have hcc : (c ≤ k + 1 ∧ k + 1 ≤ c) ∨ (k + 1 < c ∧ k + 1 < c) := by omega
          clear hbad hx9
          have b123 : Hid ((9 ≤ k → (x == 0) = false ∧ decide ((1 : Int) < x) = false ∧ ((k : Int) == 9) = true) ∧ (k < 9 → ((k : Int) == 9) = false) ∧ (1 ≤ x → (x == 0) = false)) := Lib.hid ⟨fun h => ⟨by simp; omega, by simp; omega, by simp; omega⟩, fun h => by simp; omega, fun h => by simp; omega⟩
          rcases hkk with ⟨hk0, hk1, hx2⟩ | ⟨hk0, hk1, hx2⟩ | ⟨hk0, hk1, hx2⟩
          · obtain ⟨b1, b2, b3⟩ := b123.out.1 hk0
            rcases hcc with ⟨hcc, hcc2⟩ | ⟨hcc, hcc2⟩
            all_goals
              go_wp2
              go_ret
              refine ⟨?_, ?_, grown_set _ _ _ _⟩
              · rw [HU.out, ← HNM.out.1, ← hU.out]; rfl
              · rw [HU.out]
                first
                  | (have hmv := rdr_move HK.out hc hr (k + 1) (by omega) _ (.inl ⟨by omega, rfl⟩); rw [show c - (k + 1) = 0 by omega] at hmv; exact hmv)
                  | exact rdr_move HK.out hc hr (k + 1) (by omega) _ (.inr ⟨by omega, rfl⟩)
          · have b3 := b123.out.2.1 hk1
            have b2 := b123.out.2.2 hx2
            have b4 : decide (0 < k) = true := decide_eq_true hk0
            have b5 : decide ((0 : Int) < (k : Int)) = true := decide_eq_true (by omega)
            rcases hcc with ⟨hcc, hcc2⟩ | ⟨hcc, hcc2⟩
            all_goals
              go_wp2
              go_ret
              refine ⟨?_, ?_, grown_set _ _ _ _⟩
              · rw [HU.out, ← HNM.out.1, ← hU.out]; rfl
              · rw [HU.out]
                first
                  | (have hmv := rdr_move HK.out hc hr (k + 1) (by omega) _ (.inl ⟨by omega, rfl⟩); rw [show c - (k + 1) = 0 by omega] at hmv; exact hmv)
                  | exact rdr_move HK.out hc hr (k + 1) (by omega) _ (.inr ⟨by omega, rfl⟩)
          · have b3 := b123.out.2.1 hk1
            have b4 : decide (0 < k) = false := decide_eq_false (by omega)
            have b5 : decide ((0 : Int) < (k : Int)) = false := decide_eq_false (by omega)
            rcases hcc with ⟨hcc, hcc2⟩ | ⟨hcc, hcc2⟩
            all_goals
              go_wp2
              go_ret
              refine ⟨?_, ?_, grown_set _ _ _ _⟩
              · rw [HU.out, ← HNM.out.1, ← hU.out]; rfl
              · rw [HU.out]
                first
                  | (have hmv := rdr_move HK.out hc hr (k + 1) (by omega) _ (.inl ⟨by omega, rfl⟩); rw [show c - (k + 1) = 0 by omega] at hmv; exact hmv)
                  | exact rdr_move HK.out hc hr (k + 1) (by omega) _ (.inr ⟨by omega, rfl⟩)
        · have hk8 : k < 9 := by omega
          have hrd2 := Lib.hid (show rdv 0 0 l = rdv (k + 1) (N + x.toNat % 128 * 128 ^ k) (l.drop (k + 1)) by rw [hrd.out, HD.out, rdv, if_neg hbad, if_neg hx128])
          have hN2 : Hid (N + x.toNat % 128 * 128 ^ k < 128 ^ (k + 1)) := Lib.hid (by
            have h1 := hN.out
            have hmul : x.toNat % 128 * 128 ^ k ≤ 127 * 128 ^ k := Nat.mul_le_mul_right _ (by omega)
            rw [Nat.pow_succ]
            omega)
          have hkk : (0 < k ∧ 1 ≤ x) ∨ (k ≤ 0 ∧ 1 ≤ x) := by omega
          clear hbad hx9
          have b3 : ((k : Int) == 9) = false := by simp; omega
          have b2 : (x == 0) = false := by simp; omega
          have b6 : decide (x < 128) = false := decide_eq_false hx128
          rcases hkk with ⟨hk0, hx2⟩ | ⟨hk0, hx2⟩
          · have b4 : decide (0 < k) = true := decide_eq_true hk0
            have b5 : decide ((0 : Int) < (k : Int)) = true := decide_eq_true (by omega)
            go_wp2
            go_round
            case rel => exact ⟨k + 1, N + x.toNat % 128 * 128 ^ k, 128 ^ (k + 1), by omega, by omega, hN2, Lib.hid rfl, hrd2, by rw [← HNM.out.1, ← hU.out], by rw [← HP.out hk8, ← hU.out], by go_num⟩
            case measure => simp [intOf]; omega
          have b4 : decide (0 < k) = false := decide_eq_false (by omega)
          have b5 : decide ((0 : Int) < (k : Int)) = false := decide_eq_false (by omega)
          all_goals
            go_wp2
            go_round
            case rel => exact ⟨k + 1, N + x.toNat % 128 * 128 ^ k, 128 ^ (k + 1), by omega, by omega, hN2, Lib.hid rfl, hrd2, by rw [← HNM.out.1, ← hU.out], by rw [← HP.out hk8, ← hU.out], by go_num⟩
            case measure => simp [intOf]; omega
    · have HU := Lib.hid (show uintR ⟨l, 0⟩ = (0, ⟨l, 3⟩) by
        have : rdv 0 0 l = .error false := by rw [hrd.out, List.drop_eq_nil_of_le (by omega)]; rfl
        simp [uintR, this])
      go_wp2
      go_ret
      refine ⟨by rw [HU.out]; rfl, ?_, grown_set _ _ _ _⟩
      rw [HU.out]
      exact ⟨A, c, blk_set HK.out _, hc, hA, rd_far hr (Nat.le_refl _) _⟩
/-- what a reader's method leaves: the reader moved on; nothing else has turned -/
def RdrPost (w : World) (T : TypeId) (g : Nat) (v : Value) (s : Rst) (e : Ending) (w' : World) : Prop := e = .returned v ∧ RdrAt w' T g s ∧ w.grownBy w' (some g)

theorem wrUint_any (T : TypeId) (g : Nat) (s : Rst) (w : World) (h : RdrAt w T g s) (h8 : Bytes8 s.l) (hl : s.l.length ≤ 1000000) :
    Calls Try.prog 49 #[.pointer (some ⟨g, 0, none⟩)] w (RdrPost w T g (.int .u64 ((uintR s).1 : Nat)) (uintR s).2) := by
  obtain ⟨l, e⟩ := s
  by_cases he : e = 0
  · subst he
    exact wrUint_zero T g l w h h8 hl
  · obtain ⟨A, c, hk, hrest⟩ := h
    refine (wrUint_err T g ⟨l, e⟩ w A c hk he).mono fun e' w' ⟨h1, h2⟩ => ?_
    subst h2
    rw [uintR_err (s := ⟨l, e⟩) he]
    exact ⟨h1, ⟨A, c, hk, hrest⟩, World.grownBy.refl w _⟩

theorem uintR_lt (s : Rst) (h8 : Bytes8 s.l) : (uintR s).1 < 18446744073709551616 := by
  obtain ⟨l, e⟩ := s
  unfold uintR
  split
  · cases hr : rdv 0 0 l with
    | error b => simp only; omega
    | ok p => exact rdv_i l 0 0 p.1 p.2 (by decide) (by decide) h8 hr
  · simp only; omega

theorem wrInt_any (T : TypeId) (g : Nat) (s : Rst) (w : World) (h : RdrAt w T g s) (h8 : Bytes8 s.l) (hl : s.l.length ≤ 1000000) :
    Calls Try.prog 50 #[.pointer (some ⟨g, 0, none⟩)] w (RdrPost w T g (.int .i64 (intR s).1) (intR s).2) := by
  have hU := wrUint_any T g s w h h8 hl
  have hB := fun W => wBack_any (uintR s).1 W (uintR_lt s h8)
  have H1 := Lib.hid (show (intR s).1 = unzz (uintR s).1 from rfl)
  have H2 := Lib.hid (show (intR s).2 = (uintR s).2 from rfl)
  generalize uintR s = r at hU hB H1 H2
  generalize intR s = r2 at H1 H2
  go_enter Try.func50, Try.ntmps50
  go_wp2_with (first
    | (go_at_call 49; refine hU.mono ?_; clear hU; rintro e w1 ⟨rfl, hr1, hg1⟩)
    | (go_at_call 67; refine (hB _).mono ?_; clear hB; rintro e w2 ⟨rfl, rfl⟩))
  go_ret
  exact ⟨by rw [H1.out]; rfl, by rw [H2.out]; exact hr1, hg1⟩

theorem rdr_cells {w : World} {T : TypeId} {g : Nat} {s : Rst} (h : RdrAt w T g s) : ∃ A c, w.cell? ⟨g, 0, none⟩ = some (.slice A s.l.length c) ∧ w.cell? ⟨g, 1, none⟩ = some (.int .i64 s.e) ∧ w.frozen? ⟨g, 0, none⟩ = false ∧ w.frozen? ⟨g, 1, none⟩ = false ∧
    Hid (w.heap[g]? = some (.cells #[.slice A s.l.length c, .int .i64 s.e] T (0, 0))) ∧ s.l.length ≤ c ∧ (A = none → c = 0) ∧ RdI w g .u8 A s.l := by
  obtain ⟨A, c, hk, hc, hA, hr⟩ := h
  exact ⟨A, c, by simp [World.cell?, hk], by simp [World.cell?, hk], by simp [World.frozen?, hk], by simp [World.frozen?, hk], Lib.hid hk, hc, hA, hr⟩

theorem rdr_error {w : World} {T : TypeId} {g : Nat} {s : Rst} {A : Option Addr} {c : Nat} (hk : w.heap[g]? = some (.cells #[.slice A s.l.length c, .int .i64 s.e] T (0, 0))) (hc : s.l.length ≤ c) (hA : A = none → c = 0) (hr : RdI w g .u8 A s.l) (e : Int) :
    RdrAt (w.setCell ⟨g, 1, none⟩ (.int .i64 e)) T g ⟨s.l, e⟩ := ⟨A, c, blk_set hk _, hc, hA, rd_far hr (Nat.le_refl _) _⟩
theorem grown_set_trans {w w1 : World} {g i : Nat} {v : Value} (h : w.grownBy w1 (some g)) : w.grownBy (w1.setCell ⟨g, i, none⟩ v) (some g) :=
  h.trans (grown_set w1 g i v)

set_option maxHeartbeats 1000000 in
theorem wrLen_any (T : TypeId) (g : Nat) (s : Rst) (w : World) (h : RdrAt w T g s) (h8 : Bytes8 s.l) (hl : s.l.length ≤ 1000000) :
    Calls Try.prog 68 #[.pointer (some ⟨g, 0, none⟩)] w (RdrPost w T g (.int .i64 ((lenR s).1 : Nat)) (lenR s).2) := by
  have hU := wrUint_any T g s w h h8 hl
  have hu := uintR_lt s h8
  have HL := Lib.hid (show lenR s = if (uintR s).2.e = 0 then (if (uintR s).2.l.length < (uintR s).1 then (0, ⟨(uintR s).2.l, 3⟩) else uintR s) else (0, (uintR s).2) from rfl)
  have hlen : (uintR s).2.l.length ≤ 1000000 := by
    obtain ⟨l, e⟩ := s
    unfold uintR
    split
    · cases hr : rdv 0 0 l with
      | error b => exact hl
      | ok p =>
        obtain ⟨q, _, he, _⟩ := rdv_back l 0 0 p.1 p.2 h8 hr
        have := congrArg List.length he
        rw [List.length_append] at this
        simp only at hl ⊢
        omega
    · exact hl
  generalize uintR s = r at hU HL hu hlen
  generalize lenR s = r2 at HL
  obtain ⟨n, s1⟩ := r
  simp only at hU HL hu hlen
  have HU := Lib.hid hu
  clear hu
  go_enter Try.func68, Try.ntmps68
  by_cases he : s1.e = 0
  · by_cases hn : s1.l.length < n
    · have HR := Lib.hid (show r2 = (0, ⟨s1.l, 3⟩) by rw [HL.out, if_pos he, if_pos hn])
      have hb : decide ((s1.l.length : Int) < (n : Int)) = true := decide_eq_true (by omega)
      have hb2 : decide (s1.l.length < n) = true := decide_eq_true hn
      go_wp2_with (go_at_call 49; refine hU.mono ?_; clear hU; rintro e w1 ⟨rfl, hr1, hg1⟩; obtain ⟨A, c, q0, q1, f0, f1, HK, hc, hA, hr⟩ := rdr_cells hr1; have HE := Lib.hid he; rw [he] at q1; clear he)
      go_ret
      refine ⟨by rw [HR.out]; rfl, ?_, grown_set_trans hg1⟩
      rw [HR.out]
      exact rdr_error HK.out hc hA hr 3
    · have HR := Lib.hid (show r2 = (n, s1) by rw [HL.out, if_pos he, if_neg hn])
      have hb : decide ((s1.l.length : Int) < (n : Int)) = false := decide_eq_false (by omega)
      have hb2 : decide (s1.l.length < n) = false := decide_eq_false hn
      have hn2 : n ≤ 1000000 := by omega
      go_wp2_with (go_at_call 49; refine hU.mono ?_; clear hU; rintro e w1 ⟨rfl, hr1, hg1⟩; obtain ⟨A, c, q0, q1, f0, f1, HK, hc, hA, hr⟩ := rdr_cells hr1; have HE := Lib.hid he; rw [he] at q1; clear he)
      go_ret
      refine ⟨by rw [HR.out]; rfl, ?_, hg1⟩
      rw [HR.out]
      exact hr1
  · have HR := Lib.hid (show r2 = (0, s1) by rw [HL.out, if_neg he])
    have hb : (s1.e == 0) = false := by simpa using he
    have hb2 : (s1.e != 0) = true := by simpa using he
    go_wp2_with (go_at_call 49; refine hU.mono ?_; clear hU; rintro e w1 ⟨rfl, hr1, hg1⟩; obtain ⟨A, c, q0, q1, f0, f1, HK, hc, hA, hr⟩ := rdr_cells hr1)
    go_ret
    refine ⟨by rw [HR.out]; rfl, ?_, hg1⟩
    rw [HR.out]
    exact hr1
theorem wrEnd_any (T : TypeId) (g : Nat) (s : Rst) (w : World) (h : RdrAt w T g s) (hl : s.l.length ≤ 1000000) :
    Calls Try.prog 25 #[.pointer (some ⟨g, 0, none⟩)] w fun e w' => e = .returned (.int .i64 (endR s)) ∧ w = w' := by
  obtain ⟨A, c, q0, q1, f0, f1, HK, hc, hA, hr⟩ := rdr_cells h
  clear h hr hA
  obtain ⟨l, e⟩ := s
  simp only at q0 q1 hl hc HK ⊢
  by_cases he : e = 0
  · subst he
    by_cases h0 : 0 < l.length
    · have HR := Lib.hid (show endR ⟨l, 0⟩ = 2 by simp [endR, h0])
      have b1 : decide (0 < l.length) = true := decide_eq_true h0
      have b2 : decide ((0 : Int) < (l.length : Int)) = true := decide_eq_true (by omega)
      go_enter Try.func25, Try.ntmps25
      go_wp2
      go_ret
      exact ⟨by rw [HR.out]; rfl, rfl⟩
    · have HR := Lib.hid (show endR ⟨l, 0⟩ = 0 by simp [endR, h0])
      have b1 : decide (0 < l.length) = false := decide_eq_false h0
      have b2 : decide ((0 : Int) < (l.length : Int)) = false := decide_eq_false (by omega)
      go_enter Try.func25, Try.ntmps25
      go_wp2
      go_ret
      exact ⟨by rw [HR.out]; rfl, rfl⟩
  · have HR := Lib.hid (show endR ⟨l, e⟩ = e by simp [endR, he])
    have b1 : (e == 0) = false := by simpa using he
    go_enter Try.func25, Try.ntmps25
    go_wp2
    go_ret
    exact ⟨by rw [HR.out]; rfl, rfl⟩

set_option maxHeartbeats 1000000 in
theorem wrBool_any (T : TypeId) (g : Nat) (s : Rst) (w : World) (h : RdrAt w T g s) (h8 : Bytes8 s.l) (hl : s.l.length ≤ 1000000) :
    Calls Try.prog 51 #[.pointer (some ⟨g, 0, none⟩)] w (RdrPost w T g (.bool ((boolR s).1 == 1)) (boolR s).2) := by
  have h' := h
  obtain ⟨A, c, q0, q1, f0, f1, HK, hc, hA, hr⟩ := rdr_cells h
  clear h
  obtain ⟨l, e⟩ := s
  simp only at q0 q1 hl hc HK h8 hr ⊢
  by_cases he : e = 0
  · subst he
    cases l with
    | nil =>
      have HR := Lib.hid (show boolR ⟨[], 0⟩ = (0, ⟨[], 3⟩) from rfl)
      go_enter Try.func51, Try.ntmps51
      go_wp2
      go_ret
      refine ⟨by rw [HR.out]; rfl, ?_, grown_set _ _ _ _⟩
      rw [HR.out]
      exact rdr_error (s := ⟨[], 0⟩) HK.out hc hA hr 3
    | cons x r =>
      obtain ⟨b, o, rfl, hb, hck⟩ := hr.at_ (j := 0) (by simp)
      have hxb := h8 x (by simp)
      rw [Nat.add_zero] at hck
      simp only [List.getElem?_cons_zero, Option.getD_some] at hck
      have hrl : r.length ≤ 1000000 := by simp at hl; omega
      obtain ⟨m, hm⟩ : ∃ m, m = (x :: r).length := ⟨_, rfl⟩
      have hm1 : m = r.length + 1 := by rw [hm]; simp
      have hm0 : ((m : Int) == 0) = false := by simp; omega
      rw [← hm] at q0 hc
      have HM := Lib.hid hm
      have HM1 := Lib.hid hm1
      have hmpos : 1 ≤ m := by omega
      obtain ⟨x0, x1⟩ := hxb
      clear hm hm1
      by_cases hx : 1 < x
      · have HR := Lib.hid (show boolR ⟨x :: r, 0⟩ = (0, ⟨x :: r, 2⟩) by simp [boolR, hx])
        have b1 : decide ((1 : Int) < x) = true := decide_eq_true hx
        go_enter Try.func51, Try.ntmps51
        go_wp2
        go_ret
        refine ⟨by rw [HR.out]; rfl, ?_, grown_set _ _ _ _⟩
        rw [HR.out]
        exact rdr_error (s := ⟨x :: r, 0⟩) HK.out (by rw [← HM.out]; exact hc) hA hr 2
      · have HR := Lib.hid (show boolR ⟨x :: r, 0⟩ = (if x = 1 then 1 else 0, ⟨r, 0⟩) by simp [boolR, hx])
        have b1 : decide ((1 : Int) < x) = false := decide_eq_false hx
        have hbx : Hid (((if x = 1 then (1 : Int) else 0) == 1) = (x == 1)) := Lib.hid (by by_cases h1 : x = 1 <;> simp [h1])
        have hcc : (c ≤ 1 ∧ 1 ≤ c) ∨ (1 < c ∧ 1 < c) := by omega
        rcases hcc with ⟨hcc, hcc2⟩ | ⟨hcc, hcc2⟩
        · go_enter Try.func51, Try.ntmps51
          go_wp2
          go_ret
          refine ⟨by rw [HR.out, hbx.out]; rfl, ?_, grown_set _ _ _ _⟩
          rw [HR.out]
          have hmv := rdr_move HK.out (by rw [← HM.out]; exact hc) hr 1 (by rw [← HM.out]; omega) _ (.inl ⟨by omega, rfl⟩)
          rw [← HM.out, show c - 1 = 0 by omega] at hmv
          exact hmv
        · go_enter Try.func51, Try.ntmps51
          go_wp2
          go_ret
          refine ⟨by rw [HR.out, hbx.out]; rfl, ?_, grown_set _ _ _ _⟩
          rw [HR.out]
          have hmv := rdr_move HK.out (by rw [← HM.out]; exact hc) hr 1 (by rw [← HM.out]; omega) _ (.inr ⟨by omega, rfl⟩)
          rw [← HM.out] at hmv
          exact hmv
  · have HR := Lib.hid (show boolR ⟨l, e⟩ = (0, ⟨l, e⟩) by simp [boolR, he])
    have b1 : (e == 0) = false := by simpa using he
    have b2 : (e != 0) = true := by simpa using he
    go_enter Try.func51, Try.ntmps51
    go_wp2
    go_ret
    refine ⟨by rw [HR.out]; rfl, ?_, World.grownBy.refl w _⟩
    rw [HR.out]
    exact h'
theorem lenR_len (s : Rst) (h8 : Bytes8 s.l) (he : (lenR s).2.e = 0) : (lenR s).1 ≤ (lenR s).2.l.length ∧ (lenR s).2.l.length ≤ s.l.length ∧ Bytes8 (lenR s).2.l := by
  obtain ⟨l, e⟩ := s
  have h0 : e = 0 := by
    by_cases h : e = 0
    · exact h
    · have hu := uintR_err (s := ⟨l, e⟩) h
      simp only [lenR, hu, if_neg h] at he
      exact he
  subst h0
  obtain ⟨h1, h2⟩ := lenR_back (l := l) (n := (lenR ⟨l, 0⟩).1) (r := (lenR ⟨l, 0⟩).2.l) h8 (by rw [← Rst.zero he])
  have h3 := congrArg List.length h1
  rw [List.length_append] at h3
  exact ⟨h2, by simp only; omega, bytes8_right (h1 ▸ h8)⟩

theorem rd_take {w : World} {B : Nat} {k : IntKind} {A : Option Addr} {l : List Int} (h : RdI w B k A l) (n : Nat) : RdI w B k A (l.take n) := by
  rcases h with rfl | ⟨b, o, e, hb, hc⟩
  · left; simp
  · refine .inr ⟨b, o, e, hb, fun j hj => ?_⟩
    rw [List.length_take] at hj
    rw [hc j (by omega), List.getElem?_take_of_lt (by omega)]
/-- the reader moves on, whatever its slice -/
theorem rdr_move2 {w : World} {T : TypeId} {g c : Nat} {A : Option Addr} {l : List Int} {e : Int} (hk : w.heap[g]? = some (.cells #[.slice A l.length c, .int .i64 e] T (0, 0))) (hc : l.length ≤ c) (hA : A = none → c = 0) (hr : RdI w g .u8 A l) (j : Nat) (hj : j ≤ l.length) (A' : Option Addr)
    (hA' : (c = j ∧ A' = A) ∨ (c ≠ j ∧ A' = A.map (fun x => x.add j))) : RdrAt (w.setCell ⟨g, 0, none⟩ (.slice A' (l.length - j) (c - j))) T g ⟨l.drop j, e⟩ := by
  refine ⟨A', c - j, ?_, by rw [List.length_drop]; omega, ?_, ?_⟩
  · rw [List.length_drop]
    exact blk_set hk _
  · intro h
    rcases hA' with ⟨_, rfl⟩ | ⟨_, rfl⟩
    · have := hA h; omega
    · cases A with
      | none => have := hA rfl; omega
      | some x => cases h
  · rcases hA' with ⟨h1, rfl⟩ | ⟨_, rfl⟩
    · left
      exact List.drop_eq_nil_of_le (by omega)
    · rcases hr with rfl | ⟨b, o, rfl, hb, hcs⟩
      · left; simp
      · have hadd : (⟨b, o, none⟩ : Addr).add j = ⟨b, o + j, none⟩ := by unfold Addr.add; split <;> simp_all
        simp only [Option.map_some, hadd]
        exact rd_far (rd_cut (.inr ⟨b, o, rfl, hb, hcs⟩) j) (Nat.le_refl _) _

/-- what Raw leaves: its bytes lie in the reader's own -/
def RawPost (w : World) (T : TypeId) (g : Nat) (b : List Int) (s : Rst) (e : Ending) (w' : World) : Prop := ∃ v, e = .returned v ∧ RdS w' g .u8 v b ∧ RdrAt w' T g s ∧ w.grownBy w' (some g)

set_option maxHeartbeats 1000000 in
theorem wrRaw_any (T : TypeId) (g : Nat) (s : Rst) (w : World) (h : RdrAt w T g s) (h8 : Bytes8 s.l) (hl : s.l.length ≤ 1000000) :
    Calls Try.prog 52 #[.pointer (some ⟨g, 0, none⟩)] w (RawPost w T g (rawR s).1 (rawR s).2) := by
  have hL := wrLen_any T g s w h h8 hl
  have hll := lenR_len s h8
  have HR := Lib.hid (show rawR s = if (lenR s).2.e = 0 then ((lenR s).2.l.take (lenR s).1, ⟨(lenR s).2.l.drop (lenR s).1, 0⟩) else ([], (lenR s).2) from rfl)
  generalize lenR s = r at hL hll HR
  generalize rawR s = r2 at HR
  obtain ⟨n, s1⟩ := r
  simp only at hL hll HR
  go_enter Try.func52, Try.ntmps52
  by_cases he : s1.e = 0
  · obtain ⟨hn, hl1, _⟩ := hll he
    have HQ := Lib.hid (show r2 = (s1.l.take n, ⟨s1.l.drop n, 0⟩) by rw [HR.out, if_pos he])
    have hn2 : s1.l.length ≤ 1000000 := by omega
    have HE := Lib.hid he
    clear he hll
    go_wp2_with (go_at_call 68; refine hL.mono ?_; clear hL; rintro e w1 ⟨rfl, hr1, hg1⟩; obtain ⟨A, c, q0, q1, f0, f1, HK, hc, hA, hr⟩ := rdr_cells hr1; rw [HE.out] at q1)
    all_goals
      go_ret
      refine ⟨_, rfl, ?_, ?_, grown_set_trans hg1⟩
      · rw [HQ.out]
        first
          | (have hcn : c = n := by assumption
             refine ⟨A, n, ?_, ?_, fun h => by rw [← hcn]; exact hA h, rd_far (rd_take hr n) (Nat.le_refl _) _⟩
             · rw [List.length_take, Nat.min_eq_left hn]; rfl
             · rw [List.length_take]; omega)
          | (refine ⟨A, c, ?_, ?_, hA, rd_far (rd_take hr n) (Nat.le_refl _) _⟩
             · rw [List.length_take, Nat.min_eq_left hn]; rfl
             · rw [List.length_take]; omega)
      · rw [HQ.out]
        have hk2 := HK.out
        rw [HE.out] at hk2
        first
          | exact rdr_move2 hk2 hc hA hr n hn _ (.inr ⟨by assumption, rfl⟩)
          | (have hmv := rdr_move2 hk2 hc hA hr n hn A (.inl ⟨by assumption, rfl⟩); first | exact hmv | (rw [show c - n = 0 by omega] at hmv; exact hmv))
          | (subst_vars; have hmv := rdr_move2 hk2 hc hA hr _ hn A (.inl ⟨rfl, rfl⟩); first | exact hmv | (rw [Nat.sub_self] at hmv; exact hmv))
  · have HQ := Lib.hid (show r2 = ([], s1) by rw [HR.out, if_neg he])
    have hb : (s1.e == 0) = false := by simpa using he
    have hb2 : (s1.e != 0) = true := by simpa using he
    clear hll
    go_wp2_with (go_at_call 68; refine hL.mono ?_; clear hL; rintro e w1 ⟨rfl, hr1, hg1⟩; obtain ⟨A, c, q0, q1, f0, f1, HK, hc, hA, hr⟩ := rdr_cells hr1)
    go_ret
    refine ⟨_, rfl, ?_, ?_, hg1⟩
    · rw [HQ.out]
      exact ⟨none, 0, rfl, Nat.le_refl _, fun _ => rfl, .inl rfl⟩
    · rw [HQ.out]
      exact hr1
end Go.Proofs.Ytebfgdonikedaaa
