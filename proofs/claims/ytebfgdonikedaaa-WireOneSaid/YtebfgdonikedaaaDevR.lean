/-
  THE WALKS of the program's Reader of wire, first part: fail, take, octet, Uint.
-/
import Derived.Test.YtebfgdonikedaaaWireRdr
import Derived.Test.YtebfgdonikedaaaDevX
namespace Go.Proofs.Ytebfgdonikedaaa
open Go.RowKit

/-- what the program's reader keeps of a reader's state: with an error no bytes -/
def nrm (s : Rst) : Rst := if s.e = 0 then s else ⟨[], s.e⟩
theorem nrm_ok {s : Rst} (h : s.e = 0) : nrm s = s := if_pos h
theorem nrm_err {s : Rst} (h : s.e ≠ 0) : nrm s = ⟨[], s.e⟩ := if_neg h
theorem nrm_e (s : Rst) : (nrm s).e = s.e := by unfold nrm; split <;> rfl

theorem blk2_far {w : World} {g : Nat} {x y : Value} {t : TypeId} (h : w.heap[g]? = some (.cells #[x, y] t (0, 0))) : w.cell? ⟨g, 0, none⟩ = some x ∧ w.cell? ⟨g, 1, none⟩ = some y ∧ w.frozen? ⟨g, 0, none⟩ = false ∧ w.frozen? ⟨g, 1, none⟩ = false := by
  refine ⟨by simp [World.cell?, h], by simp [World.cell?, h], by simp [World.frozen?, h], by simp [World.frozen?, h]⟩

theorem rfail_any (g : Nat) (s : Rst) (x : Int) (w : World) (h : RdrAt w 77 g s) :
    Calls Try.prog 63 #[.pointer (some ⟨g, 0, none⟩), .int .i64 x] w (RdrPost w 77 g (.tuple #[]) ⟨[], if s.e = 0 then x else s.e⟩) := by
  obtain ⟨A, c, q0, q1, f0, f1, HK, hc, hA, hr⟩ := rdr_cells h
  clear h hr hA hc
  obtain ⟨l, e⟩ := s
  simp only at q0 q1 HK ⊢
  by_cases he : e = 0
  · subst he
    rw [if_pos rfl]
    go_enter Try.func63, Try.ntmps63
    go_wp2
    go_end0
    refine ⟨rfl, ⟨none, 0, ?_, Nat.le_refl _, fun _ => rfl, .inl rfl⟩, (grown_set _ _ _ _).trans (grown_set _ _ _ _)⟩
    exact blk_set (blk_set HK.out _) _
  · rw [if_neg he]
    have b1 : (e == 0) = false := by simpa using he
    go_enter Try.func63, Try.ntmps63
    go_wp2
    go_end0
    refine ⟨rfl, ⟨none, 0, ?_, Nat.le_refl _, fun _ => rfl, .inl rfl⟩, grown_set _ _ _ _⟩
    exact blk_set HK.out _

set_option maxHeartbeats 1000000 in
theorem rtake_any (g n : Nat) (s : Rst) (w : World) (h : RdrAt w 77 g s) (hn : n ≤ s.l.length) (hl : s.l.length ≤ 1000000) :
    Calls Try.prog 69 #[.pointer (some ⟨g, 0, none⟩), .int .i64 n] w (RawPost w 77 g (s.l.take n) ⟨s.l.drop n, s.e⟩) := by
  obtain ⟨A, c, q0, q1, f0, f1, HK, hc, hA, hr⟩ := rdr_cells h
  clear h
  obtain ⟨l, e⟩ := s
  simp only at q0 q1 HK hc hr hn hl ⊢
  go_enter Try.func69, Try.ntmps69
  go_wp2
  all_goals
    go_ret
    refine ⟨_, rfl, ?_, ?_, grown_set _ _ _ _⟩
  · have hcn := h
    refine ⟨A, n, ?_, ?_, fun h => by rw [← hcn]; exact hA h, rd_far (rd_take hr n) (Nat.le_refl _) _⟩
    · rw [List.length_take, Nat.min_eq_left hn]; rfl
    · rw [List.length_take]; omega
  · have hcn := h
    have hmv := rdr_move2 HK.out hc hA hr n hn A (.inl ⟨hcn, rfl⟩)
    rw [show c - n = 0 by omega] at hmv
    exact hmv
  · refine ⟨A, c, ?_, ?_, hA, rd_far (rd_take hr n) (Nat.le_refl _) _⟩
    · rw [List.length_take, Nat.min_eq_left hn]; rfl
    · rw [List.length_take]; omega
  · have hcn := h
    exact rdr_move2 HK.out hc hA hr n hn _ (.inr ⟨hcn, rfl⟩)

theorem roctet_nil (g : Nat) (e : Int) (w : World) (h : RdrAt w 77 g ⟨[], e⟩) :
    Calls Try.prog 62 #[.pointer (some ⟨g, 0, none⟩)] w (RdrPost w 77 g (.int .u8 0) ⟨[], if e = 0 then 3 else e⟩) := by
  have hF := rfail_any g ⟨[], e⟩ 3 w h
  obtain ⟨A, c, q0, q1, f0, f1, HK, hc, hA, hr⟩ := rdr_cells h
  clear h hr hA hc q1
  simp only [List.length_nil] at q0 hF
  generalize (if e = 0 then (3 : Int) else e) = e2 at hF
  go_enter Try.func62, Try.ntmps62
  go_wp2_with (go_at_call 63; refine hF.mono ?_; clear hF; rintro e' w1 ⟨rfl, hr1, hg1⟩)
  go_ret
  exact ⟨rfl, hr1, hg1⟩
theorem roctet_cons (g : Nat) (x : Int) (r : List Int) (e : Int) (w : World) (h : RdrAt w 77 g ⟨x :: r, e⟩) (hl : r.length ≤ 900000) :
    Calls Try.prog 62 #[.pointer (some ⟨g, 0, none⟩)] w (RdrPost w 77 g (.int .u8 x) ⟨r, e⟩) := by
  have hT : Calls Try.prog 69 #[.pointer (some ⟨g, 0, none⟩), .int .i64 1] w (RawPost w 77 g [x] ⟨r, e⟩) := rtake_any g 1 ⟨x :: r, e⟩ w h (by simp) (by simp; omega)
  obtain ⟨A, c, q0, q1, f0, f1, HK, hc, hA, hr⟩ := rdr_cells h
  clear h hr hA hc q1
  simp only [List.length_cons] at q0
  have b1 : (((r.length : Int) + 1) == 0) = false := by simp; omega
  go_enter Try.func62, Try.ntmps62
  go_wp2_with (go_at_call 69; refine hT.mono ?_; clear hT; rintro e' w1 ⟨v1, rfl, ⟨A1, c1, rfl, hc1, _, hr1⟩, hrd1, hg1⟩; obtain ⟨b1, o1, rfl, hb1, hck⟩ := hr1.at_ (j := 0) (by simp); simp only [List.getElem?_cons_zero, Option.getD_some, Nat.add_zero] at hck)
  go_ret
  exact ⟨rfl, hrd1, hg1⟩
end Go.Proofs.Ytebfgdonikedaaa
