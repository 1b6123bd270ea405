/-
  THE WALKS of the reference's Reader of wire.
-/
import Derived.Test.YtkffpfnmjadpaaaWireRef
import Derived.Test.YtkffpfnmjadpaaaVal
import Derived.Outline
namespace Go.Proofs.Ytkffpfnmjadpaaa
open Go.RowKit

/-- block g holds the reader s; its bytes lie below g -/
def RdrAt (w : World) (T : TypeId) (g : Nat) (s : Rst) : Prop :=
  ∃ A c, w.heap[g]? = some (.cells #[.slice A s.l.length c, .int .i64 s.e] T (0, 0)) ∧ s.l.length ≤ c ∧ (A = none → c = 0) ∧ RdI w g .u8 A s.l

theorem step_num {c : Int} {N k : Nat} (hc : 0 ≤ c ∧ c < 256) (hN : N < 128 ^ k) (hk : k ≤ 9) (h9 : k = 9 → c ≤ 1) :
    IntKind.u64.wrap ((N : Int) + IntKind.u64.wrap (c % 128 * ((128 ^ k : Nat) : Int))) = ((N + c.toNat % 128 * 128 ^ k : Nat) : Int) ∧ N + c.toNat % 128 * 128 ^ k < 18446744073709551616 := by
  obtain ⟨d, hd, rfl⟩ : ∃ d : Nat, d < 256 ∧ c = d := ⟨c.toNat, by omega, by omega⟩
  have e0 : (d : Int) % 128 = ((d % 128 : Nat) : Int) := by omega
  have e1 : ((d : Int).toNat) % 128 = d % 128 := by omega
  rw [e0, e1, ← Int.natCast_mul]
  have hmul : d % 128 * 128 ^ k ≤ 127 * 128 ^ k := Nat.mul_le_mul_right _ (by omega)
  have hb : N + d % 128 * 128 ^ k < 18446744073709551616 := by
    by_cases h : k = 9
    · subst h
      have : d % 128 * 128 ^ 9 ≤ 1 * 128 ^ 9 := Nat.mul_le_mul_right _ (by have := h9 rfl; omega)
      omega
    · have hp8 : (128 : Nat) ^ k ≤ 128 ^ 8 := Nat.pow_le_pow_right (by decide) (by omega)
      omega
  refine ⟨?_, hb⟩
  rw [u64_of (x := ((d % 128 * 128 ^ k : Nat) : Int)) ⟨by omega, by omega⟩, ← Int.natCast_add]
  exact u64_of ⟨by omega, by omega⟩
theorem step_pow {k : Nat} (hk : k < 9) : IntKind.u64.wrap (((128 ^ k : Nat) : Int) * 128) = ((128 ^ (k + 1) : Nat) : Int) := by
  have hp8 : (128 : Nat) ^ k ≤ 128 ^ 8 := Nat.pow_le_pow_right (by decide) (by omega)
  rw [show ((128 ^ k : Nat) : Int) * 128 = ((128 ^ (k + 1) : Nat) : Int) by rw [Nat.pow_succ, Int.natCast_mul]; rfl]
  rw [u64_of]
  rw [Nat.pow_succ]
  exact ⟨by omega, by omega⟩

theorem rd_cut {w : World} {B b o : Nat} {k : IntKind} {l : List Int} (h : RdI w B k (some ⟨b, o, none⟩) l) (j : Nat) : RdI w B k (some ⟨b, o + j, none⟩) (l.drop j) := by
  rcases h with rfl | ⟨b', o', e, hb, hc⟩
  · left; simp
  · obtain ⟨rfl, rfl⟩ : b = b' ∧ o = o' := by cases e; exact ⟨rfl, rfl⟩
    refine .inr ⟨b, o + j, rfl, hb, fun i hi => ?_⟩
    rw [List.length_drop] at hi
    rw [Nat.add_assoc, hc (j + i) (by omega), List.getElem?_drop]

/-- the reader moves on: as the walk spells the new slice -/
theorem rdr_move {w : World} {T : TypeId} {g b o c : Nat} {l : List Int} {e : Int} (hk : w.heap[g]? = some (.cells #[.slice (some ⟨b, o, none⟩) l.length c, .int .i64 e] T (0, 0))) (hc : l.length ≤ c) (hr : RdI w g .u8 (some ⟨b, o, none⟩) l) (j : Nat) (hj : j ≤ l.length) (A' : Option Addr)
    (hA : (c = j ∧ A' = some ⟨b, o, none⟩) ∨ (c ≠ j ∧ A' = some ⟨b, o + j, none⟩)) : RdrAt (w.setCell ⟨g, 0, none⟩ (.slice A' (l.length - j) (c - j))) T g ⟨l.drop j, e⟩ := by
  refine ⟨A', c - j, ?_, by rw [List.length_drop]; omega, ?_, ?_⟩
  · rw [List.length_drop]
    exact blk_set hk _
  · rcases hA with ⟨_, rfl⟩ | ⟨_, rfl⟩ <;> exact fun h => nomatch h
  · rcases hA with ⟨h1, rfl⟩ | ⟨_, rfl⟩
    · left
      exact List.drop_eq_nil_of_le (by omega)
    · exact rd_far (rd_cut hr j) (Nat.le_refl _) _

/-- what a reader's method leaves: the reader moved on; nothing else has turned -/
def RdrPost (w : World) (T : TypeId) (g : Nat) (v : Value) (s : Rst) (e : Ending) (w' : World) : Prop := e = .returned v ∧ RdrAt w' T g s ∧ w.grownBy w' (some g)

theorem uintR_lt (s : Rst) (h8 : Bytes8 s.l) : (uintR s).1 < 18446744073709551616 := by
  obtain ⟨l, e⟩ := s
  unfold uintR
  split
  · cases hr : rdv 0 0 l with
    | error b => simp only; omega
    | ok p => exact rdv_i l 0 0 p.1 p.2 (by decide) (by decide) h8 hr
  · simp only; omega

theorem rdr_cells {w : World} {T : TypeId} {g : Nat} {s : Rst} (h : RdrAt w T g s) : ∃ A c, w.cell? ⟨g, 0, none⟩ = some (.slice A s.l.length c) ∧ w.cell? ⟨g, 1, none⟩ = some (.int .i64 s.e) ∧ w.frozen? ⟨g, 0, none⟩ = false ∧ w.frozen? ⟨g, 1, none⟩ = false ∧
    Hid (w.heap[g]? = some (.cells #[.slice A s.l.length c, .int .i64 s.e] T (0, 0))) ∧ s.l.length ≤ c ∧ (A = none → c = 0) ∧ RdI w g .u8 A s.l := by
  obtain ⟨A, c, hk, hc, hA, hr⟩ := h
  exact ⟨A, c, by simp [World.cell?, hk], by simp [World.cell?, hk], by simp [World.frozen?, hk], by simp [World.frozen?, hk], Lib.hid hk, hc, hA, hr⟩

theorem rdr_error {w : World} {T : TypeId} {g : Nat} {s : Rst} {A : Option Addr} {c : Nat} (hk : w.heap[g]? = some (.cells #[.slice A s.l.length c, .int .i64 s.e] T (0, 0))) (hc : s.l.length ≤ c) (hA : A = none → c = 0) (hr : RdI w g .u8 A s.l) (e : Int) :
    RdrAt (w.setCell ⟨g, 1, none⟩ (.int .i64 e)) T g ⟨s.l, e⟩ := ⟨A, c, blk_set hk _, hc, hA, rd_far hr (Nat.le_refl _) _⟩
theorem grown_set_trans {w w1 : World} {g i : Nat} {v : Value} (h : w.grownBy w1 (some g)) : w.grownBy (w1.setCell ⟨g, i, none⟩ v) (some g) :=
  h.trans (grown_set w1 g i v)

theorem lenR_len (s : Rst) (h8 : Bytes8 s.l) (he : (lenR s).2.e = 0) : (lenR s).1 ≤ (lenR s).2.l.length ∧ (lenR s).2.l.length ≤ s.l.length ∧ Bytes8 (lenR s).2.l := by
  obtain ⟨l, e⟩ := s
  have h0 : e = 0 := by
    by_cases h : e = 0
    · exact h
    · have hu := uintR_err (s := ⟨l, e⟩) h
      simp only [lenR, hu, if_neg h] at he
      exact he
  subst h0
  obtain ⟨h1, h2⟩ := lenR_back (l := l) (n := (lenR ⟨l, 0⟩).1) (r := (lenR ⟨l, 0⟩).2.l) h8 (by rw [← Rst.zero he])
  have h3 := congrArg List.length h1
  rw [List.length_append] at h3
  exact ⟨h2, by simp only; omega, bytes8_right (h1 ▸ h8)⟩

theorem rd_take {w : World} {B : Nat} {k : IntKind} {A : Option Addr} {l : List Int} (h : RdI w B k A l) (n : Nat) : RdI w B k A (l.take n) := by
  rcases h with rfl | ⟨b, o, e, hb, hc⟩
  · left; simp
  · refine .inr ⟨b, o, e, hb, fun j hj => ?_⟩
    rw [List.length_take] at hj
    rw [hc j (by omega), List.getElem?_take_of_lt (by omega)]
/-- the reader moves on, whatever its slice -/
theorem rdr_move2 {w : World} {T : TypeId} {g c : Nat} {A : Option Addr} {l : List Int} {e : Int} (hk : w.heap[g]? = some (.cells #[.slice A l.length c, .int .i64 e] T (0, 0))) (hc : l.length ≤ c) (hA : A = none → c = 0) (hr : RdI w g .u8 A l) (j : Nat) (hj : j ≤ l.length) (A' : Option Addr)
    (hA' : (c = j ∧ A' = A) ∨ (c ≠ j ∧ A' = A.map (fun x => x.add j))) : RdrAt (w.setCell ⟨g, 0, none⟩ (.slice A' (l.length - j) (c - j))) T g ⟨l.drop j, e⟩ := by
  refine ⟨A', c - j, ?_, by rw [List.length_drop]; omega, ?_, ?_⟩
  · rw [List.length_drop]
    exact blk_set hk _
  · intro h
    rcases hA' with ⟨_, rfl⟩ | ⟨_, rfl⟩
    · have := hA h; omega
    · cases A with
      | none => have := hA rfl; omega
      | some x => cases h
  · rcases hA' with ⟨h1, rfl⟩ | ⟨_, rfl⟩
    · left
      exact List.drop_eq_nil_of_le (by omega)
    · rcases hr with rfl | ⟨b, o, rfl, hb, hcs⟩
      · left; simp
      · have hadd : (⟨b, o, none⟩ : Addr).add j = ⟨b, o + j, none⟩ := by unfold Addr.add; split <;> simp_all
        simp only [Option.map_some, hadd]
        exact rd_far (rd_cut (.inr ⟨b, o, rfl, hb, hcs⟩) j) (Nat.le_refl _) _

/-- what Raw leaves: its bytes lie in the reader's own -/
def RawPost (w : World) (T : TypeId) (g : Nat) (b : List Int) (s : Rst) (e : Ending) (w' : World) : Prop := ∃ v, e = .returned v ∧ RdS w' g .u8 v b ∧ RdrAt w' T g s ∧ w.grownBy w' (some g)

end Go.Proofs.Ytkffpfnmjadpaaa
