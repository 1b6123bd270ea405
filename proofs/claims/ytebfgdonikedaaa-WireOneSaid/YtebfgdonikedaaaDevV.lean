/-
  THE WALKS of the program's Reader of wire, second part: Int, Bool, End, Read, Text, Raw.
-/
import Derived.Test.YtebfgdonikedaaaDevU
namespace Go.Proofs.Ytebfgdonikedaaa
open Go.RowKit

theorem grown_below {w w' : World} (hb : Below w.heap.size w w') (row : Option Nat) : w.grownBy w' row := ⟨hb.os, hb.tape, hb.output, hb.size, fun i hi _ => hb.block i hi⟩
theorem rdr_below {W W' : World} {T : TypeId} {g : Nat} {s : Rst} (h : RdrAt W T g s) (hb : Below W.heap.size W W') : RdrAt W' T g s := by
  obtain ⟨A, c, hk, hc, hA, hr⟩ := h
  have hg : g < W.heap.size := (Array.getElem?_eq_some_iff.1 hk).1
  exact ⟨A, c, (hb.block g hg).trans hk, hc, hA, hr.below (hb.mono (Nat.le_of_lt hg))⟩
theorem uintR_len {s : Rst} (h8 : Bytes8 s.l) : (uintR s).2.l.length ≤ s.l.length ∧ Bytes8 (uintR s).2.l := by
  obtain ⟨l, e⟩ := s
  unfold uintR
  split
  · cases hr : rdv 0 0 l with
    | error b => exact ⟨Nat.le_refl _, h8⟩
    | ok p =>
      obtain ⟨q, _, he, _⟩ := rdv_back l 0 0 p.1 p.2 h8 hr
      have h1 := congrArg List.length he
      rw [List.length_append] at h1
      exact ⟨by simp only; omega, bytes8_right (he ▸ h8)⟩
  · exact ⟨Nat.le_refl _, h8⟩
theorem uintR_fail {s : Rst} (h : (uintR s).2.e ≠ 0) : (uintR s).1 = 0 := by
  unfold uintR at h ⊢
  split
  · rename_i h0
    rw [if_pos h0] at h
    cases hr : rdv 0 0 s.l with
    | error b => rfl
    | ok p =>
      simp only [hr] at h
      exact absurd rfl h
  · rfl

theorem rInt_any (g : Nat) (s : Rst) (w : World) (h : RdrAt w 77 g (nrm s)) (h8 : Bytes8 s.l) (hl : s.l.length ≤ 900000) :
    Calls Try.prog 46 #[.pointer (some ⟨g, 0, none⟩)] w (RdrPost w 77 g (.int .i64 (intR s).1) (nrm (intR s).2)) := by
  have hU := rUint_any g s w h h8 hl
  have hB := fun W => dunzig_any (uintR s).1 W (uintR_lt s h8)
  have H1 := Lib.hid (show (intR s).1 = unzz (uintR s).1 from rfl)
  have H2 := Lib.hid (show (intR s).2 = (uintR s).2 from rfl)
  generalize uintR s = r at hU hB H1 H2
  generalize intR s = r2 at H1 H2
  clear h
  go_enter Try.func46, Try.ntmps46
  go_wp2_with (first
    | (go_at_call 45; refine hU.mono ?_; clear hU; rintro e w1 ⟨rfl, hr1, hg1⟩)
    | (go_at_call 64; refine (hB _).mono ?_; clear hB; rintro e w2 ⟨rfl, rfl⟩))
  go_ret
  exact ⟨by rw [H1.out]; rfl, by rw [H2.out]; exact hr1, hg1⟩

theorem endR_nrm (s : Rst) : endR (nrm s) = endR s := by
  unfold nrm
  split
  · rfl
  · rename_i h
    simp [endR, h]
theorem rEnd_any (g : Nat) (s : Rst) (w : World) (h : RdrAt w 77 g (nrm s)) (hl : s.l.length ≤ 1000000) :
    Calls Try.prog 24 #[.pointer (some ⟨g, 0, none⟩)] w fun e w' => e = .returned (.int .i64 (endR s)) ∧ w = w' := by
  have hll : (nrm s).l.length ≤ 1000000 := by
    unfold nrm
    split
    · exact hl
    · exact Nat.zero_le _
  rw [← endR_nrm]
  generalize nrm s = s at h hll
  clear hl
  obtain ⟨A, c, q0, q1, f0, f1, HK, hc, hA, hr⟩ := rdr_cells h
  clear h hr hA
  obtain ⟨l, e⟩ := s
  simp only at q0 q1 hll hc HK ⊢
  by_cases he : e = 0
  · subst he
    by_cases h0 : 0 < l.length
    · have HR := Lib.hid (show endR ⟨l, 0⟩ = 2 by simp [endR, h0])
      have b1 : decide (0 < l.length) = true := decide_eq_true h0
      have b2 : decide ((0 : Int) < (l.length : Int)) = true := decide_eq_true (by omega)
      go_enter Try.func24, Try.ntmps24
      go_wp2
      go_ret
      exact ⟨by rw [HR.out]; rfl, rfl⟩
    · have HR := Lib.hid (show endR ⟨l, 0⟩ = 0 by simp [endR, h0])
      have b1 : decide (0 < l.length) = false := decide_eq_false h0
      have b2 : decide ((0 : Int) < (l.length : Int)) = false := decide_eq_false (by omega)
      go_enter Try.func24, Try.ntmps24
      go_wp2
      go_ret
      exact ⟨by rw [HR.out]; rfl, rfl⟩
  · have HR := Lib.hid (show endR ⟨l, e⟩ = e by simp [endR, he])
    have b1 : (e == 0) = false := by simpa using he
    have b2 : (e != 0) = true := by simpa using he
    go_enter Try.func24, Try.ntmps24
    go_wp2
    go_ret
    exact ⟨by rw [HR.out]; rfl, rfl⟩

set_option maxHeartbeats 1000000 in
theorem rBool_any (g : Nat) (s : Rst) (w : World) (h : RdrAt w 77 g (nrm s)) (h8 : Bytes8 s.l) (hl : s.l.length ≤ 900000) :
    Calls Try.prog 48 #[.pointer (some ⟨g, 0, none⟩)] w (RdrPost w 77 g (.bool ((boolR s).1 == 1)) (nrm (boolR s).2)) := by
  obtain ⟨l, e⟩ := s
  simp only at h8 hl
  by_cases he : e = 0
  · subst he
    rw [nrm_ok rfl] at h
    cases l with
    | nil =>
      have hO := roctet_nil g 0 w h
      rw [if_pos rfl] at hO
      have HR := Lib.hid (show boolR ⟨[], 0⟩ = (0, ⟨[], 3⟩) from rfl)
      clear h
      go_enter Try.func48, Try.ntmps48
      go_wp2_with (go_at_call 62; refine hO.mono ?_; clear hO; rintro e' w1 ⟨rfl, hr1, hg1⟩)
      go_ret
      exact ⟨by rw [HR.out]; rfl, by rw [HR.out]; exact hr1, hg1⟩
    | cons x r =>
      have hxb := h8 x (by simp)
      have hO := roctet_cons g x r 0 w h (by simp at hl; omega)
      obtain ⟨x0, x1⟩ := hxb
      clear h
      by_cases hx : 1 < x
      · have HR := Lib.hid (show (boolR ⟨x :: r, 0⟩).1 = 0 ∧ nrm (boolR ⟨x :: r, 0⟩).2 = ⟨[], 2⟩ by simp [boolR, hx, nrm])
        have b1 : decide ((1 : Int) < x) = true := decide_eq_true hx
        have b2 : (x == 1) = false := by simp; omega
        go_enter Try.func48, Try.ntmps48
        go_wp2_with (first
          | (go_at_call 62; refine hO.mono ?_; clear hO; rintro e' w1 ⟨rfl, hr1, hg1⟩; have hF := rfail_any g _ 2 _ hr1; rw [if_pos rfl] at hF)
          | (go_at_call 63; refine hF.mono ?_; clear hF; rintro e' w2 ⟨rfl, hr2, hg2⟩))
        go_ret
        exact ⟨by rw [HR.out.1]; rfl, by rw [HR.out.2]; exact hr2, hg1.trans hg2⟩
      · have HR := Lib.hid (show boolR ⟨x :: r, 0⟩ = (if x = 1 then 1 else 0, ⟨r, 0⟩) by simp [boolR, hx])
        have b1 : decide ((1 : Int) < x) = false := decide_eq_false hx
        have hbx : Hid (((if x = 1 then (1 : Int) else 0) == 1) = (x == 1)) := Lib.hid (by by_cases h1 : x = 1 <;> simp [h1])
        go_enter Try.func48, Try.ntmps48
        go_wp2_with (go_at_call 62; refine hO.mono ?_; clear hO; rintro e' w1 ⟨rfl, hr1, hg1⟩)
        go_ret
        exact ⟨by rw [HR.out, hbx.out]; rfl, by rw [HR.out]; exact hr1, hg1⟩
  · rw [nrm_err he] at h
    have HR := Lib.hid (show boolR ⟨l, e⟩ = (0, ⟨l, e⟩) by simp [boolR, he])
    have hO := roctet_nil g e w h
    rw [if_neg he] at hO
    have hN := Lib.hid (nrm_err (s := ⟨l, e⟩) he)
    clear h
    go_enter Try.func48, Try.ntmps48
    go_wp2_with (go_at_call 62; refine hO.mono ?_; clear hO; rintro e' w1 ⟨rfl, hr1, hg1⟩)
    go_ret
    exact ⟨by rw [HR.out]; rfl, by rw [HR.out, hN.out]; exact hr1, hg1⟩

/-- what Read leaves: a reader in a block of its own -/
def ReadPost (w : World) (zs : List Int) (e : Ending) (w' : World) : Prop := ∃ g, e = .returned (.pointer (some ⟨g, 0, none⟩)) ∧ w.heap.size ≤ g ∧ RdrAt w' 77 g ⟨zs, 0⟩ ∧ Below w.heap.size w w'
theorem dRead_any (A : Option Addr) (n c : Nat) (zs : List Int) (w : World) (hn : n = zs.length) (hz : zs.length ≤ 900000) (hcap : zs.length ≤ c) (hA : A = none → c = 0) (hr : RdI w w.heap.size .u8 A zs) :
    Calls Try.prog 20 #[.slice A n c] w (ReadPost w zs) := by
  subst hn
  have hC := clone_any A zs.length c zs w rfl (by omega) hcap hA hr
  clear hr hA
  go_enter Try.func20, Try.ntmps20
  go_wp2_with (go_at_call 39; refine hC.mono ?_; clear hC; rintro e w1 ⟨A1, c1, rfl, hc1, hrow1, hb1⟩)
  go_ret
  have hsz := hb1.size
  have hR : RdrAt (w1.alloc (.cells #[.slice A1 zs.length c1, .int .i64 0] 77)) 77 w1.heap.size ⟨zs, 0⟩ := ⟨A1, c1, heap_alloc_new w1 _, hc1, own_none hrow1, (rd_own hrow1).below ((Below.refl _ _).alloc (Nat.le_refl _) _)⟩
  exact ⟨w1.heap.size, rfl, hsz, hR, hb1.alloc hsz _⟩

/-- string(b) of a byte slice, nil let in -/
theorem conv_str (A : Option Addr) (n c : Nat) (zs : List Int) (W : World) (B : Nat) (hn : zs.length = n) (hr : RdI W B .u8 A zs) :
    (convert 24 9 (.slice A n c)).run Try.prog W = .ok (.string (strOfNums zs)) W := by
  cases A with
  | none =>
    rcases hr with rfl | ⟨b, o, e, _⟩
    · exact run_convert_bytes_nil W 24 5 Try.underlying24 Try.underlying5 n c 9 Try.underlying9
    · cases e
  | some x =>
    have hl : (loadCells x n).run Try.prog W = .ok (zs.map (Value.int .u8)).toArray W := by
      have hc := rd_cells hr zs.length
      rw [List.take_length] at hc
      have := run_loadCells_list (P := Try.prog) W x (zs.map (Value.int .u8)) (fun j v hj => hc j v hj)
      simpa [hn] using this
    rw [run_convert_bytes_string W 24 9 5 _ n c Try.underlying24 Try.underlying5 Try.underlying9, run_bytesToString W _ n c zs hl, foldl_push_bytes]
    simp [strOfNums, ByteArray.empty, ByteArray.emptyWithCapacity]
    rfl

theorem rtext_any (g n : Nat) (s : Rst) (w : World) (h : RdrAt w 77 g s) (hn : n ≤ s.l.length) (hl : s.l.length ≤ 1000000) :
    Calls Try.prog 66 #[.pointer (some ⟨g, 0, none⟩), .int .i64 n] w (RdrPost w 77 g (.string (strOfNums (s.l.take n))) ⟨s.l.drop n, s.e⟩) := by
  have hT := rtake_any g n s w h hn hl
  clear h
  generalize s.l.take n = zs at hT
  generalize (⟨s.l.drop n, s.e⟩ : Rst) = s2 at hT
  go_enter Try.func66, Try.ntmps66
  go_wp2_with (go_at_call 69; refine hT.mono ?_; clear hT; rintro e' w1 ⟨v1, rfl, ⟨A1, c1, rfl, hc1, _, hr1⟩, hrd1, hg1⟩; have hcv := conv_str A1 zs.length c1 zs w1 _ rfl hr1)
  go_ret
  exact ⟨rfl, hrd1, hg1⟩
/-- what is handed back is a new row; the reader moved on -/
def RowPost (w : World) (g : Nat) (e : TypeId) (k : IntKind) (zs : List Int) (s : Rst) (en : Ending) (w' : World) : Prop :=
  ∃ A c, en = .returned (.slice A zs.length c) ∧ zs.length ≤ c ∧ w'.ownsRow w.heap.size e 1 (.slice A zs.length c) zs.length (zs.map (Value.int k)) ∧ RdrAt w' 77 g s ∧ w.grownBy w' (some g)
theorem rraw_any (g n : Nat) (s : Rst) (w : World) (h : RdrAt w 77 g s) (hn : n ≤ s.l.length) (hl : s.l.length ≤ 1000000) :
    Calls Try.prog 56 #[.pointer (some ⟨g, 0, none⟩), .int .i64 n] w (RowPost w g 5 .u8 (s.l.take n) ⟨s.l.drop n, s.e⟩) := by
  have hT := rtake_any g n s w h hn hl
  clear h
  have hzl : (s.l.take n).length ≤ 1000000 := by rw [List.length_take]; omega
  generalize s.l.take n = zs at hT hzl
  generalize (⟨s.l.drop n, s.e⟩ : Rst) = s2 at hT
  go_enter Try.func56, Try.ntmps56
  go_wp2_with (first
    | (go_at_call 69; refine hT.mono ?_; clear hT; rintro e' w1 ⟨v1, rfl, ⟨A1, c1, rfl, hc1, hA1, hr1⟩, hrd1, hg1⟩; have hgl : g < w1.heap.size := (by obtain ⟨_, _, hk, _⟩ := hrd1; exact (Array.getElem?_eq_some_iff.1 hk).1); have hC := clone_any A1 zs.length c1 zs w1 rfl (by omega) hc1 hA1 (hr1.mono (Nat.le_of_lt hgl)))
    | (go_at_call 39; refine hC.mono ?_; clear hC; rintro e' w2 ⟨A2, c2, rfl, hc2, hrow2, hb2⟩))
  go_ret
  exact ⟨A2, c2, rfl, hc2, own_base hrow2 hg1.size, rdr_below hrd1 hb2, hg1.trans (grown_below hb2 _)⟩
end Go.Proofs.Ytebfgdonikedaaa
