/-
  THE WALK of lives of the laws of wire: the documented examples hold.
-/
import Derived.Test.YtebfgdonikedaaaDevM
namespace Go.Proofs.Ytebfgdonikedaaa
open Go.RowKit

theorem below_of_grown {w w' : World} {g : Nat} (h : w.grownBy w' (some g)) (hg : g ≤ w.heap.size) : Below g w w' :=
  ⟨h.os, h.tape, h.output, h.size, fun k hk => h.block k (Nat.lt_of_lt_of_le hk hg) (fun e => by injection e with e; omega)⟩
theorem rdr_lt {w : World} {T : TypeId} {g : Nat} {s : Rst} (h : RdrAt w T g s) : g < w.heap.size := by
  obtain ⟨_, _, hk, _⟩ := h
  exact (Array.getElem?_eq_some_iff.1 hk).1
/-- another reader that moves on leaves this one alone -/
theorem rdr_other {W W' : World} {T T' : TypeId} {g g' : Nat} {s s' : Rst} (h : RdrAt W T g s) (h' : RdrAt W T' g' s') (hne : g ≠ g') (hg : W.grownBy W' (some g')) : RdrAt W' T g s := by
  have hgl := rdr_lt h
  obtain ⟨A, c, hk, hc, hA, hr⟩ := h
  obtain ⟨A', c', hk', _⟩ := h'
  refine ⟨A, c, (hg.block g hgl (fun e => hne (by injection e))).trans hk, hc, hA, ?_⟩
  rcases hr with h0 | ⟨b, o, e, hb, hcs⟩
  · exact .inl h0
  · by_cases hl : s.l = []
    · exact .inl hl
    · refine .inr ⟨b, o, e, hb, fun j hj => ?_⟩
      have hcj := hcs j hj
      have hbne : b ≠ g' := by
        rintro rfl
        rw [cell_of_row W b (o + j) _ _ _ hk'] at hcj
        match hoj : o + j with
        | 0 => rw [hoj] at hcj; simp at hcj
        | 1 => rw [hoj] at hcj; simp at hcj
        | n + 2 => rw [hoj] at hcj; simp at hcj
      exact (World.cell?_of_block (hg.block b (by omega) (fun e => hbne (by injection e)))).trans hcj

theorem uv_300 : uv 300 = [172, 2] := by rw [uv_ge (by decide), uv_lt (by decide)]; rfl
def exL : List Int := uv 300 ++ (uv (zz (-1)) ++ (raw [97, 98] ++ []))
theorem exL_eq : exL = [172, 2, 1, 2, 97, 98] := by
  unfold exL raw
  rw [uv_300, uv_lt (n := zz (-1)) (by decide), uv_lt (by decide)]
  rfl
theorem bad_int : (intR ⟨[128, 0], 0⟩).2 = ⟨[128, 0], 2⟩ := by
  have : rdv 0 0 [128, 0] = .error true := by simp [rdv]
  simp [intR, uintR, this]
theorem sb_ab : sb ⟨#[97, 98]⟩ = [97, 98] := rfl
theorem str_ab : strOfNums [97, 98] = ⟨#[97, 98]⟩ := by decide
/-- a law, lives: it returns true, and nothing that was there has turned -/
def TruePost (w : World) (e : Ending) (w' : World) : Prop := e = .returned (.bool true) ∧ Below w.heap.size w w'
set_option maxRecDepth 100000 in
set_option maxHeartbeats 1000000 in
theorem livesW_any (w : World) : Calls Try.prog 18 #[] w (TruePost w) := by
  have e1 : [] ++ uv 300 ++ uv (zz (-1)) ++ raw (sb ⟨#[97, 98]⟩) = exL := by unfold exL; rw [sb_ab]; simp
  have E1 := Lib.hid e1
  have hll : exL.length = 6 := by rw [exL_eq]; decide
  have HL := Lib.hid hll
  have h80 : Bytes8 exL := by rw [exL_eq]; unfold Bytes8; decide
  have r1 : uintR ⟨exL, 0⟩ = (300, ⟨uv (zz (-1)) ++ (raw [97, 98] ++ []), 0⟩) := uintR_uv (by decide) _
  have r2 : intR ⟨uv (zz (-1)) ++ (raw [97, 98] ++ []), 0⟩ = (-1, ⟨raw [97, 98] ++ [], 0⟩) := intR_uv ⟨by decide, by decide⟩ _
  have r3 : rawR ⟨raw [97, 98] ++ [], 0⟩ = ([97, 98], ⟨[], 0⟩) := rawR_raw (by decide) _
  obtain ⟨L2, hL2⟩ : ∃ L2, L2 = uv (zz (-1)) ++ (raw [97, 98] ++ []) := ⟨_, rfl⟩
  obtain ⟨L3, hL3⟩ : ∃ L3, L3 = raw [97, 98] ++ [] := ⟨_, rfl⟩
  have h82 : Bytes8 L2 := by rw [hL2]; exact bytes8_right (show Bytes8 (uv 300 ++ _) from h80)
  have h83 : Bytes8 L3 := by rw [hL3]; rw [hL2] at h82; exact bytes8_right h82
  have hl2 : L2.length ≤ 900000 := by
    have := congrArg List.length (show exL = uv 300 ++ L2 by rw [hL2]; rfl)
    rw [List.length_append, hll] at this
    omega
  have hl3 : L3.length ≤ 900000 := by
    have := congrArg List.length (show L2 = uv (zz (-1)) ++ L3 by rw [hL2, hL3])
    rw [List.length_append] at this
    omega
  rw [← hL3] at hL2 r2 r3
  rw [← hL3, ← hL2] at r1
  rw [← hL2] at r2
  have c7 : ∀ g W, RdrAt W 77 g ⟨exL, 0⟩ → Calls Try.prog 45 #[.pointer (some ⟨g, 0, none⟩)] W (RdrPost W 77 g (.int .u64 300) ⟨L2, 0⟩) := fun g W h => by
    have := rUint_any g ⟨exL, 0⟩ W (by rw [nrm_ok rfl]; exact h) h80 (by rw [hll]; decide)
    rw [r1, nrm_ok rfl] at this
    exact this
  have c8 : ∀ g W, RdrAt W 77 g ⟨L2, 0⟩ → Calls Try.prog 46 #[.pointer (some ⟨g, 0, none⟩)] W (RdrPost W 77 g (.int .i64 (-1)) ⟨L3, 0⟩) := fun g W h => by
    have := rInt_any g ⟨L2, 0⟩ W (by rw [nrm_ok rfl]; exact h) h82 hl2
    rw [r2, nrm_ok rfl] at this
    exact this
  have c9 : ∀ g W, RdrAt W 77 g ⟨L3, 0⟩ → Calls Try.prog 47 #[.pointer (some ⟨g, 0, none⟩)] W (RdrPost W 77 g (.string ⟨#[97, 98]⟩) ⟨[], 0⟩) := fun g W h => by
    have := rText_any g ⟨L3, 0⟩ W (by rw [nrm_ok rfl]; exact h) h83 hl3
    rw [r3, nrm_ok rfl] at this
    exact this
  have c10 : ∀ g W, RdrAt W 77 g ⟨[128, 0], 0⟩ → Calls Try.prog 46 #[.pointer (some ⟨g, 0, none⟩)] W (RdrPost W 77 g (.int .i64 (intR ⟨[128, 0], 0⟩).1) ⟨[], 2⟩) := fun g W h => by
    have := rInt_any g ⟨[128, 0], 0⟩ W (by rw [nrm_ok rfl]; exact h) (by unfold Bytes8; decide) (by decide)
    rw [bad_int, nrm_err (show (2 : Int) ≠ 0 by decide)] at this
    exact this
  have c11 : ∀ g W, RdrAt W 77 g ⟨[], 0⟩ → Calls Try.prog 24 #[.pointer (some ⟨g, 0, none⟩)] W fun e w' => e = .returned (.int .i64 0) ∧ W = w' := fun g W h => rEnd_any g ⟨[], 0⟩ W (by rw [nrm_ok rfl]; exact h) (by decide)
  have c12 : ∀ g W, RdrAt W 77 g ⟨[], 2⟩ → Calls Try.prog 24 #[.pointer (some ⟨g, 0, none⟩)] W fun e w' => e = .returned (.int .i64 2) ∧ W = w' := fun g W h => rEnd_any g ⟨[], 2⟩ W (by rw [nrm_err (show (2 : Int) ≠ 0 by decide)]; exact h) (by decide)
  have c13 : ∀ A c B W (t : TypeId) (C : Array Value), C = ([172, 2, 1, 2, 97, 98].map (Value.int .u8)).toArray → B ≤ W.heap.size → RdI W B .u8 A exL → Calls Try.prog 15 #[.slice A exL.length c, .slice (some ⟨W.heap.size, 0, none⟩) 6 6] (W.alloc (.cells C t)) fun e w' => e = .returned (.bool true) ∧ Below W.heap.size W w' := fun A c B W t C hC hB h => by
    have hs := ((h.mono hB).below ((Below.refl _ W).alloc (Nat.le_refl _) (.cells C t))).mono (show W.heap.size ≤ (W.alloc (.cells C t)).heap.size by simp)
    have := SameBytes_eq A (some ⟨W.heap.size, 0, none⟩) 6 c 6 exL [172, 2, 1, 2, 97, 98] (W.alloc (.cells C t)) hll rfl (by decide) hs (rd_new W .u8 t C _ hC _ (by simp))
    rw [decide_eq_true exL_eq] at this
    rw [hll]
    exact this.mono fun e w' hp => ⟨hp.1, ((Below.refl _ W).alloc (Nat.le_refl _) _).trans (hp.2.mono (by simp))⟩
  have ho : endR ⟨[], 0⟩ = 0 := rfl
  clear e1 r1 r2 r3 hL2 hL3 h80 h82 h83 hl2 hl3 ho
  have h0 : WtrAt (w.alloc (.cells #[.slice none 0 0] 32)) w.heap.size w.heap.size [] := ⟨Nat.le_refl _, _, heap_alloc_new w _, World.ownsRow_nil _ _ _ _⟩
  have b0 : Below w.heap.size w (w.alloc (.cells #[.slice none 0 0] 32)) := (Below.refl _ w).alloc (Nat.le_refl _) _
  clear hll
  go_enter Try.func18, Try.ntmps18
  go_wp2_with (first
    | (go_at_call 27; refine (dUint_any 300 _ _ [] _ h0 (by decide) (by decide)).mono ?_; rintro e w1 ⟨rfl, hw1, hb1⟩)
    | (go_at_call 29; refine (dInt_any (-1) _ _ _ _ hw1 (by rw [uv_300]; decide) (by decide) (by decide)).mono ?_; rintro e w2 ⟨rfl, hw2, hb2⟩)
    | (go_at_call 38; refine (dText_any _ _ _ _ _ hw2 (by rw [uv_300, uv_lt (n := zz (-1)) (by decide)]; decide) (by decide)).mono ?_; rintro e w3 ⟨rfl, hw3, hb3⟩; rw [E1.out] at hw3)
    | (go_at_call 16; refine (dDone_any _ _ _ _ hw3 (by rw [HL.out]; decide)).mono ?_; rintro e w4 ⟨A4, c4, rfl, hc4, hrow4, hb4⟩)
    | (go_at_call 20; refine (dRead_any A4 exL.length c4 exL _ rfl (by rw [HL.out]; decide) hc4 (own_none hrow4) (rd_own hrow4)).mono ?_; rintro e w5 ⟨g5, rfl, hg5, hr5, hb5⟩; have hra5 := (rd_own hrow4).below hb5; have hsz5 := hb5.size)
    | (go_at_call 20; refine (dRead_any (some ⟨w5.heap.size, 0, none⟩) 2 2 [128, 0] _ rfl (by decide) (by decide) (fun h => nomatch h) (rd_new w5 .u8 5 _ [128, 0] rfl _ (by simp))).mono ?_; rintro e w6 ⟨g6, rfl, hg6, hr6, hb6⟩; have hz6 : w5.heap.size < g6 := (by simp at hg6; omega); have hb56 := Lib.hid (((Below.refl _ w5).alloc (Nat.le_refl _) _).trans (hb6.mono (by simp))); have hr56 := rdr_below hr5 hb56.out; have hz5 := rdr_lt hr5; have hne : g6 ≠ g5 := (by omega))
    | (go_at_call 45; refine (c7 _ _ hr56).mono ?_; clear c7; rintro e w7 ⟨rfl, hr7, hg7⟩; have hr67 := rdr_other hr6 hr56 hne hg7)
    | (go_at_call 46; refine (c8 _ _ hr7).mono ?_; clear c8; rintro e w8 ⟨rfl, hr8, hg8⟩; have hr68 := rdr_other hr67 hr7 hne hg8)
    | (go_at_call 47; refine (c9 _ _ hr8).mono ?_; clear c9; rintro e w9 ⟨rfl, hr9, hg9⟩; have hr69 := rdr_other hr68 hr8 hne hg9)
    | (go_at_call 46; refine (c10 _ _ hr69).mono ?_; clear c10; rintro e w10 ⟨rfl, hr10, hg10⟩; have hr510 := rdr_other hr9 hr69 (fun e => hne e.symm) hg10; have hgg := Lib.hid ((hg7.trans hg8).trans hg9); have hz56 : g5 ≤ w6.heap.size := (by have := rdr_lt hr56; omega); have hz69 : g6 ≤ w9.heap.size := (by have := rdr_lt hr69; omega); have hB10 := Lib.hid ((hb56.out.mono (by omega : w4.heap.size ≤ w5.heap.size)).trans (((below_of_grown hgg.out hz56).mono hg5).trans ((below_of_grown hg10 hz69).mono (by omega : w4.heap.size ≤ g6)))); have hrb := Lib.hid (hra5.below hB10.out); have hz10 : w4.heap.size ≤ w10.heap.size := (by have := hb5.size; have := hB10.out.size; omega))
    | (go_at_call 15; refine (c13 A4 c4 _ w10 5 #[.int .u8 172, .int .u8 2, .int .u8 1, .int .u8 2, .int .u8 97, .int .u8 98] rfl hz10 hrb.out).mono ?_; clear c13; rintro e w11 ⟨rfl, hb11⟩; have hr5e := rdr_below hr510 hb11; have hr6e := rdr_below hr10 hb11; have HB11 := Lib.hid hb11)
    | (go_at_call 24; refine (c11 _ _ hr5e).mono ?_; clear c11; rintro e w12 ⟨rfl, rfl⟩)
    | (go_at_call 24; refine (c12 _ _ hr6e).mono ?_; clear c12; rintro e w12 ⟨rfl, rfl⟩))
  go_ret
  refine ⟨rfl, ?_⟩
  have s1 := hb1.size
  have s2 := hb2.size
  have s3 := hb3.size
  have s4 := hb4.size
  have s0 : w.heap.size ≤ (w.alloc (.cells #[.slice none 0 0] 32)).heap.size := by simp
  have d3 := ((b0.trans hb1).trans hb2).trans hb3
  have d4 := d3.trans (hb4.mono (by omega : w.heap.size ≤ w3.heap.size))
  have d5 := d4.trans (hb5.mono (by omega : w.heap.size ≤ w4.heap.size))
  have d10 := d5.trans (hB10.out.mono (by omega : w.heap.size ≤ w4.heap.size))
  exact d10.trans (HB11.out.mono (by omega : w.heap.size ≤ w10.heap.size))
end Go.Proofs.Ytebfgdonikedaaa
