/-
  THE WALK of the law on prefixes of encodings (P2.2, P2.8).
-/
import Derived.Test.YtebfgdonikedaaaValsRd
import Derived.Test.YtebfgdonikedaaaReadM
namespace Go.Proofs.Ytebfgdonikedaaa
open Go.RowKit

theorem take_kinds {xs : List Vl} {k : Nat} (hk : k < xs.length) : (xs.take (k + 1)).map Vl.k = (xs.take k).map Vl.k ++ [(xs[k]).k] := by
  rw [List.take_succ_eq_append_getElem hk, List.map_append]; rfl
/-- the reader's state after k reads -/
def stR (xs : List Vl) (s : Rst) (k : Nat) : Rst := (readsR ((xs.take k).map Vl.k) s).2
theorem stR_zero (xs : List Vl) (s : Rst) : stR xs s 0 = s := rfl
theorem stR_succ {xs : List Vl} {s : Rst} {k : Nat} (hk : k < xs.length) : stR xs s (k + 1) = (readR (xs[k]).k (stR xs s k)).2 := by
  unfold stR
  rw [take_kinds hk, readsR_snoc]
theorem stR_bd (xs : List Vl) {s : Rst} (k : Nat) (h8 : Bytes8 s.l) : (stR xs s k).l.length ≤ s.l.length ∧ Bytes8 (stR xs s k).l := readsR_bd _ _ h8
theorem stR_end {xs : List Vl} {a : Nat} (h : ∀ x ∈ xs, x.ok ∧ x.canon) (ha : a < (encs xs).length) : (stR xs ⟨(encs xs).take a, 0⟩ xs.length).e = 3 := by
  unfold stR
  rw [List.take_length]
  exact readsR_prefix h (List.take_append_drop a _).symm (fun e => by have := congrArg List.length e; rw [List.length_drop] at this; simp at this; omega)
theorem read_tail {xs : List Vl} {k : Nat} (hk : k < xs.length) (h : ∀ x ∈ xs, x.ok ∧ x.canon) (r : List Int) : readR (xs[k]).k ⟨encs (xs.drop k) ++ r, 0⟩ = (xs[k], ⟨encs (xs.drop (k + 1)) ++ r, 0⟩) := read_next hk h r

set_option maxRecDepth 100000 in
set_option maxHeartbeats 4000000 in
theorem prefix_any (A0 : Option Addr) (c0 : Nat) (zl : List Int) (cut cc : Int) (w : World) (hz : zl.length ≤ maxLen) (h64 : ∀ z ∈ zl, I64 z) (hr : RdI w w.heap.size .i64 A0 zl) (hcut : I64 cut) (hcc : 0 ≤ cc ∧ cc < 256) :
    Calls Try.prog 7 #[.slice A0 zl.length c0, .int .i64 cut, .int .u8 cc] w (TruePost w) := by
  obtain ⟨i0, hi, hz0, hzz1, hzz2⟩ := info_parts info_u8
  have hV := wVals_any A0 zl.length c0 zl w rfl hz h64 hr
  clear hz h64 hr
  go_enter Try.func7, Try.ntmps7
  go_wp2_with (go_at_call 11; refine hV.mono ?_; clear hV; rintro e w1 ⟨v, ts, rfl, htl, hrow, hgood, hb1⟩; obtain ⟨A1, c1, xs, rfl, hxl, hxc, hxn, hrd1, hxg⟩ := all_of hrow (by omega) hgood; clear hrow hgood htl)
  refine (lEncode_any A1 xs.length c1 xs w1 rfl hxl (fun x h => (hxg x h).1) hrd1).mono ?_
  rintro e w2 ⟨A2, c2, rfl, hc2, hrow2, hb2⟩
  have hel := encs_len15 hxl hxg
  have h8 := encs_bytes (fun x hx => (hxg x hx).1)
  have hz1 := hb1.size
  have hz2 := hb2.size
  have hB2 := Lib.hid (hb1.trans (hb2.mono hz1))
  by_cases hE : encs xs = []
  · rw [hE] at hrow2 hc2 ⊢
    have hR := fun W => dRead_any none 0 0 [] W rfl (by decide) (by decide) (fun _ => rfl) (.inl rfl)
    have he0 : endR ⟨[], 0⟩ = 0 := rfl
    have hEn := fun g W (h : RdrAt W 77 g ⟨[], 0⟩) => rEnd_any g ⟨[], 0⟩ W (by rw [nrm_ok rfl]; exact h) (by decide)
    rw [he0] at hEn
    clear he0 hE h8 hel hrd1 hxg hrow2 hb1 hb2
    go_wp2_with (first
      | (go_at_call 20; refine (hR _).mono ?_; clear hR; rintro e w3 ⟨g, rfl, hg, hrd3, hb3⟩)
      | (go_at_call 24; refine (hEn _ _ hrd3).mono ?_; clear hEn; rintro e w' ⟨rfl, rfl⟩)
      | (go_at_call 18; refine (livesW_any _).mono ?_; rintro e w7 ⟨rfl, hb7⟩))
    go_ret
    have hz3 := hb3.size
    exact ⟨rfl, (hB2.out.trans (hb3.mono (by omega))).trans (hb7.mono (by omega))⟩
  · have hP0 : 0 < (encs xs).length := List.length_pos_iff.2 hE
    obtain ⟨a, ha, hAr⟩ := Around_nat cut (encs xs).length hcut (by omega) (by omega)
    obtain ⟨m, hm, hAm⟩ := Around_nat cut 6 hcut (by decide) (by decide)
    have hend := stR_end hxg ha
    obtain ⟨st, hst⟩ : ∃ st : Nat → Rst, st = stR xs ⟨(encs xs).take a, 0⟩ := ⟨_, rfl⟩
    have hst0 : st 0 = ⟨(encs xs).take a, 0⟩ := by rw [hst]; rfl
    have hstS : ∀ k (hk : k < xs.length), st (k + 1) = (readR (xs[k]).k (st k)).2 := fun k hk => by rw [hst]; exact stR_succ hk
    have hstB : ∀ k, (st k).l.length ≤ 300000 ∧ Bytes8 (st k).l := fun k => by
      rw [hst]
      have h8a : Bytes8 (Rst.mk ((encs xs).take a) 0).l := fun z hz => h8 z (List.mem_of_mem_take hz)
      obtain ⟨h1, h2⟩ := stR_bd xs k h8a
      refine ⟨Nat.le_trans h1 ?_, h2⟩
      show ((encs xs).take a).length ≤ _
      rw [List.length_take]; omega
    rw [← hst] at hend
    clear hst
    obtain ⟨P, hP⟩ : ∃ P, P = encs xs := ⟨_, rfl⟩
    rw [← hP] at hrow2 hc2 hel h8 hP0 ha hAr hst0 ⊢
    have HP := Lib.hid hP
    have hF := fun W (h : Below w2.heap.size w2 W) => Few_any A2 P.length c2 P.length P W rfl (by unfold maxLen; omega) (by omega) hc2 (own_none hrow2) (((rd_own hrow2).below h).mono h.size)
    have hR1 := dRead_any A2 a c2 (P.take a) w2 (by rw [List.length_take]; omega) (by rw [List.length_take]; omega) (by rw [List.length_take]; omega) (own_none hrow2) (rd_take (rd_own hrow2) a)
    have HST0 := Lib.hid hst0
    rw [List.take_length] at hF
    have hac : (a : Int) ≤ (c2 : Int) := by omega
    have hap : (a : Int) < (P.length : Int) := by omega
    have b0 : ((P.length : Int) == 0) = false := by rw [beq_eq_false_iff_ne]; omega
    obtain ⟨Q, hQ⟩ : ∃ Q, Q = P ++ [cc] := ⟨_, rfl⟩
    have HQ := Lib.hid hQ
    have hQl : Q.length ≤ 300001 := by rw [hQ, List.length_append]; simp; omega
    clear hQ
    clear hE hP h8 hst0 hP0 ha
    go_wp2_with (first
      | (go_at_call 19; refine (hAr _).mono ?_; clear hAr; rintro e w' ⟨rfl, rfl⟩)
      | (go_at_call 20; refine hR1.mono ?_; clear hR1; rintro e w3 ⟨g1, rfl, hg1, hr13, hb3⟩)
      | (go_at_call 12; refine (hF _ hb3).mono ?_; clear hF; rintro e w4 ⟨A4, c4, rfl, hc4, hrow4, hb4⟩; have hr14 := rdr_below hr13 hb4)
      | (at_builtin; refine wpList_append_own _ rfl (.tmp 42) (.tmp 44) 24 rfl w3.heap.size 5 i0 (.int .u8 0) 1 1 Try.underlying24 hi hz0 hzz1 hzz2 rfl (by decide) _ P.length _ rfl (hrow4.alloc _) ⟨w4.heap.size, 0, none⟩ 1 1 [.int .u8 cc] rfl rfl (cell_one_new _ _ _) (by simp [Value.oneCell']) (by unfold maxLen; omega) (by omega) (by have := hb4.size; simp; omega) ?_; intro v5 w5 hown5 hgrow5 _; have hown5' : w5.ownsRow w3.heap.size 5 1 v5 Q.length (Q.map (Value.int .u8)) := (by rw [HQ.out, List.length_append, List.map_append]; exact hown5); obtain ⟨A5, c5, rfl⟩ := own_slice hown5'; have hzg1 := rdr_lt hr13; have hr15 := rdr_grown (rdr_grown hr14 (World.grownBy_alloc w4 _ none) (fun j ej => nomatch ej)) hgrow5 (fun j ej => by have := (hrow4.lt j ej).1; omega); have hB35 := Lib.hid ((hb4.alloc hb4.size _).grown hgrow5 (by have := hb4.size; simp; omega) (fun j ej => (hrow4.lt j ej).1)); clear hown5 hgrow5)
      | (go_at_call 20; refine (dRead_any A5 Q.length c5 Q w5 rfl (by omega) (own_cap hown5') (own_none hown5') (rd_own hown5')).mono ?_; rintro e w6 ⟨g2, rfl, hg2, hr26, hb6⟩; have hr16 := rdr_below hr15 hb6; have hz35 := hB35.out.size; have hgg : g2 ≠ g1 := (by omega); have hB26 := Lib.hid ((hb3.trans (hB35.out.mono hb3.size)).trans (hb6.mono (by have := hb3.size; omega))); clear hrow4 hown5' hr13 hr14 hr15))
    have hgl : w2.heap.size ≤ g1 := hg1
    have hgl2 : w2.heap.size ≤ g2 := by have := hb3.size; omega
    have hs16 : RdrAt w6 77 g1 (nrm (st 0)) := by rw [HST0.out, nrm_ok rfl]; exact hr16
    have hs26 : RdrAt w6 77 g2 ⟨encs (xs.drop 0) ++ [cc], 0⟩ := by rw [List.drop_zero, ← HP.out, ← HQ.out]; exact hr26
    have hrd2 := hrd1.below hb2
    clear hr16 hr26 hb3 hb6 hg1 hg2 hrow2
    go_loopw [12] (fun i wr => ∃ k : Nat, k ≤ xs.length ∧ i = .int .i64 k ∧ RdrAt wr 77 g1 (nrm (st k)) ∧ RdrAt wr 77 g2 ⟨encs (xs.drop k) ++ [cc], 0⟩ ∧ Below w2.heap.size w2 wr) (fun i _ => xs.length - (intOf i).toNat)
    case atStart => exact ⟨0, Nat.zero_le _, rfl, hs16, hs26, hB26.out⟩
    case round =>
      clear hs16 hs26 hB26
      obtain ⟨k, hk, rfl, hra, hrb, hW⟩ := hrel
      by_cases hlt : k < xs.length
      · have hlk : (k : Int) < (xs.length : Int) := by omega
        obtain ⟨b, o, rfl, hb, hcs⟩ : ∃ b o, A1 = some ⟨b, o, none⟩ ∧ b < w1.heap.size ∧ ∀ j x, xs[j]? = some x → ValAt w2 w1.heap.size b (o + j * 5) x := by
          rcases hrd2 with e | h
          · rw [e] at hlt; simp at hlt
          · exact h
        have hb2w : b < w2.heap.size := by omega
        obtain ⟨vb0, vl0, q0, _⟩ := hcs k xs[k] (List.getElem?_eq_getElem hlt)
        have p0 := (hW.cell (p := ⟨b, o + k * 5, none⟩) hb2w).trans q0
        have hnx := read_next hlt hxg [cc]
        have hs1 := hstS k hlt
        have hxk := (hxg xs[k] (List.getElem_mem hlt)).1.1
        have hdl : (encs (xs.drop k) ++ [cc]).length ≤ 300001 := by
          have h1 := encs_drop_len (xs := xs) k
          rw [← HP.out] at h1
          rw [List.length_append]; simp; omega
        have h8 : Bytes8 (encs (xs.drop k) ++ [cc]) := bytes8_snoc (encs_bytes (fun x hx => (hxg x (List.mem_of_mem_drop hx)).1)) hcc
        have hsb := hstB k
        obtain ⟨x, hx⟩ : ∃ x, x = xs[k] := ⟨_, rfl⟩
        rw [← hx] at p0 hnx hxk hs1
        have hC1 := lRead_any x.k g1 (st k) wr hra hsb.2 (by omega) hxk
        have hC2 := fun W (h : RdrAt W 77 g2 ⟨encs (xs.drop k) ++ [cc], 0⟩) => lRead_any x.k g2 ⟨encs (xs.drop k) ++ [cc], 0⟩ W (by rw [nrm_ok rfl]; exact h) h8 (by simp only; omega) hxk
        rw [hnx, nrm_ok rfl] at hC2
        rw [← hs1] at hC1
        generalize (readR x.k (st k)).1 = y1 at hC1
        obtain ⟨L2, hL2⟩ : ∃ L2, L2 = encs (xs.drop (k + 1)) ++ [cc] := ⟨_, rfl⟩
        rw [← hL2] at hC2
        have HL2 := Lib.hid hL2
        obtain ⟨s2, hs2⟩ : ∃ s2, s2 = nrm (st (k + 1)) := ⟨_, rfl⟩
        rw [← hs2] at hC1
        have HS2 := Lib.hid hs2
        obtain ⟨xk, xu, xn, xb, xl⟩ := x
        simp only at p0 hC1 hC2
        clear hcs hdl h8 hx hnx hs1 hsb hL2 hs2 q0
        go_wp2_with (first
          | (go_at_call 22; refine hC1.mono ?_; clear hC1; rintro e x1 ⟨vb, vl, rfl, _, _, hr1, hgr1⟩; have hrb1 := rdr_other hrb hra hgg hgr1; have hB1 := Lib.hid ((below_of_grown hgr1 (Nat.le_of_lt (rdr_lt hra))).mono hgl); have p1 := (hB1.out.cell (p := ⟨b, o + k * 5, none⟩) hb2w).trans p0)
          | (go_at_call 22; refine (hC2 _ hrb1).mono ?_; clear hC2; rintro e x2 ⟨vb2, vl2, rfl, _, _, hr2, hgr2⟩; have hra2 := rdr_other hr1 hrb1 (fun e => hgg e.symm) hgr2; have hB2' := Lib.hid ((below_of_grown hgr2 (Nat.le_of_lt (rdr_lt hrb1))).mono hgl2)))
        go_roundw
        case rel => exact ⟨k + 1, by omega, by go_num, by rw [← HS2.out]; exact hra2, by rw [← HL2.out]; exact hr2, (hW.trans hB1.out).trans hB2'.out⟩
        case measure => simp [intOf]; omega
      · obtain rfl : k = xs.length := by omega
        rw [List.drop_length] at hrb
        have hend2 : (nrm (st xs.length)).e = 3 := by rw [nrm_e]; exact hend
        have hsn := hstB xs.length
        have hE1 := fun W (h : RdrAt W 77 g1 (nrm (st xs.length))) => rEnd_any g1 (st xs.length) W h (by omega)
        rw [endR_err (by rw [hend]; decide), hend] at hE1
        have hE2 := rEnd_any g2 ⟨encs [] ++ [cc], 0⟩ wr (by rw [nrm_ok rfl]; exact hrb) (by simp [encs])
        have he2 : endR ⟨encs [] ++ [cc], 0⟩ = 2 := by simp [endR, encs]
        rw [he2] at hE2
        have hC := lRead_any (m : Int) g1 (st xs.length) wr hra hsn.2 (by omega) ⟨by omega, by omega⟩
        rw [readR_zero ⟨by omega, by omega⟩ (by rw [hend]; decide), readR_err (by rw [hend]; decide)] at hC
        have hWx := Lib.hid (hB2.out.trans (hW.mono (by omega)))
        have hzr : w2.heap.size ≤ wr.heap.size := hW.size
        have hSm := fun W vb vl h5 h6 => wSame_self ⟨(m : Int), 0, 0, [], []⟩ vb vl (.slice none 0 0) (.slice none 0 0) W (by simp) (by simp) h5 h6 (rds_nil W _ _) (rds_nil W _ _)
        generalize nrm (st xs.length) = s3 at hra hE1 hC
        simp only at hC hSm
        have hE3 := hE1
        clear hsn he2 hend hend2 hstS hstB hrb hrd1 hrd2 hxg
        go_wp2_with (first
          | (go_at_call 24; refine (hE1 _ hra).mono ?_; clear hE1; rintro e w' ⟨rfl, rfl⟩)
          | (go_at_call 24; refine hE2.mono ?_; clear hE2; rintro e w' ⟨rfl, rfl⟩)
          | (go_at_call 19; refine (hAm _).mono ?_; clear hAm; rintro e w' ⟨rfl, rfl⟩)
          | (go_at_call 22; refine hC.mono ?_; clear hC; rintro e x1 ⟨vb, vl, rfl, hs5, hs6, hr1, hgr1⟩; have hz1x : w2.heap.size ≤ x1.heap.size := Nat.le_trans hzr hgr1.size; obtain ⟨Ab, cb, rfl, _, hAb, hrb5⟩ := hs5; obtain ⟨Al, cl, rfl, _, hAl, hrl5⟩ := hs6; have hB1 := Lib.hid ((below_of_grown hgr1 (Nat.le_of_lt (rdr_lt hra))).mono hgl); have rb : RdS x1 x1.heap.size .u8 (.slice Ab 0 cb) [] := ⟨Ab, cb, rfl, Nat.zero_le _, hAb, .inl rfl⟩; have rl : RdS x1 x1.heap.size .i64 (.slice Al 0 cl) [] := ⟨Al, cl, rfl, Nat.zero_le _, hAl, .inl rfl⟩; have ra := fun o : Obj => (rb.below (new_below x1 o)).mono (new_below x1 o).size; have rla := fun o : Obj => (rl.below (new_below x1 o)).mono (new_below x1 o).size; have rr := fun o : Obj => rdr_below hr1 (new_below x1 o); clear rb rl hrb5 hrl5 hgr1)
          | (go_at_call 21; refine (hSm _ _ _ (ra _) (rla _)).mono ?_; clear hSm ra rla; rintro e x2 ⟨rfl, hb2x⟩; have hr2 := rdr_below (rr _) hb2x; have hB2x := Lib.hid ((new_below x1 _).trans (hb2x.mono (new_below x1 _).size)); have hz2x := hB2x.out.size)
          | (go_at_call 24; refine (hE3 _ hr2).mono ?_; clear hE3; rintro e w' ⟨rfl, rfl⟩)
          | (go_at_call 18; refine (livesW_any _).mono ?_; rintro e x3 ⟨rfl, hb3x⟩))
        go_ret
        exact ⟨rfl, ((hWx.out.trans (hB1.out.mono (by omega))).trans (hB2x.out.mono (by omega))).trans (hb3x.mono (by omega))⟩
end Go.Proofs.Ytebfgdonikedaaa
