/-
  THE WALK of the law on one encoding (P2.7).
-/
import Derived.Test.YtebfgdonikedaaaOneM
namespace Go.Proofs.Ytebfgdonikedaaa
open Go.RowKit

set_option maxRecDepth 100000 in
set_option maxHeartbeats 8000000 in
theorem one_any (A0 : Option Addr) (c0 : Nat) (zb : List Int) (A1 : Option Addr) (c1 : Nat) (zl : List Int) (pos cc : Int) (A3 : Option Addr) (c3 : Nat) (zk : List Int) (w : World)
    (hz0 : zb.length ≤ maxLen) (hc0 : zb.length ≤ c0) (hA0 : A0 = none → c0 = 0) (h80 : Bytes8 zb) (hr0 : RdI w w.heap.size .u8 A0 zb)
    (hz : zl.length ≤ maxLen) (h64 : ∀ z ∈ zl, I64 z) (hr : RdI w w.heap.size .i64 A1 zl) (hpos : I64 pos) (hcc : 0 ≤ cc ∧ cc < 256)
    (hz3 : zk.length ≤ maxLen) (hk64 : ∀ z ∈ zk, I64 z) (hr3 : RdI w w.heap.size .i64 A3 zk) :
    Calls Try.prog 6 #[.slice A0 zb.length c0, .slice A1 zl.length c1, .int .i64 pos, .int .u8 cc, .slice A3 zk.length c3] w (TruePost w) := by
  obtain ⟨i0, hi, hv0, hv1, hv2⟩ := info_parts info_val
  have hV := wVals_small A1 zl.length c1 zl w rfl hz h64 hr
  have cF : ∀ W, Below w.heap.size w W → Calls Try.prog 12 #[.slice A0 zb.length c0, .int .i64 60] W fun e w' => GivesRow W.heap.size W 5 .u8 (zb.take 60) e w' := fun W hW =>
    Few_any A0 zb.length c0 60 zb W rfl hz0 (by decide) hc0 hA0 ((hr0.below hW).mono hW.size)
  have hf8 : Bytes8 (zb.take 60) := fun z hz => h80 z (List.mem_of_mem_take hz)
  have hfl : (zb.take 60).length ≤ 60 := List.length_take_le _ _
  generalize zb.take 60 = fb at cF hf8 hfl
  unfold maxLen at hz hz0 hz3
  clear h64 hr h80 hr0 hA0
  go_enter Try.func6, Try.ntmps6
  go_wp2_with (go_at_call 11; refine hV.mono ?_; clear hV; rintro e w1 ⟨v, ts, rfl, htl, hrow, hgood, hsm, hb1⟩; obtain ⟨a1, d1, xs, rfl, hxl, hrd1, hxg⟩ := all_ofS hrow htl hgood hsm; clear hrow hgood htl hsm)
  refine (lEncode_any a1 xs.length d1 xs w1 rfl (by omega) (fun x h => (hxg x h).1) hrd1).mono ?_
  rintro e w2 ⟨A2, c2, rfl, hc2, hrow2, hb2⟩
  have hel : (encs xs).length ≤ 480 := Nat.le_trans (encs_small hxg) (by omega)
  have h8 := encs_bytes (fun x hx => (hxg x hx).1)
  have hkinds : ∀ x ∈ xs, 0 ≤ x.k ∧ x.k ≤ 5 := fun x hx => (hxg x hx).1.1
  have hz1 := hb1.size
  have hz2 := hb2.size
  have hB2 := Lib.hid (hb1.trans (hb2.mono hz1))
  have hrd2 := hrd1.below hb2
  generalize encs xs = P at hrow2 hc2 hel h8 ⊢
  have hro2 := rd_own hrow2
  have hn2 := own_none hrow2
  clear hrd1 hxg hb1 hb2
  by_cases hE : 0 < P.length
  · obtain ⟨a, ha, hAr⟩ := Around_nat pos P.length hpos (by omega) (by omega)
    obtain ⟨j2, hA2, hj2, hj2l, hfz⟩ := own_block hrow2 hE
    subst hA2
    obtain ⟨y, hyv, hy⟩ := rd_some hro2 ha
    have hfa := hfz a
    have b1 : decide ((0 : Int) < (P.length : Int)) = true := decide_eq_true (by omega)
    have b2 : decide (0 < P.length) = true := decide_eq_true hE
    have hap : (a : Int) < (P.length : Int) := by omega
    have hput := Lib.hid (rd_put hro2 ha cc)
    have hBs := Lib.hid (hB2.out.setCell (p := ⟨j2, a, none⟩) (by omega : w.heap.size ≤ j2) (.int .u8 cc))
    have hBv := Lib.hid ((Below.refl w1.heap.size w2).setCell (p := ⟨j2, a, none⟩) hj2 (.int .u8 cc))
    have h8s : Bytes8 (P.set a cc) := bytes8_set h8 a hcc
    clear hyv hfz hro2 hrow2 hE ha
    go_wp2_with (first
      | (go_at_call 19; refine (hAr _).mono ?_; clear hAr; rintro e w' ⟨rfl, rfl⟩)
      | fail)
    obtain ⟨T, hT⟩ : ∃ T, T = P.set a cc := ⟨_, rfl⟩
    have HTl := Lib.hid (show T.length = P.length by rw [hT, List.length_set])
    have hrT := hput.out
    rw [← hT] at hrT h8s
    have hB3 := hBs.out
    have hrd3 := hrd2.below hBv.out
    have hz3w : w1.heap.size ≤ (w2.setCell ⟨j2, a, none⟩ (.int .u8 cc)).heap.size := Nat.le_trans hz2 hBv.out.size
    clear hput hBs hBv hT hy hfa hrd2
    generalize w2.setCell ⟨j2, a, none⟩ (.int .u8 cc) = w3 at hrT hB3 hrd3 hz3w ⊢
    obtain ⟨A2, hA2⟩ : ∃ A2, A2 = some (⟨j2, 0, none⟩ : Addr) := ⟨_, rfl⟩
    rw [← hA2] at hrT hn2 ⊢
    clear hA2
    have hR := dRead_any A2 P.length c2 T w3 HTl.out.symm (by rw [HTl.out]; omega) (by rw [HTl.out]; exact hc2) hn2 hrT
    have hTl1 : T.length ≤ 480 := by rw [HTl.out]; exact hel
    refine hR.mono ?_
    rintro e w4 ⟨g1, rfl, hg1, hr1, hb4⟩
    have hz4 := hb4.size
    have hg1l := rdr_lt hr1
    have hG0 : Got w4 w4.heap.size g1 (.slice none 0 0) [] T := got_nil hr1
    have hB34 := Lib.hid hb4
    clear hR hr1 hb4
    go_wp2
    go_loopw [14, 15] (fun v i wr => ∃ k : Nat, k ≤ xs.length ∧ i = .int .i64 k ∧ Got wr w4.heap.size g1 v ((xs.take k).map Vl.k) T ∧ Below w3.heap.size w3 wr ∧ w4.heap.size ≤ wr.heap.size) (fun _ i _ => xs.length - (intOf i).toNat)
    case atStart => exact ⟨0, Nat.zero_le _, rfl, hG0, hB34.out, Nat.le_refl _⟩
    case round =>
      clear hG0
      obtain ⟨k, hk, rfl, hG, hW, hzr⟩ := hrel
      by_cases hlt : k < xs.length
      · obtain ⟨b, o, rfl, hb, hcs⟩ : ∃ b o, a1 = some ⟨b, o, none⟩ ∧ b < w1.heap.size ∧ ∀ j x, xs[j]? = some x → ValAt w3 w1.heap.size b (o + j * 5) x := by
          rcases hrd3 with e | h
          · rw [e] at hlt; simp at hlt
          · exact h
        obtain ⟨vb0, vl0, q0, _⟩ := hcs k xs[k] (List.getElem?_eq_getElem hlt)
        have p0 := (hW.cell (p := ⟨b, o + k * 5, none⟩) (show b < w3.heap.size by omega)).trans q0
        have hlk : (k : Int) < (xs.length : Int) := by omega
        have hxk := hkinds xs[k] (List.getElem_mem hlt)
        have hks : (xs.take (k + 1)).map Vl.k = (xs.take k).map Vl.k ++ [(xs[k]).k] := take_kinds hlt
        have hkl : ((xs.take k).map Vl.k).length = k := by rw [List.length_map, List.length_take]; omega
        generalize (xs[k]).k = q at p0 hxk hks
        generalize (xs.take k).map Vl.k = ks at hG hks hkl
        have HKS := Lib.hid hks
        have hbd := readsR_bd ks ⟨T, 0⟩ h8s
        have hC1 := lReadT_any q g1 (readsR ks ⟨T, 0⟩).2 wr (got_rdr hG) hbd.2 (Nat.le_trans hbd.1 (by simp only; omega)) hxk
        obtain ⟨ts1, hGA⟩ := hG
        have htl1 := hGA.1
        generalize hrr : readR q (readsR ks ⟨T, 0⟩).2 = r at hC1
        have HRR := Lib.hid hrr
        obtain ⟨x, s2⟩ := r
        obtain ⟨xk, xu, xn, xb, xl⟩ := x
        simp only at hC1
        have hg1r : g1 < wr.heap.size := by omega
        obtain ⟨wq, rfl⟩ : ∃ wq, wq = wr := ⟨_, rfl⟩
        have hts1 : ts1.length ≤ 15 := by omega
        clear hks hcs q0 hbd hrr hkl htl1
        go_wp2_with (first
          | (go_at_call 22; refine hC1.mono ?_; clear hC1; rintro e y1 ⟨vb, vl, rfl, ht5, ht6, hr1b, hg1b⟩; have hzy := hg1b.size; have hone1 := rdt_one ⟨⟨xk, xu, xn, xb, xl⟩, vb, vl⟩ ht5 ht6)
          | (at_builtin; refine wpList_append_own _ rfl (.tmp 42) (.tmp 50) 25 rfl w4.heap.size 28 i0 (.agg #[.int .i64 0, .int .u64 0, .int .i64 0, .slice none 0 0, .slice none 0 0]) 5 72 Try.underlying25 hi hv0 hv1 hv2 rfl (by decide) _ ts1.length _ rfl ((got_row hGA hg1l hg1b).alloc _) ⟨y1.heap.size, 0, none⟩ 1 1 ((⟨⟨xk, xu, xn, xb, xl⟩, vb, vl⟩ : Vt).cells) rfl rfl (World.news_of_block (cs := #[.int .i64 xk, .int .u64 xu, .int .i64 xn, vb, vl]) (t := 28) (fr := (0, 0)) (heap_alloc_new_at _ _ rfl)) hone1 (by unfold maxLen; omega) (by omega) (by simp; omega) ?_; intro v' y2 hown' hgrow _))
        go_roundw
        case rel =>
          refine ⟨k + 1, by omega, by go_num, ?_, ?_, ?_⟩
          · rw [HKS.out]; exact got_more hGA hg1l hxk HRR.out ht5 ht6 hr1b hg1b hgrow hown'
          · have hBy1 := (below_of_grown hg1b (Nat.le_of_lt hg1r)).mono (show w3.heap.size ≤ g1 from hg1)
            exact (hW.trans hBy1).trans (((Below.refl w3.heap.size y1).alloc (by omega) _).grown hgrow (by simp; omega) (fun j ej => by have := ((got_row hGA hg1l hg1b).lt j ej).1; omega))
          · have := hgrow.size; simp at this; omega
        case measure => simp [intOf]; omega
      · obtain rfl : k = xs.length := by omega
        rw [List.take_length] at hG
        have hkl : (xs.map Vl.k).length ≤ 10 := by rw [List.length_map]; omega
        generalize xs.map Vl.k = ks at hG hkl
        obtain ⟨Ag, cg, ys, rfl, hyl, hrdg, hyok, hback⟩ := got_all hG h8s (by omega) hkl
        have hra := got_rdr hG
        have hbd := readsR_bd ks ⟨T, 0⟩ h8s
        have hE := rEnd_any g1 (readsR ks ⟨T, 0⟩).2 wr hra (Nat.le_trans hbd.1 (by simp only; omega))
        have hWw := Lib.hid (hB3.trans (hW.mono hB3.size))
        have hzw := hWw.out.size
        obtain ⟨wz, rfl⟩ : ∃ wz, wz = wr := ⟨_, rfl⟩
        by_cases hend : endR (readsR ks ⟨T, 0⟩).2 = 0
        · have hT2 := hback hend
          rw [hend] at hE
          have hLE := lEncode_any Ag ys.length cg ys wz rfl hyl hyok hrdg
          rw [hT2] at hLE
          have cS : ∀ W A c, RdI W W.heap.size .u8 A T → Below w3.heap.size w3 W → Calls Try.prog 15 #[.slice A T.length c, .slice A2 P.length c2] W fun e w' => e = .returned (.bool true) ∧ Below W.heap.size W w' := fun W A c h hb => by
            have := SameBytes_self A A2 c c2 T W (by omega) h ((hrT.below hb).mono hb.size)
            rw [← HTl.out]
            exact this
          clear hend hT2 hback hra hbd hG hrdg hyok
          go_wp2_with (first
            | (go_at_call 24; refine hE.mono ?_; clear hE; rintro e w' ⟨rfl, rfl⟩)
            | (go_at_call 26; refine hLE.mono ?_; clear hLE; rintro e z1 ⟨az, cz, rfl, hcz, hrowz, hbz1⟩; have hBz1 := hW.trans (hbz1.mono hW.size))
            | (go_at_call 15; refine (cS _ _ _ (rd_own hrowz) hBz1).mono ?_; clear cS; rintro e z2 ⟨rfl, hbz2⟩; have hB5 := Lib.hid ((hWw.out.trans (hbz1.mono hzw)).trans (hbz2.mono (Nat.le_trans hzw hbz1.size))))
            | fail)
          clear hrowz hbz1 hbz2 hBz1
          obtain ⟨w5, hw5⟩ : ∃ w5, w5 = z2 := ⟨_, rfl⟩
          rw [← hw5] at hB5 ⊢
          clear hw5
          have hzw5 := hB5.out.size
          clear hrd3 hkinds hrT hn2 hW
          refine (cF _ hB5.out).mono ?_
          rintro e u1 ⟨a5, d5, rfl, hd5, hrow5, hbu⟩
          have hR := dRead_any a5 fb.length d5 fb u1 rfl (by omega) hd5 (own_none hrow5) (rd_own hrow5)
          have hBu1 := Lib.hid (hB5.out.trans (hbu.mono hzw5))
          have hzu1 := hBu1.out.size
          have hfT := rd_own hrow5
          clear cF hbu hrow5
          go_wp2_with (first
            | (go_at_call 20; refine hR.mono ?_; clear hR; rintro e u2 ⟨g2, rfl, hg2, hr2, hbu2⟩)
            | fail)
          have hg2l := rdr_lt hr2
          have hzu2 := hbu2.size
          have hG0 : Got u2 u2.heap.size g2 (.slice none 0 0) [] fb := got_nil hr2
          have hBu2 := Lib.hid hbu2
          clear hr2 hbu2
          go_loopw [14, 17] (fun v i wr => ∃ (k : Nat) (ks : List Int), k ≤ 10 ∧ i = .int .i64 k ∧ Hid (ks.length = k) ∧ Got wr u2.heap.size g2 v ks fb ∧ Below u1.heap.size u1 wr ∧ u2.heap.size ≤ wr.heap.size) (fun _ i _ => 10 - (intOf i).toNat)
          case atStart => exact ⟨0, [], Nat.zero_le _, rfl, Lib.hid rfl, hG0, hBu2.out, Nat.le_refl _⟩
          case round =>
            clear hG0 hBu2
            obtain ⟨k, ks, hk10, rfl, hkl, hG, hW, hzr⟩ := hrel
            have hra := got_rdr hG
            have hbd := readsR_bd ks ⟨fb, 0⟩ hf8
            have hE := rEnd_any g2 (readsR ks ⟨fb, 0⟩).2 wr hra (Nat.le_trans hbd.1 (by simp only; omega))
            have hWw := Lib.hid (hBu1.out.trans (hW.mono hzu1))
            have hzw := hWw.out.size
            obtain ⟨wv, rfl⟩ : ∃ wv, wv = wr := ⟨_, rfl⟩
            by_cases hend : endR (readsR ks ⟨fb, 0⟩).2 = 0
            · obtain ⟨Ag, cg, ys, rfl, hyl, hrdg, hyok, hback⟩ := got_all hG hf8 (by omega) (by rw [hkl.out]; exact hk10)
              have hT2 := hback hend
              rw [hend] at hE
              have hE2 := hE
              have hLE := lEncode_any Ag ys.length cg ys wv rfl hyl hyok hrdg
              rw [hT2] at hLE
              have cS : ∀ W A c, RdI W W.heap.size .u8 A fb → Below u1.heap.size u1 W → Calls Try.prog 15 #[.slice A fb.length c, .slice a5 fb.length d5] W fun e w' => e = .returned (.bool true) ∧ Below W.heap.size W w' := fun W A c h hb =>
                SameBytes_self A a5 c d5 fb W (by omega) h ((hfT.below hb).mono hb.size)
              clear hend hT2 hback hra hbd hG hrdg hyok hr3
              by_cases hkl1 : k < zk.length
              · have c1 : decide ((k : Int) < (zk.length : Int)) = true := decide_eq_true (by omega)
                have c2' : decide (k < zk.length) = true := decide_eq_true hkl1
                by_cases hk9 : k < 10
                · have c3' : decide ((k : Int) < 10) = true := decide_eq_true (by omega)
                  go_wp2_with (first
                    | (go_at_call 24; refine hE.mono ?_; clear hE; rintro e w' ⟨rfl, rfl⟩)
                    | (go_at_call 24; refine hE2.mono ?_; clear hE2; rintro e w' ⟨rfl, rfl⟩)
                    | (go_at_call 26; refine hLE.mono ?_; clear hLE; rintro e z1 ⟨az, cz, rfl, hcz, hrowz, hbz1⟩; have hBz1 := hW.trans (hbz1.mono hW.size))
                    | (go_at_call 15; refine (cS _ _ _ (rd_own hrowz) hBz1).mono ?_; clear cS; rintro e z2 ⟨rfl, hbz2⟩)
                    | (go_at_call 18; refine (livesW_any _).mono ?_; rintro e z3 ⟨rfl, hbz3⟩))
                  go_ret
                  exact ⟨rfl, ((hWw.out.trans (hbz1.mono hzw)).trans (hbz2.mono (Nat.le_trans hzw hbz1.size))).trans (hbz3.mono (Nat.le_trans (Nat.le_trans hzw hbz1.size) hbz2.size))⟩
                · have c3' : decide ((k : Int) < 10) = false := decide_eq_false (by omega)
                  go_wp2_with (first
                    | (go_at_call 24; refine hE.mono ?_; clear hE; rintro e w' ⟨rfl, rfl⟩)
                    | (go_at_call 24; refine hE2.mono ?_; clear hE2; rintro e w' ⟨rfl, rfl⟩)
                    | (go_at_call 26; refine hLE.mono ?_; clear hLE; rintro e z1 ⟨az, cz, rfl, hcz, hrowz, hbz1⟩; have hBz1 := hW.trans (hbz1.mono hW.size))
                    | (go_at_call 15; refine (cS _ _ _ (rd_own hrowz) hBz1).mono ?_; clear cS; rintro e z2 ⟨rfl, hbz2⟩)
                    | (go_at_call 18; refine (livesW_any _).mono ?_; rintro e z3 ⟨rfl, hbz3⟩))
                  go_ret
                  exact ⟨rfl, ((hWw.out.trans (hbz1.mono hzw)).trans (hbz2.mono (Nat.le_trans hzw hbz1.size))).trans (hbz3.mono (Nat.le_trans (Nat.le_trans hzw hbz1.size) hbz2.size))⟩
              · have c1 : decide ((k : Int) < (zk.length : Int)) = false := decide_eq_false (by omega)
                have c2' : decide (k < zk.length) = false := decide_eq_false hkl1
                go_wp2_with (first
                  | (go_at_call 24; refine hE.mono ?_; clear hE; rintro e w' ⟨rfl, rfl⟩)
                  | (go_at_call 24; refine hE2.mono ?_; clear hE2; rintro e w' ⟨rfl, rfl⟩)
                  | (go_at_call 26; refine hLE.mono ?_; clear hLE; rintro e z1 ⟨az, cz, rfl, hcz, hrowz, hbz1⟩; have hBz1 := hW.trans (hbz1.mono hW.size))
                  | (go_at_call 15; refine (cS _ _ _ (rd_own hrowz) hBz1).mono ?_; clear cS; rintro e z2 ⟨rfl, hbz2⟩)
                  | (go_at_call 18; refine (livesW_any _).mono ?_; rintro e z3 ⟨rfl, hbz3⟩))
                go_ret
                exact ⟨rfl, ((hWw.out.trans (hbz1.mono hzw)).trans (hbz2.mono (Nat.le_trans hzw hbz1.size))).trans (hbz3.mono (Nat.le_trans (Nat.le_trans hzw hbz1.size) hbz2.size))⟩
            · have b1 : (endR (readsR ks ⟨fb, 0⟩).2 == 0) = false := by simpa using hend
              have b1' : (endR (readsR ks ⟨fb, 0⟩).2 != 0) = true := by simpa using hend
              by_cases hkl1 : k < zk.length
              · have c1 : decide ((k : Int) < (zk.length : Int)) = true := decide_eq_true (by omega)
                have c2' : decide (k < zk.length) = true := decide_eq_true hkl1
                by_cases hk9 : k < 10
                · have c3' : decide ((k : Int) < 10) = true := decide_eq_true (by omega)
                  obtain ⟨b, o, rfl, hb, hck0⟩ := hr3.at_ hkl1
                  have hck := (hWw.out.cell (p := ⟨b, o + k, none⟩) hb).trans hck0
                  have hki : I64 (zk[k]?.getD 0) := by rw [List.getElem?_eq_getElem hkl1]; exact hk64 _ (List.getElem_mem hkl1)
                  obtain ⟨q, hq6, hAq⟩ := Around_nat _ 6 hki (by decide) (by decide)
                  generalize zk[k]?.getD 0 = zz0 at hck hAq
                  have hC1 := lReadT_any (q : Int) g2 (readsR ks ⟨fb, 0⟩).2 wv hra hbd.2 (Nat.le_trans hbd.1 (by simp only; omega)) ⟨by omega, by omega⟩
                  obtain ⟨ts1, hGA⟩ := hG
                  have hts1 : ts1.length ≤ 15 := by have := hGA.1; have := hkl.out; omega
                  generalize hrr : readR (q : Int) (readsR ks ⟨fb, 0⟩).2 = r at hC1
                  have HRR := Lib.hid hrr
                  obtain ⟨x, s2⟩ := r
                  obtain ⟨xk, xu, xn, xb, xl⟩ := x
                  simp only at hC1
                  have hg1r : g2 < wv.heap.size := by omega
                  have hqq : (0 : Int) ≤ (q : Int) ∧ (q : Int) ≤ 5 := ⟨by omega, by omega⟩
                  generalize endR (readsR ks ⟨fb, 0⟩).2 = E at hE b1 b1' hend
                  clear hck0 hki hbd hrr hra hend
                  go_wp2_with (first
                    | (go_at_call 24; refine hE.mono ?_; clear hE; rintro e w' ⟨rfl, rfl⟩)
                    | (go_at_call 19; refine (hAq _).mono ?_; clear hAq; rintro e w' ⟨rfl, rfl⟩)
                    | (go_at_call 22; refine hC1.mono ?_; clear hC1; rintro e y1 ⟨vb, vl, rfl, ht5, ht6, hr1b, hg1b⟩; have hzy := hg1b.size; have hone1 := rdt_one ⟨⟨xk, xu, xn, xb, xl⟩, vb, vl⟩ ht5 ht6)
                    | (at_builtin; refine wpList_append_own _ rfl (.tmp 83) (.tmp 91) 25 rfl u2.heap.size 28 i0 (.agg #[.int .i64 0, .int .u64 0, .int .i64 0, .slice none 0 0, .slice none 0 0]) 5 72 Try.underlying25 hi hv0 hv1 hv2 rfl (by decide) _ ts1.length _ rfl ((got_row hGA hg2l hg1b).alloc _) ⟨y1.heap.size, 0, none⟩ 1 1 ((⟨⟨xk, xu, xn, xb, xl⟩, vb, vl⟩ : Vt).cells) rfl rfl (World.news_of_block (cs := #[.int .i64 xk, .int .u64 xu, .int .i64 xn, vb, vl]) (t := 28) (fr := (0, 0)) (heap_alloc_new_at _ _ rfl)) hone1 (by unfold maxLen; omega) (by omega) (by simp; omega) ?_; intro v' y2 hown' hgrow _))
                  go_roundw
                  case rel =>
                    refine ⟨k + 1, ks ++ [(q : Int)], by omega, by go_num, Lib.hid (by rw [List.length_append, hkl.out]; rfl), got_more hGA hg2l hqq HRR.out ht5 ht6 hr1b hg1b hgrow hown', ?_, ?_⟩
                    · have hBy1 := (below_of_grown hg1b (Nat.le_of_lt hg1r)).mono (show u1.heap.size ≤ g2 from hg2)
                      exact (hW.trans hBy1).trans (((Below.refl u1.heap.size y1).alloc (by omega) _).grown hgrow (by simp; omega) (fun j ej => by have := ((got_row hGA hg2l hg1b).lt j ej).1; omega))
                    · have := hgrow.size; simp at this; omega
                  case measure => simp [intOf]; omega
                · have c3' : decide ((k : Int) < 10) = false := decide_eq_false (by omega)
                  generalize endR (readsR ks ⟨fb, 0⟩).2 = E at hE b1 b1' hend
                  clear hend hra hbd hG hr3
                  go_wp2_with (first
                    | (go_at_call 24; refine hE.mono ?_; clear hE; rintro e w' ⟨rfl, rfl⟩)
                    | (go_at_call 18; refine (livesW_any _).mono ?_; rintro e z3 ⟨rfl, hbz3⟩))
                  go_ret
                  exact ⟨rfl, hWw.out.trans (hbz3.mono hzw)⟩
              · have c1 : decide ((k : Int) < (zk.length : Int)) = false := decide_eq_false (by omega)
                have c2' : decide (k < zk.length) = false := decide_eq_false hkl1
                generalize endR (readsR ks ⟨fb, 0⟩).2 = E at hE b1 b1' hend
                clear hend hra hbd hG hr3
                go_wp2_with (first
                  | (go_at_call 24; refine hE.mono ?_; clear hE; rintro e w' ⟨rfl, rfl⟩)
                  | (go_at_call 18; refine (livesW_any _).mono ?_; rintro e z3 ⟨rfl, hbz3⟩))
                go_ret
                exact ⟨rfl, hWw.out.trans (hbz3.mono hzw)⟩
        · have b1 : (endR (readsR ks ⟨T, 0⟩).2 == 0) = false := by simpa using hend
          generalize endR (readsR ks ⟨T, 0⟩).2 = E at hE b1 hend
          clear hend hback hra hbd hG hrdg hyok
          go_wp2_with (first
            | (go_at_call 24; refine hE.mono ?_; clear hE; rintro e w' ⟨rfl, rfl⟩)
            | fail)
          have hB5 := hWw
          obtain ⟨w5, hw5⟩ : ∃ w5, w5 = wz := ⟨_, rfl⟩
          rw [← hw5] at hB5 ⊢
          clear hw5
          have hzw5 := hB5.out.size
          clear hrd3 hkinds hrT hn2 hW
          refine (cF _ hB5.out).mono ?_
          rintro e u1 ⟨a5, d5, rfl, hd5, hrow5, hbu⟩
          have hR := dRead_any a5 fb.length d5 fb u1 rfl (by omega) hd5 (own_none hrow5) (rd_own hrow5)
          have hBu1 := Lib.hid (hB5.out.trans (hbu.mono hzw5))
          have hzu1 := hBu1.out.size
          have hfT := rd_own hrow5
          clear cF hbu hrow5
          go_wp2_with (first
            | (go_at_call 20; refine hR.mono ?_; clear hR; rintro e u2 ⟨g2, rfl, hg2, hr2, hbu2⟩)
            | fail)
          have hg2l := rdr_lt hr2
          have hzu2 := hbu2.size
          have hG0 : Got u2 u2.heap.size g2 (.slice none 0 0) [] fb := got_nil hr2
          have hBu2 := Lib.hid hbu2
          clear hr2 hbu2
          go_loopw [14, 17] (fun v i wr => ∃ (k : Nat) (ks : List Int), k ≤ 10 ∧ i = .int .i64 k ∧ Hid (ks.length = k) ∧ Got wr u2.heap.size g2 v ks fb ∧ Below u1.heap.size u1 wr ∧ u2.heap.size ≤ wr.heap.size) (fun _ i _ => 10 - (intOf i).toNat)
          case atStart => exact ⟨0, [], Nat.zero_le _, rfl, Lib.hid rfl, hG0, hBu2.out, Nat.le_refl _⟩
          case round =>
            clear hG0 hBu2
            obtain ⟨k, ks, hk10, rfl, hkl, hG, hW, hzr⟩ := hrel
            have hra := got_rdr hG
            have hbd := readsR_bd ks ⟨fb, 0⟩ hf8
            have hE := rEnd_any g2 (readsR ks ⟨fb, 0⟩).2 wr hra (Nat.le_trans hbd.1 (by simp only; omega))
            have hWw := Lib.hid (hBu1.out.trans (hW.mono hzu1))
            have hzw := hWw.out.size
            obtain ⟨wv, rfl⟩ : ∃ wv, wv = wr := ⟨_, rfl⟩
            by_cases hend : endR (readsR ks ⟨fb, 0⟩).2 = 0
            · obtain ⟨Ag, cg, ys, rfl, hyl, hrdg, hyok, hback⟩ := got_all hG hf8 (by omega) (by rw [hkl.out]; exact hk10)
              have hT2 := hback hend
              rw [hend] at hE
              have hE2 := hE
              have hLE := lEncode_any Ag ys.length cg ys wv rfl hyl hyok hrdg
              rw [hT2] at hLE
              have cS : ∀ W A c, RdI W W.heap.size .u8 A fb → Below u1.heap.size u1 W → Calls Try.prog 15 #[.slice A fb.length c, .slice a5 fb.length d5] W fun e w' => e = .returned (.bool true) ∧ Below W.heap.size W w' := fun W A c h hb =>
                SameBytes_self A a5 c d5 fb W (by omega) h ((hfT.below hb).mono hb.size)
              clear hend hT2 hback hra hbd hG hrdg hyok hr3
              by_cases hkl1 : k < zk.length
              · have c1 : decide ((k : Int) < (zk.length : Int)) = true := decide_eq_true (by omega)
                have c2' : decide (k < zk.length) = true := decide_eq_true hkl1
                by_cases hk9 : k < 10
                · have c3' : decide ((k : Int) < 10) = true := decide_eq_true (by omega)
                  go_wp2_with (first
                    | (go_at_call 24; refine hE.mono ?_; clear hE; rintro e w' ⟨rfl, rfl⟩)
                    | (go_at_call 24; refine hE2.mono ?_; clear hE2; rintro e w' ⟨rfl, rfl⟩)
                    | (go_at_call 26; refine hLE.mono ?_; clear hLE; rintro e z1 ⟨az, cz, rfl, hcz, hrowz, hbz1⟩; have hBz1 := hW.trans (hbz1.mono hW.size))
                    | (go_at_call 15; refine (cS _ _ _ (rd_own hrowz) hBz1).mono ?_; clear cS; rintro e z2 ⟨rfl, hbz2⟩)
                    | (go_at_call 18; refine (livesW_any _).mono ?_; rintro e z3 ⟨rfl, hbz3⟩))
                  go_ret
                  exact ⟨rfl, ((hWw.out.trans (hbz1.mono hzw)).trans (hbz2.mono (Nat.le_trans hzw hbz1.size))).trans (hbz3.mono (Nat.le_trans (Nat.le_trans hzw hbz1.size) hbz2.size))⟩
                · have c3' : decide ((k : Int) < 10) = false := decide_eq_false (by omega)
                  go_wp2_with (first
                    | (go_at_call 24; refine hE.mono ?_; clear hE; rintro e w' ⟨rfl, rfl⟩)
                    | (go_at_call 24; refine hE2.mono ?_; clear hE2; rintro e w' ⟨rfl, rfl⟩)
                    | (go_at_call 26; refine hLE.mono ?_; clear hLE; rintro e z1 ⟨az, cz, rfl, hcz, hrowz, hbz1⟩; have hBz1 := hW.trans (hbz1.mono hW.size))
                    | (go_at_call 15; refine (cS _ _ _ (rd_own hrowz) hBz1).mono ?_; clear cS; rintro e z2 ⟨rfl, hbz2⟩)
                    | (go_at_call 18; refine (livesW_any _).mono ?_; rintro e z3 ⟨rfl, hbz3⟩))
                  go_ret
                  exact ⟨rfl, ((hWw.out.trans (hbz1.mono hzw)).trans (hbz2.mono (Nat.le_trans hzw hbz1.size))).trans (hbz3.mono (Nat.le_trans (Nat.le_trans hzw hbz1.size) hbz2.size))⟩
              · have c1 : decide ((k : Int) < (zk.length : Int)) = false := decide_eq_false (by omega)
                have c2' : decide (k < zk.length) = false := decide_eq_false hkl1
                go_wp2_with (first
                  | (go_at_call 24; refine hE.mono ?_; clear hE; rintro e w' ⟨rfl, rfl⟩)
                  | (go_at_call 24; refine hE2.mono ?_; clear hE2; rintro e w' ⟨rfl, rfl⟩)
                  | (go_at_call 26; refine hLE.mono ?_; clear hLE; rintro e z1 ⟨az, cz, rfl, hcz, hrowz, hbz1⟩; have hBz1 := hW.trans (hbz1.mono hW.size))
                  | (go_at_call 15; refine (cS _ _ _ (rd_own hrowz) hBz1).mono ?_; clear cS; rintro e z2 ⟨rfl, hbz2⟩)
                  | (go_at_call 18; refine (livesW_any _).mono ?_; rintro e z3 ⟨rfl, hbz3⟩))
                go_ret
                exact ⟨rfl, ((hWw.out.trans (hbz1.mono hzw)).trans (hbz2.mono (Nat.le_trans hzw hbz1.size))).trans (hbz3.mono (Nat.le_trans (Nat.le_trans hzw hbz1.size) hbz2.size))⟩
            · have b1 : (endR (readsR ks ⟨fb, 0⟩).2 == 0) = false := by simpa using hend
              have b1' : (endR (readsR ks ⟨fb, 0⟩).2 != 0) = true := by simpa using hend
              by_cases hkl1 : k < zk.length
              · have c1 : decide ((k : Int) < (zk.length : Int)) = true := decide_eq_true (by omega)
                have c2' : decide (k < zk.length) = true := decide_eq_true hkl1
                by_cases hk9 : k < 10
                · have c3' : decide ((k : Int) < 10) = true := decide_eq_true (by omega)
                  obtain ⟨b, o, rfl, hb, hck0⟩ := hr3.at_ hkl1
                  have hck := (hWw.out.cell (p := ⟨b, o + k, none⟩) hb).trans hck0
                  have hki : I64 (zk[k]?.getD 0) := by rw [List.getElem?_eq_getElem hkl1]; exact hk64 _ (List.getElem_mem hkl1)
                  obtain ⟨q, hq6, hAq⟩ := Around_nat _ 6 hki (by decide) (by decide)
                  generalize zk[k]?.getD 0 = zz0 at hck hAq
                  have hC1 := lReadT_any (q : Int) g2 (readsR ks ⟨fb, 0⟩).2 wv hra hbd.2 (Nat.le_trans hbd.1 (by simp only; omega)) ⟨by omega, by omega⟩
                  obtain ⟨ts1, hGA⟩ := hG
                  have hts1 : ts1.length ≤ 15 := by have := hGA.1; have := hkl.out; omega
                  generalize hrr : readR (q : Int) (readsR ks ⟨fb, 0⟩).2 = r at hC1
                  have HRR := Lib.hid hrr
                  obtain ⟨x, s2⟩ := r
                  obtain ⟨xk, xu, xn, xb, xl⟩ := x
                  simp only at hC1
                  have hg1r : g2 < wv.heap.size := by omega
                  have hqq : (0 : Int) ≤ (q : Int) ∧ (q : Int) ≤ 5 := ⟨by omega, by omega⟩
                  generalize endR (readsR ks ⟨fb, 0⟩).2 = E at hE b1 b1' hend
                  clear hck0 hki hbd hrr hra hend
                  go_wp2_with (first
                    | (go_at_call 24; refine hE.mono ?_; clear hE; rintro e w' ⟨rfl, rfl⟩)
                    | (go_at_call 19; refine (hAq _).mono ?_; clear hAq; rintro e w' ⟨rfl, rfl⟩)
                    | (go_at_call 22; refine hC1.mono ?_; clear hC1; rintro e y1 ⟨vb, vl, rfl, ht5, ht6, hr1b, hg1b⟩; have hzy := hg1b.size; have hone1 := rdt_one ⟨⟨xk, xu, xn, xb, xl⟩, vb, vl⟩ ht5 ht6)
                    | (at_builtin; refine wpList_append_own _ rfl (.tmp 83) (.tmp 91) 25 rfl u2.heap.size 28 i0 (.agg #[.int .i64 0, .int .u64 0, .int .i64 0, .slice none 0 0, .slice none 0 0]) 5 72 Try.underlying25 hi hv0 hv1 hv2 rfl (by decide) _ ts1.length _ rfl ((got_row hGA hg2l hg1b).alloc _) ⟨y1.heap.size, 0, none⟩ 1 1 ((⟨⟨xk, xu, xn, xb, xl⟩, vb, vl⟩ : Vt).cells) rfl rfl (World.news_of_block (cs := #[.int .i64 xk, .int .u64 xu, .int .i64 xn, vb, vl]) (t := 28) (fr := (0, 0)) (heap_alloc_new_at _ _ rfl)) hone1 (by unfold maxLen; omega) (by omega) (by simp; omega) ?_; intro v' y2 hown' hgrow _))
                  go_roundw
                  case rel =>
                    refine ⟨k + 1, ks ++ [(q : Int)], by omega, by go_num, Lib.hid (by rw [List.length_append, hkl.out]; rfl), got_more hGA hg2l hqq HRR.out ht5 ht6 hr1b hg1b hgrow hown', ?_, ?_⟩
                    · have hBy1 := (below_of_grown hg1b (Nat.le_of_lt hg1r)).mono (show u1.heap.size ≤ g2 from hg2)
                      exact (hW.trans hBy1).trans (((Below.refl u1.heap.size y1).alloc (by omega) _).grown hgrow (by simp; omega) (fun j ej => by have := ((got_row hGA hg2l hg1b).lt j ej).1; omega))
                    · have := hgrow.size; simp at this; omega
                  case measure => simp [intOf]; omega
                · have c3' : decide ((k : Int) < 10) = false := decide_eq_false (by omega)
                  generalize endR (readsR ks ⟨fb, 0⟩).2 = E at hE b1 b1' hend
                  clear hend hra hbd hG hr3
                  go_wp2_with (first
                    | (go_at_call 24; refine hE.mono ?_; clear hE; rintro e w' ⟨rfl, rfl⟩)
                    | (go_at_call 18; refine (livesW_any _).mono ?_; rintro e z3 ⟨rfl, hbz3⟩))
                  go_ret
                  exact ⟨rfl, hWw.out.trans (hbz3.mono hzw)⟩
              · have c1 : decide ((k : Int) < (zk.length : Int)) = false := decide_eq_false (by omega)
                have c2' : decide (k < zk.length) = false := decide_eq_false hkl1
                generalize endR (readsR ks ⟨fb, 0⟩).2 = E at hE b1 b1' hend
                clear hend hra hbd hG hr3
                go_wp2_with (first
                  | (go_at_call 24; refine hE.mono ?_; clear hE; rintro e w' ⟨rfl, rfl⟩)
                  | (go_at_call 18; refine (livesW_any _).mono ?_; rintro e z3 ⟨rfl, hbz3⟩))
                go_ret
                exact ⟨rfl, hWw.out.trans (hbz3.mono hzw)⟩
  · have b1 : decide ((0 : Int) < (P.length : Int)) = false := decide_eq_false (by omega)
    have b2 : decide (0 < P.length) = false := decide_eq_false hE
    go_wp2_with fail
    have hrT := hro2
    have h8s := h8
    have hB3 := hB2.out
    obtain ⟨T, hT⟩ : ∃ T, T = P := ⟨_, rfl⟩
    rw [← hT] at hrT h8s
    have HTl := Lib.hid (show T.length = P.length by rw [hT])
    clear hT hro2 hrow2
    obtain ⟨w3, hw3⟩ : ∃ w3, w3 = w2 := ⟨_, rfl⟩
    have hrd3 := hrd2
    have hz3w := hz2
    rw [← hw3] at hrT hB3 hrd3 hz3w ⊢
    clear hw3 hrd2
    have hR := dRead_any A2 P.length c2 T w3 HTl.out.symm (by rw [HTl.out]; omega) (by rw [HTl.out]; exact hc2) hn2 hrT
    have hTl1 : T.length ≤ 480 := by rw [HTl.out]; exact hel
    refine hR.mono ?_
    rintro e w4 ⟨g1, rfl, hg1, hr1, hb4⟩
    have hz4 := hb4.size
    have hg1l := rdr_lt hr1
    have hG0 : Got w4 w4.heap.size g1 (.slice none 0 0) [] T := got_nil hr1
    have hB34 := Lib.hid hb4
    clear hR hr1 hb4
    go_wp2
    go_loopw [14, 15] (fun v i wr => ∃ k : Nat, k ≤ xs.length ∧ i = .int .i64 k ∧ Got wr w4.heap.size g1 v ((xs.take k).map Vl.k) T ∧ Below w3.heap.size w3 wr ∧ w4.heap.size ≤ wr.heap.size) (fun _ i _ => xs.length - (intOf i).toNat)
    case atStart => exact ⟨0, Nat.zero_le _, rfl, hG0, hB34.out, Nat.le_refl _⟩
    case round =>
      clear hG0
      obtain ⟨k, hk, rfl, hG, hW, hzr⟩ := hrel
      by_cases hlt : k < xs.length
      · obtain ⟨b, o, rfl, hb, hcs⟩ : ∃ b o, a1 = some ⟨b, o, none⟩ ∧ b < w1.heap.size ∧ ∀ j x, xs[j]? = some x → ValAt w3 w1.heap.size b (o + j * 5) x := by
          rcases hrd3 with e | h
          · rw [e] at hlt; simp at hlt
          · exact h
        obtain ⟨vb0, vl0, q0, _⟩ := hcs k xs[k] (List.getElem?_eq_getElem hlt)
        have p0 := (hW.cell (p := ⟨b, o + k * 5, none⟩) (show b < w3.heap.size by omega)).trans q0
        have hlk : (k : Int) < (xs.length : Int) := by omega
        have hxk := hkinds xs[k] (List.getElem_mem hlt)
        have hks : (xs.take (k + 1)).map Vl.k = (xs.take k).map Vl.k ++ [(xs[k]).k] := take_kinds hlt
        have hkl : ((xs.take k).map Vl.k).length = k := by rw [List.length_map, List.length_take]; omega
        generalize (xs[k]).k = q at p0 hxk hks
        generalize (xs.take k).map Vl.k = ks at hG hks hkl
        have HKS := Lib.hid hks
        have hbd := readsR_bd ks ⟨T, 0⟩ h8s
        have hC1 := lReadT_any q g1 (readsR ks ⟨T, 0⟩).2 wr (got_rdr hG) hbd.2 (Nat.le_trans hbd.1 (by simp only; omega)) hxk
        obtain ⟨ts1, hGA⟩ := hG
        have htl1 := hGA.1
        generalize hrr : readR q (readsR ks ⟨T, 0⟩).2 = r at hC1
        have HRR := Lib.hid hrr
        obtain ⟨x, s2⟩ := r
        obtain ⟨xk, xu, xn, xb, xl⟩ := x
        simp only at hC1
        have hg1r : g1 < wr.heap.size := by omega
        obtain ⟨wq, rfl⟩ : ∃ wq, wq = wr := ⟨_, rfl⟩
        have hts1 : ts1.length ≤ 15 := by omega
        clear hks hcs q0 hbd hrr hkl htl1
        go_wp2_with (first
          | (go_at_call 22; refine hC1.mono ?_; clear hC1; rintro e y1 ⟨vb, vl, rfl, ht5, ht6, hr1b, hg1b⟩; have hzy := hg1b.size; have hone1 := rdt_one ⟨⟨xk, xu, xn, xb, xl⟩, vb, vl⟩ ht5 ht6)
          | (at_builtin; refine wpList_append_own _ rfl (.tmp 42) (.tmp 50) 25 rfl w4.heap.size 28 i0 (.agg #[.int .i64 0, .int .u64 0, .int .i64 0, .slice none 0 0, .slice none 0 0]) 5 72 Try.underlying25 hi hv0 hv1 hv2 rfl (by decide) _ ts1.length _ rfl ((got_row hGA hg1l hg1b).alloc _) ⟨y1.heap.size, 0, none⟩ 1 1 ((⟨⟨xk, xu, xn, xb, xl⟩, vb, vl⟩ : Vt).cells) rfl rfl (World.news_of_block (cs := #[.int .i64 xk, .int .u64 xu, .int .i64 xn, vb, vl]) (t := 28) (fr := (0, 0)) (heap_alloc_new_at _ _ rfl)) hone1 (by unfold maxLen; omega) (by omega) (by simp; omega) ?_; intro v' y2 hown' hgrow _))
        go_roundw
        case rel =>
          refine ⟨k + 1, by omega, by go_num, ?_, ?_, ?_⟩
          · rw [HKS.out]; exact got_more hGA hg1l hxk HRR.out ht5 ht6 hr1b hg1b hgrow hown'
          · have hBy1 := (below_of_grown hg1b (Nat.le_of_lt hg1r)).mono (show w3.heap.size ≤ g1 from hg1)
            exact (hW.trans hBy1).trans (((Below.refl w3.heap.size y1).alloc (by omega) _).grown hgrow (by simp; omega) (fun j ej => by have := ((got_row hGA hg1l hg1b).lt j ej).1; omega))
          · have := hgrow.size; simp at this; omega
        case measure => simp [intOf]; omega
      · obtain rfl : k = xs.length := by omega
        rw [List.take_length] at hG
        have hkl : (xs.map Vl.k).length ≤ 10 := by rw [List.length_map]; omega
        generalize xs.map Vl.k = ks at hG hkl
        obtain ⟨Ag, cg, ys, rfl, hyl, hrdg, hyok, hback⟩ := got_all hG h8s (by omega) hkl
        have hra := got_rdr hG
        have hbd := readsR_bd ks ⟨T, 0⟩ h8s
        have hE := rEnd_any g1 (readsR ks ⟨T, 0⟩).2 wr hra (Nat.le_trans hbd.1 (by simp only; omega))
        have hWw := Lib.hid (hB3.trans (hW.mono hB3.size))
        have hzw := hWw.out.size
        obtain ⟨wz, rfl⟩ : ∃ wz, wz = wr := ⟨_, rfl⟩
        by_cases hend : endR (readsR ks ⟨T, 0⟩).2 = 0
        · have hT2 := hback hend
          rw [hend] at hE
          have hLE := lEncode_any Ag ys.length cg ys wz rfl hyl hyok hrdg
          rw [hT2] at hLE
          have cS : ∀ W A c, RdI W W.heap.size .u8 A T → Below w3.heap.size w3 W → Calls Try.prog 15 #[.slice A T.length c, .slice A2 P.length c2] W fun e w' => e = .returned (.bool true) ∧ Below W.heap.size W w' := fun W A c h hb => by
            have := SameBytes_self A A2 c c2 T W (by omega) h ((hrT.below hb).mono hb.size)
            rw [← HTl.out]
            exact this
          clear hend hT2 hback hra hbd hG hrdg hyok
          go_wp2_with (first
            | (go_at_call 24; refine hE.mono ?_; clear hE; rintro e w' ⟨rfl, rfl⟩)
            | (go_at_call 26; refine hLE.mono ?_; clear hLE; rintro e z1 ⟨az, cz, rfl, hcz, hrowz, hbz1⟩; have hBz1 := hW.trans (hbz1.mono hW.size))
            | (go_at_call 15; refine (cS _ _ _ (rd_own hrowz) hBz1).mono ?_; clear cS; rintro e z2 ⟨rfl, hbz2⟩; have hB5 := Lib.hid ((hWw.out.trans (hbz1.mono hzw)).trans (hbz2.mono (Nat.le_trans hzw hbz1.size))))
            | fail)
          clear hrowz hbz1 hbz2 hBz1
          obtain ⟨w5, hw5⟩ : ∃ w5, w5 = z2 := ⟨_, rfl⟩
          rw [← hw5] at hB5 ⊢
          clear hw5
          have hzw5 := hB5.out.size
          clear hrd3 hkinds hrT hn2 hW
          refine (cF _ hB5.out).mono ?_
          rintro e u1 ⟨a5, d5, rfl, hd5, hrow5, hbu⟩
          have hR := dRead_any a5 fb.length d5 fb u1 rfl (by omega) hd5 (own_none hrow5) (rd_own hrow5)
          have hBu1 := Lib.hid (hB5.out.trans (hbu.mono hzw5))
          have hzu1 := hBu1.out.size
          have hfT := rd_own hrow5
          clear cF hbu hrow5
          go_wp2_with (first
            | (go_at_call 20; refine hR.mono ?_; clear hR; rintro e u2 ⟨g2, rfl, hg2, hr2, hbu2⟩)
            | fail)
          have hg2l := rdr_lt hr2
          have hzu2 := hbu2.size
          have hG0 : Got u2 u2.heap.size g2 (.slice none 0 0) [] fb := got_nil hr2
          have hBu2 := Lib.hid hbu2
          clear hr2 hbu2
          go_loopw [14, 17] (fun v i wr => ∃ (k : Nat) (ks : List Int), k ≤ 10 ∧ i = .int .i64 k ∧ Hid (ks.length = k) ∧ Got wr u2.heap.size g2 v ks fb ∧ Below u1.heap.size u1 wr ∧ u2.heap.size ≤ wr.heap.size) (fun _ i _ => 10 - (intOf i).toNat)
          case atStart => exact ⟨0, [], Nat.zero_le _, rfl, Lib.hid rfl, hG0, hBu2.out, Nat.le_refl _⟩
          case round =>
            clear hG0 hBu2
            obtain ⟨k, ks, hk10, rfl, hkl, hG, hW, hzr⟩ := hrel
            have hra := got_rdr hG
            have hbd := readsR_bd ks ⟨fb, 0⟩ hf8
            have hE := rEnd_any g2 (readsR ks ⟨fb, 0⟩).2 wr hra (Nat.le_trans hbd.1 (by simp only; omega))
            have hWw := Lib.hid (hBu1.out.trans (hW.mono hzu1))
            have hzw := hWw.out.size
            obtain ⟨wv, rfl⟩ : ∃ wv, wv = wr := ⟨_, rfl⟩
            by_cases hend : endR (readsR ks ⟨fb, 0⟩).2 = 0
            · obtain ⟨Ag, cg, ys, rfl, hyl, hrdg, hyok, hback⟩ := got_all hG hf8 (by omega) (by rw [hkl.out]; exact hk10)
              have hT2 := hback hend
              rw [hend] at hE
              have hE2 := hE
              have hLE := lEncode_any Ag ys.length cg ys wv rfl hyl hyok hrdg
              rw [hT2] at hLE
              have cS : ∀ W A c, RdI W W.heap.size .u8 A fb → Below u1.heap.size u1 W → Calls Try.prog 15 #[.slice A fb.length c, .slice a5 fb.length d5] W fun e w' => e = .returned (.bool true) ∧ Below W.heap.size W w' := fun W A c h hb =>
                SameBytes_self A a5 c d5 fb W (by omega) h ((hfT.below hb).mono hb.size)
              clear hend hT2 hback hra hbd hG hrdg hyok hr3
              by_cases hkl1 : k < zk.length
              · have c1 : decide ((k : Int) < (zk.length : Int)) = true := decide_eq_true (by omega)
                have c2' : decide (k < zk.length) = true := decide_eq_true hkl1
                by_cases hk9 : k < 10
                · have c3' : decide ((k : Int) < 10) = true := decide_eq_true (by omega)
                  go_wp2_with (first
                    | (go_at_call 24; refine hE.mono ?_; clear hE; rintro e w' ⟨rfl, rfl⟩)
                    | (go_at_call 24; refine hE2.mono ?_; clear hE2; rintro e w' ⟨rfl, rfl⟩)
                    | (go_at_call 26; refine hLE.mono ?_; clear hLE; rintro e z1 ⟨az, cz, rfl, hcz, hrowz, hbz1⟩; have hBz1 := hW.trans (hbz1.mono hW.size))
                    | (go_at_call 15; refine (cS _ _ _ (rd_own hrowz) hBz1).mono ?_; clear cS; rintro e z2 ⟨rfl, hbz2⟩)
                    | (go_at_call 18; refine (livesW_any _).mono ?_; rintro e z3 ⟨rfl, hbz3⟩))
                  go_ret
                  exact ⟨rfl, ((hWw.out.trans (hbz1.mono hzw)).trans (hbz2.mono (Nat.le_trans hzw hbz1.size))).trans (hbz3.mono (Nat.le_trans (Nat.le_trans hzw hbz1.size) hbz2.size))⟩
                · have c3' : decide ((k : Int) < 10) = false := decide_eq_false (by omega)
                  go_wp2_with (first
                    | (go_at_call 24; refine hE.mono ?_; clear hE; rintro e w' ⟨rfl, rfl⟩)
                    | (go_at_call 24; refine hE2.mono ?_; clear hE2; rintro e w' ⟨rfl, rfl⟩)
                    | (go_at_call 26; refine hLE.mono ?_; clear hLE; rintro e z1 ⟨az, cz, rfl, hcz, hrowz, hbz1⟩; have hBz1 := hW.trans (hbz1.mono hW.size))
                    | (go_at_call 15; refine (cS _ _ _ (rd_own hrowz) hBz1).mono ?_; clear cS; rintro e z2 ⟨rfl, hbz2⟩)
                    | (go_at_call 18; refine (livesW_any _).mono ?_; rintro e z3 ⟨rfl, hbz3⟩))
                  go_ret
                  exact ⟨rfl, ((hWw.out.trans (hbz1.mono hzw)).trans (hbz2.mono (Nat.le_trans hzw hbz1.size))).trans (hbz3.mono (Nat.le_trans (Nat.le_trans hzw hbz1.size) hbz2.size))⟩
              · have c1 : decide ((k : Int) < (zk.length : Int)) = false := decide_eq_false (by omega)
                have c2' : decide (k < zk.length) = false := decide_eq_false hkl1
                go_wp2_with (first
                  | (go_at_call 24; refine hE.mono ?_; clear hE; rintro e w' ⟨rfl, rfl⟩)
                  | (go_at_call 24; refine hE2.mono ?_; clear hE2; rintro e w' ⟨rfl, rfl⟩)
                  | (go_at_call 26; refine hLE.mono ?_; clear hLE; rintro e z1 ⟨az, cz, rfl, hcz, hrowz, hbz1⟩; have hBz1 := hW.trans (hbz1.mono hW.size))
                  | (go_at_call 15; refine (cS _ _ _ (rd_own hrowz) hBz1).mono ?_; clear cS; rintro e z2 ⟨rfl, hbz2⟩)
                  | (go_at_call 18; refine (livesW_any _).mono ?_; rintro e z3 ⟨rfl, hbz3⟩))
                go_ret
                exact ⟨rfl, ((hWw.out.trans (hbz1.mono hzw)).trans (hbz2.mono (Nat.le_trans hzw hbz1.size))).trans (hbz3.mono (Nat.le_trans (Nat.le_trans hzw hbz1.size) hbz2.size))⟩
            · have b1 : (endR (readsR ks ⟨fb, 0⟩).2 == 0) = false := by simpa using hend
              have b1' : (endR (readsR ks ⟨fb, 0⟩).2 != 0) = true := by simpa using hend
              by_cases hkl1 : k < zk.length
              · have c1 : decide ((k : Int) < (zk.length : Int)) = true := decide_eq_true (by omega)
                have c2' : decide (k < zk.length) = true := decide_eq_true hkl1
                by_cases hk9 : k < 10
                · have c3' : decide ((k : Int) < 10) = true := decide_eq_true (by omega)
                  obtain ⟨b, o, rfl, hb, hck0⟩ := hr3.at_ hkl1
                  have hck := (hWw.out.cell (p := ⟨b, o + k, none⟩) hb).trans hck0
                  have hki : I64 (zk[k]?.getD 0) := by rw [List.getElem?_eq_getElem hkl1]; exact hk64 _ (List.getElem_mem hkl1)
                  obtain ⟨q, hq6, hAq⟩ := Around_nat _ 6 hki (by decide) (by decide)
                  generalize zk[k]?.getD 0 = zz0 at hck hAq
                  have hC1 := lReadT_any (q : Int) g2 (readsR ks ⟨fb, 0⟩).2 wv hra hbd.2 (Nat.le_trans hbd.1 (by simp only; omega)) ⟨by omega, by omega⟩
                  obtain ⟨ts1, hGA⟩ := hG
                  have hts1 : ts1.length ≤ 15 := by have := hGA.1; have := hkl.out; omega
                  generalize hrr : readR (q : Int) (readsR ks ⟨fb, 0⟩).2 = r at hC1
                  have HRR := Lib.hid hrr
                  obtain ⟨x, s2⟩ := r
                  obtain ⟨xk, xu, xn, xb, xl⟩ := x
                  simp only at hC1
                  have hg1r : g2 < wv.heap.size := by omega
                  have hqq : (0 : Int) ≤ (q : Int) ∧ (q : Int) ≤ 5 := ⟨by omega, by omega⟩
                  generalize endR (readsR ks ⟨fb, 0⟩).2 = E at hE b1 b1' hend
                  clear hck0 hki hbd hrr hra hend
                  go_wp2_with (first
                    | (go_at_call 24; refine hE.mono ?_; clear hE; rintro e w' ⟨rfl, rfl⟩)
                    | (go_at_call 19; refine (hAq _).mono ?_; clear hAq; rintro e w' ⟨rfl, rfl⟩)
                    | (go_at_call 22; refine hC1.mono ?_; clear hC1; rintro e y1 ⟨vb, vl, rfl, ht5, ht6, hr1b, hg1b⟩; have hzy := hg1b.size; have hone1 := rdt_one ⟨⟨xk, xu, xn, xb, xl⟩, vb, vl⟩ ht5 ht6)
                    | (at_builtin; refine wpList_append_own _ rfl (.tmp 83) (.tmp 91) 25 rfl u2.heap.size 28 i0 (.agg #[.int .i64 0, .int .u64 0, .int .i64 0, .slice none 0 0, .slice none 0 0]) 5 72 Try.underlying25 hi hv0 hv1 hv2 rfl (by decide) _ ts1.length _ rfl ((got_row hGA hg2l hg1b).alloc _) ⟨y1.heap.size, 0, none⟩ 1 1 ((⟨⟨xk, xu, xn, xb, xl⟩, vb, vl⟩ : Vt).cells) rfl rfl (World.news_of_block (cs := #[.int .i64 xk, .int .u64 xu, .int .i64 xn, vb, vl]) (t := 28) (fr := (0, 0)) (heap_alloc_new_at _ _ rfl)) hone1 (by unfold maxLen; omega) (by omega) (by simp; omega) ?_; intro v' y2 hown' hgrow _))
                  go_roundw
                  case rel =>
                    refine ⟨k + 1, ks ++ [(q : Int)], by omega, by go_num, Lib.hid (by rw [List.length_append, hkl.out]; rfl), got_more hGA hg2l hqq HRR.out ht5 ht6 hr1b hg1b hgrow hown', ?_, ?_⟩
                    · have hBy1 := (below_of_grown hg1b (Nat.le_of_lt hg1r)).mono (show u1.heap.size ≤ g2 from hg2)
                      exact (hW.trans hBy1).trans (((Below.refl u1.heap.size y1).alloc (by omega) _).grown hgrow (by simp; omega) (fun j ej => by have := ((got_row hGA hg2l hg1b).lt j ej).1; omega))
                    · have := hgrow.size; simp at this; omega
                  case measure => simp [intOf]; omega
                · have c3' : decide ((k : Int) < 10) = false := decide_eq_false (by omega)
                  generalize endR (readsR ks ⟨fb, 0⟩).2 = E at hE b1 b1' hend
                  clear hend hra hbd hG hr3
                  go_wp2_with (first
                    | (go_at_call 24; refine hE.mono ?_; clear hE; rintro e w' ⟨rfl, rfl⟩)
                    | (go_at_call 18; refine (livesW_any _).mono ?_; rintro e z3 ⟨rfl, hbz3⟩))
                  go_ret
                  exact ⟨rfl, hWw.out.trans (hbz3.mono hzw)⟩
              · have c1 : decide ((k : Int) < (zk.length : Int)) = false := decide_eq_false (by omega)
                have c2' : decide (k < zk.length) = false := decide_eq_false hkl1
                generalize endR (readsR ks ⟨fb, 0⟩).2 = E at hE b1 b1' hend
                clear hend hra hbd hG hr3
                go_wp2_with (first
                  | (go_at_call 24; refine hE.mono ?_; clear hE; rintro e w' ⟨rfl, rfl⟩)
                  | (go_at_call 18; refine (livesW_any _).mono ?_; rintro e z3 ⟨rfl, hbz3⟩))
                go_ret
                exact ⟨rfl, hWw.out.trans (hbz3.mono hzw)⟩
        · have b1 : (endR (readsR ks ⟨T, 0⟩).2 == 0) = false := by simpa using hend
          generalize endR (readsR ks ⟨T, 0⟩).2 = E at hE b1 hend
          clear hend hback hra hbd hG hrdg hyok
          go_wp2_with (first
            | (go_at_call 24; refine hE.mono ?_; clear hE; rintro e w' ⟨rfl, rfl⟩)
            | fail)
          have hB5 := hWw
          obtain ⟨w5, hw5⟩ : ∃ w5, w5 = wz := ⟨_, rfl⟩
          rw [← hw5] at hB5 ⊢
          clear hw5
          have hzw5 := hB5.out.size
          clear hrd3 hkinds hrT hn2 hW
          refine (cF _ hB5.out).mono ?_
          rintro e u1 ⟨a5, d5, rfl, hd5, hrow5, hbu⟩
          have hR := dRead_any a5 fb.length d5 fb u1 rfl (by omega) hd5 (own_none hrow5) (rd_own hrow5)
          have hBu1 := Lib.hid (hB5.out.trans (hbu.mono hzw5))
          have hzu1 := hBu1.out.size
          have hfT := rd_own hrow5
          clear cF hbu hrow5
          go_wp2_with (first
            | (go_at_call 20; refine hR.mono ?_; clear hR; rintro e u2 ⟨g2, rfl, hg2, hr2, hbu2⟩)
            | fail)
          have hg2l := rdr_lt hr2
          have hzu2 := hbu2.size
          have hG0 : Got u2 u2.heap.size g2 (.slice none 0 0) [] fb := got_nil hr2
          have hBu2 := Lib.hid hbu2
          clear hr2 hbu2
          go_loopw [14, 17] (fun v i wr => ∃ (k : Nat) (ks : List Int), k ≤ 10 ∧ i = .int .i64 k ∧ Hid (ks.length = k) ∧ Got wr u2.heap.size g2 v ks fb ∧ Below u1.heap.size u1 wr ∧ u2.heap.size ≤ wr.heap.size) (fun _ i _ => 10 - (intOf i).toNat)
          case atStart => exact ⟨0, [], Nat.zero_le _, rfl, Lib.hid rfl, hG0, hBu2.out, Nat.le_refl _⟩
          case round =>
            clear hG0 hBu2
            obtain ⟨k, ks, hk10, rfl, hkl, hG, hW, hzr⟩ := hrel
            have hra := got_rdr hG
            have hbd := readsR_bd ks ⟨fb, 0⟩ hf8
            have hE := rEnd_any g2 (readsR ks ⟨fb, 0⟩).2 wr hra (Nat.le_trans hbd.1 (by simp only; omega))
            have hWw := Lib.hid (hBu1.out.trans (hW.mono hzu1))
            have hzw := hWw.out.size
            obtain ⟨wv, rfl⟩ : ∃ wv, wv = wr := ⟨_, rfl⟩
            by_cases hend : endR (readsR ks ⟨fb, 0⟩).2 = 0
            · obtain ⟨Ag, cg, ys, rfl, hyl, hrdg, hyok, hback⟩ := got_all hG hf8 (by omega) (by rw [hkl.out]; exact hk10)
              have hT2 := hback hend
              rw [hend] at hE
              have hE2 := hE
              have hLE := lEncode_any Ag ys.length cg ys wv rfl hyl hyok hrdg
              rw [hT2] at hLE
              have cS : ∀ W A c, RdI W W.heap.size .u8 A fb → Below u1.heap.size u1 W → Calls Try.prog 15 #[.slice A fb.length c, .slice a5 fb.length d5] W fun e w' => e = .returned (.bool true) ∧ Below W.heap.size W w' := fun W A c h hb =>
                SameBytes_self A a5 c d5 fb W (by omega) h ((hfT.below hb).mono hb.size)
              clear hend hT2 hback hra hbd hG hrdg hyok hr3
              by_cases hkl1 : k < zk.length
              · have c1 : decide ((k : Int) < (zk.length : Int)) = true := decide_eq_true (by omega)
                have c2' : decide (k < zk.length) = true := decide_eq_true hkl1
                by_cases hk9 : k < 10
                · have c3' : decide ((k : Int) < 10) = true := decide_eq_true (by omega)
                  go_wp2_with (first
                    | (go_at_call 24; refine hE.mono ?_; clear hE; rintro e w' ⟨rfl, rfl⟩)
                    | (go_at_call 24; refine hE2.mono ?_; clear hE2; rintro e w' ⟨rfl, rfl⟩)
                    | (go_at_call 26; refine hLE.mono ?_; clear hLE; rintro e z1 ⟨az, cz, rfl, hcz, hrowz, hbz1⟩; have hBz1 := hW.trans (hbz1.mono hW.size))
                    | (go_at_call 15; refine (cS _ _ _ (rd_own hrowz) hBz1).mono ?_; clear cS; rintro e z2 ⟨rfl, hbz2⟩)
                    | (go_at_call 18; refine (livesW_any _).mono ?_; rintro e z3 ⟨rfl, hbz3⟩))
                  go_ret
                  exact ⟨rfl, ((hWw.out.trans (hbz1.mono hzw)).trans (hbz2.mono (Nat.le_trans hzw hbz1.size))).trans (hbz3.mono (Nat.le_trans (Nat.le_trans hzw hbz1.size) hbz2.size))⟩
                · have c3' : decide ((k : Int) < 10) = false := decide_eq_false (by omega)
                  go_wp2_with (first
                    | (go_at_call 24; refine hE.mono ?_; clear hE; rintro e w' ⟨rfl, rfl⟩)
                    | (go_at_call 24; refine hE2.mono ?_; clear hE2; rintro e w' ⟨rfl, rfl⟩)
                    | (go_at_call 26; refine hLE.mono ?_; clear hLE; rintro e z1 ⟨az, cz, rfl, hcz, hrowz, hbz1⟩; have hBz1 := hW.trans (hbz1.mono hW.size))
                    | (go_at_call 15; refine (cS _ _ _ (rd_own hrowz) hBz1).mono ?_; clear cS; rintro e z2 ⟨rfl, hbz2⟩)
                    | (go_at_call 18; refine (livesW_any _).mono ?_; rintro e z3 ⟨rfl, hbz3⟩))
                  go_ret
                  exact ⟨rfl, ((hWw.out.trans (hbz1.mono hzw)).trans (hbz2.mono (Nat.le_trans hzw hbz1.size))).trans (hbz3.mono (Nat.le_trans (Nat.le_trans hzw hbz1.size) hbz2.size))⟩
              · have c1 : decide ((k : Int) < (zk.length : Int)) = false := decide_eq_false (by omega)
                have c2' : decide (k < zk.length) = false := decide_eq_false hkl1
                go_wp2_with (first
                  | (go_at_call 24; refine hE.mono ?_; clear hE; rintro e w' ⟨rfl, rfl⟩)
                  | (go_at_call 24; refine hE2.mono ?_; clear hE2; rintro e w' ⟨rfl, rfl⟩)
                  | (go_at_call 26; refine hLE.mono ?_; clear hLE; rintro e z1 ⟨az, cz, rfl, hcz, hrowz, hbz1⟩; have hBz1 := hW.trans (hbz1.mono hW.size))
                  | (go_at_call 15; refine (cS _ _ _ (rd_own hrowz) hBz1).mono ?_; clear cS; rintro e z2 ⟨rfl, hbz2⟩)
                  | (go_at_call 18; refine (livesW_any _).mono ?_; rintro e z3 ⟨rfl, hbz3⟩))
                go_ret
                exact ⟨rfl, ((hWw.out.trans (hbz1.mono hzw)).trans (hbz2.mono (Nat.le_trans hzw hbz1.size))).trans (hbz3.mono (Nat.le_trans (Nat.le_trans hzw hbz1.size) hbz2.size))⟩
            · have b1 : (endR (readsR ks ⟨fb, 0⟩).2 == 0) = false := by simpa using hend
              have b1' : (endR (readsR ks ⟨fb, 0⟩).2 != 0) = true := by simpa using hend
              by_cases hkl1 : k < zk.length
              · have c1 : decide ((k : Int) < (zk.length : Int)) = true := decide_eq_true (by omega)
                have c2' : decide (k < zk.length) = true := decide_eq_true hkl1
                by_cases hk9 : k < 10
                · have c3' : decide ((k : Int) < 10) = true := decide_eq_true (by omega)
                  obtain ⟨b, o, rfl, hb, hck0⟩ := hr3.at_ hkl1
                  have hck := (hWw.out.cell (p := ⟨b, o + k, none⟩) hb).trans hck0
                  have hki : I64 (zk[k]?.getD 0) := by rw [List.getElem?_eq_getElem hkl1]; exact hk64 _ (List.getElem_mem hkl1)
                  obtain ⟨q, hq6, hAq⟩ := Around_nat _ 6 hki (by decide) (by decide)
                  generalize zk[k]?.getD 0 = zz0 at hck hAq
                  have hC1 := lReadT_any (q : Int) g2 (readsR ks ⟨fb, 0⟩).2 wv hra hbd.2 (Nat.le_trans hbd.1 (by simp only; omega)) ⟨by omega, by omega⟩
                  obtain ⟨ts1, hGA⟩ := hG
                  have hts1 : ts1.length ≤ 15 := by have := hGA.1; have := hkl.out; omega
                  generalize hrr : readR (q : Int) (readsR ks ⟨fb, 0⟩).2 = r at hC1
                  have HRR := Lib.hid hrr
                  obtain ⟨x, s2⟩ := r
                  obtain ⟨xk, xu, xn, xb, xl⟩ := x
                  simp only at hC1
                  have hg1r : g2 < wv.heap.size := by omega
                  have hqq : (0 : Int) ≤ (q : Int) ∧ (q : Int) ≤ 5 := ⟨by omega, by omega⟩
                  generalize endR (readsR ks ⟨fb, 0⟩).2 = E at hE b1 b1' hend
                  clear hck0 hki hbd hrr hra hend
                  go_wp2_with (first
                    | (go_at_call 24; refine hE.mono ?_; clear hE; rintro e w' ⟨rfl, rfl⟩)
                    | (go_at_call 19; refine (hAq _).mono ?_; clear hAq; rintro e w' ⟨rfl, rfl⟩)
                    | (go_at_call 22; refine hC1.mono ?_; clear hC1; rintro e y1 ⟨vb, vl, rfl, ht5, ht6, hr1b, hg1b⟩; have hzy := hg1b.size; have hone1 := rdt_one ⟨⟨xk, xu, xn, xb, xl⟩, vb, vl⟩ ht5 ht6)
                    | (at_builtin; refine wpList_append_own _ rfl (.tmp 83) (.tmp 91) 25 rfl u2.heap.size 28 i0 (.agg #[.int .i64 0, .int .u64 0, .int .i64 0, .slice none 0 0, .slice none 0 0]) 5 72 Try.underlying25 hi hv0 hv1 hv2 rfl (by decide) _ ts1.length _ rfl ((got_row hGA hg2l hg1b).alloc _) ⟨y1.heap.size, 0, none⟩ 1 1 ((⟨⟨xk, xu, xn, xb, xl⟩, vb, vl⟩ : Vt).cells) rfl rfl (World.news_of_block (cs := #[.int .i64 xk, .int .u64 xu, .int .i64 xn, vb, vl]) (t := 28) (fr := (0, 0)) (heap_alloc_new_at _ _ rfl)) hone1 (by unfold maxLen; omega) (by omega) (by simp; omega) ?_; intro v' y2 hown' hgrow _))
                  go_roundw
                  case rel =>
                    refine ⟨k + 1, ks ++ [(q : Int)], by omega, by go_num, Lib.hid (by rw [List.length_append, hkl.out]; rfl), got_more hGA hg2l hqq HRR.out ht5 ht6 hr1b hg1b hgrow hown', ?_, ?_⟩
                    · have hBy1 := (below_of_grown hg1b (Nat.le_of_lt hg1r)).mono (show u1.heap.size ≤ g2 from hg2)
                      exact (hW.trans hBy1).trans (((Below.refl u1.heap.size y1).alloc (by omega) _).grown hgrow (by simp; omega) (fun j ej => by have := ((got_row hGA hg2l hg1b).lt j ej).1; omega))
                    · have := hgrow.size; simp at this; omega
                  case measure => simp [intOf]; omega
                · have c3' : decide ((k : Int) < 10) = false := decide_eq_false (by omega)
                  generalize endR (readsR ks ⟨fb, 0⟩).2 = E at hE b1 b1' hend
                  clear hend hra hbd hG hr3
                  go_wp2_with (first
                    | (go_at_call 24; refine hE.mono ?_; clear hE; rintro e w' ⟨rfl, rfl⟩)
                    | (go_at_call 18; refine (livesW_any _).mono ?_; rintro e z3 ⟨rfl, hbz3⟩))
                  go_ret
                  exact ⟨rfl, hWw.out.trans (hbz3.mono hzw)⟩
              · have c1 : decide ((k : Int) < (zk.length : Int)) = false := decide_eq_false (by omega)
                have c2' : decide (k < zk.length) = false := decide_eq_false hkl1
                generalize endR (readsR ks ⟨fb, 0⟩).2 = E at hE b1 b1' hend
                clear hend hra hbd hG hr3
                go_wp2_with (first
                  | (go_at_call 24; refine hE.mono ?_; clear hE; rintro e w' ⟨rfl, rfl⟩)
                  | (go_at_call 18; refine (livesW_any _).mono ?_; rintro e z3 ⟨rfl, hbz3⟩))
                go_ret
                exact ⟨rfl, hWw.out.trans (hbz3.mono hzw)⟩
end Go.Proofs.Ytebfgdonikedaaa
