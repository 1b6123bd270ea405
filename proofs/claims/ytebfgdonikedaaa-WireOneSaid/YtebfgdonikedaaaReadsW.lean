/-
  THE WALK of the law on what a Reader returns (P2.2 to P2.5).
-/
import Derived.Test.YtebfgdonikedaaaWrRead
import Derived.Test.YtebfgdonikedaaaReadT
namespace Go.Proofs.Ytebfgdonikedaaa
open Go.RowKit

theorem readR_lens {k : Int} {s : Rst} (h8 : Bytes8 s.l) : (readR k s).1.b.length ≤ s.l.length ∧ (readR k s).1.l.length ≤ s.l.length := by
  unfold readR
  split
  · exact ⟨Nat.zero_le _, Nat.zero_le _⟩
  · split
    · exact ⟨Nat.zero_le _, Nat.zero_le _⟩
    · split
      · exact ⟨Nat.zero_le _, Nat.zero_le _⟩
      · split
        · exact ⟨(rawR_len h8).2.2, Nat.zero_le _⟩
        · refine ⟨Nat.zero_le _, ?_⟩
          show (intsR s).1.length ≤ _
          obtain ⟨h1, h2⟩ := lenR_len2 h8
          have hn := lenR_nrm s h8
          have hn2 := lenR_short s h8
          obtain ⟨_, h4⟩ := intsGo_vals (lenR s).1 [] (lenR s).2 h2 (fun z hz => by simp at hz)
          rw [← intsR_go] at h4
          simp at h4
          omega
/-- a block of a reader is no block of elements of type e -/
theorem rdr_not {w : World} {T : TypeId} {g : Nat} {s : Rst} (h : RdrAt w T g s) {e : TypeId} (hne : T ≠ e) : ∀ j, some g = some j → ∀ C fr, w.heap[j]? ≠ some (.cells C e fr) := fun j hj C fr hk => by
  obtain ⟨A, c, hk2, _⟩ := h
  injection hj with hj
  subst hj
  rw [hk2] at hk
  injection hk with hk
  injection hk with _ h2 _
  exact hne h2

theorem two_rows {w4 : World} {t : TypeId} {a4 A2 : Option Addr} {d4 n2 d2 : Nat} {F T : List Int} (hF : RdI w4 w4.heap.size .u8 a4 F) (hFl : F.length ≤ 300000) (hFc : F.length ≤ d4) (hFn : a4 = none → d4 = 0) (hF8 : Bytes8 F)
    (hT : RdI w4 w4.heap.size .u8 A2 T) (hTn : T.length = n2) (hTl : T.length ≤ 300000) (hTc : n2 ≤ d2) (hTn' : A2 = none → d2 = 0) (hT8 : Bytes8 T) (m : Nat) (hm : m < 2) :
    ∃ A' n' c' L, (w4.alloc (.cells #[.slice a4 F.length d4, .slice A2 n2 d2] t)).cell? ⟨w4.heap.size, m, none⟩ = some (.slice A' n' c') ∧ n' = L.length ∧ L.length ≤ 300000 ∧ L.length ≤ c' ∧ (A' = none → c' = 0) ∧ Bytes8 L ∧ RdI (w4.alloc (.cells #[.slice a4 F.length d4, .slice A2 n2 d2] t)) (w4.alloc (.cells #[.slice a4 F.length d4, .slice A2 n2 d2] t)).heap.size .u8 A' L := by
  have hb := new_below w4 (.cells #[.slice a4 F.length d4, .slice A2 n2 d2] t)
  have hc := fun i => cell_of_row (w4.alloc (.cells #[.slice a4 F.length d4, .slice A2 n2 d2] t)) w4.heap.size i _ _ _ (heap_alloc_new w4 _)
  have hmm : m = 0 ∨ m = 1 := by omega
  rcases hmm with rfl | rfl
  · exact ⟨a4, F.length, d4, F, by rw [hc]; rfl, rfl, hFl, hFc, hFn, hF8, (hF.below hb).mono hb.size⟩
  · exact ⟨A2, n2, d2, T, by rw [hc]; rfl, hTn.symm, hTl, by omega, hTn', hT8, (hT.below hb).mono hb.size⟩

set_option maxRecDepth 100000 in
set_option maxHeartbeats 4000000 in
theorem reads_any (A0 : Option Addr) (c0 : Nat) (zb : List Int) (A1 : Option Addr) (c1 : Nat) (zl : List Int) (pos cc : Int) (A3 : Option Addr) (c3 : Nat) (zk : List Int) (w : World)
    (hz0 : zb.length ≤ maxLen) (hc0 : zb.length ≤ c0) (hA0 : A0 = none → c0 = 0) (h80 : Bytes8 zb) (hr0 : RdI w w.heap.size .u8 A0 zb)
    (hz : zl.length ≤ maxLen) (h64 : ∀ z ∈ zl, I64 z) (hr : RdI w w.heap.size .i64 A1 zl) (hpos : I64 pos) (hcc : 0 ≤ cc ∧ cc < 256)
    (hz3 : zk.length ≤ maxLen) (hk64 : ∀ z ∈ zk, I64 z) (hr3 : RdI w w.heap.size .i64 A3 zk) :
    Calls Try.prog 4 #[.slice A0 zb.length c0, .slice A1 zl.length c1, .int .i64 pos, .int .u8 cc, .slice A3 zk.length c3] w (TruePost w) := by
  have hV := wVals_any A1 zl.length c1 zl w rfl hz h64 hr
  have cF : ∀ W, Below w.heap.size w W → Calls Try.prog 12 #[.slice A0 zb.length c0, .int .i64 60] W fun e w' => GivesRow W.heap.size W 5 .u8 (zb.take 60) e w' := fun W hW =>
    Few_any A0 zb.length c0 60 zb W rfl hz0 (by decide) hc0 hA0 ((hr0.below hW).mono hW.size)
  have hf8 : Bytes8 (zb.take 60) := fun z hz => h80 z (List.mem_of_mem_take hz)
  have hfl : (zb.take 60).length ≤ 60 := List.length_take_le _ _
  generalize zb.take 60 = fb at cF hf8 hfl
  unfold maxLen at hz hz0 hz3
  clear h64 hr h80 hr0 hA0
  go_enter Try.func4, Try.ntmps4
  go_wp2_with (go_at_call 11; refine hV.mono ?_; clear hV; rintro e w1 ⟨v, ts, rfl, htl, hrow, hgood, hb1⟩; obtain ⟨a1, d1, xs, rfl, hxl, hxc, hxn, hrd1, hxg⟩ := all_of hrow (by omega) hgood; clear hrow hgood htl)
  refine (wEncode_any a1 xs.length d1 xs w1 rfl (by omega) (fun x h => (hxg x h).1) hrd1).mono ?_
  rintro e w2 ⟨A2, c2, rfl, hc2, hrow2, hb2⟩
  have hel := encs_len15 hxl hxg
  have h8 := encs_bytes (fun x hx => (hxg x hx).1)
  have hz1 := hb1.size
  have hz2 := hb2.size
  have hB2 := Lib.hid (hb1.trans (hb2.mono hz1))
  generalize encs xs = P at hrow2 hc2 hel h8 ⊢
  have hro2 := rd_own hrow2
  have hn2 := own_none hrow2
  clear hrd1 hxg hb1 hb2
  by_cases hE : 0 < P.length
  · obtain ⟨a, ha, hAr⟩ := Around_nat pos P.length hpos (by omega) (by omega)
    obtain ⟨j2, hA2, hj2, hj2l, hfz⟩ := own_block hrow2 hE
    subst hA2
    obtain ⟨y, hyv, hy⟩ := rd_some hro2 ha
    have hfa := hfz a
    have b1 : decide ((0 : Int) < (P.length : Int)) = true := decide_eq_true (by omega)
    have b2 : decide (0 < P.length) = true := decide_eq_true hE
    have hap : (a : Int) < (P.length : Int) := by omega
    have hput := Lib.hid (rd_put hro2 ha cc)
    have hBs := Lib.hid (hB2.out.setCell (p := ⟨j2, a, none⟩) (by omega : w.heap.size ≤ j2) (.int .u8 cc))
    have h8s : Bytes8 (P.set a cc) := bytes8_set h8 a hcc
    clear hyv hfz hro2 hrow2 hE ha
    go_wp2_with (first
      | (go_at_call 19; refine (hAr _).mono ?_; clear hAr; rintro e w' ⟨rfl, rfl⟩)
      | fail)
    obtain ⟨T, hT⟩ : ∃ T, T = P.set a cc := ⟨_, rfl⟩
    have HTl := Lib.hid (show T.length = P.length by rw [hT, List.length_set])
    have hrT := hput.out
    rw [← hT] at hrT h8s
    have hB3 := hBs.out
    clear hput hBs hT hy hfa
    generalize w2.setCell ⟨j2, a, none⟩ (.int .u8 cc) = w3 at hrT hB3 ⊢
    obtain ⟨A2, hA2⟩ : ∃ A2, A2 = some (⟨j2, 0, none⟩ : Addr) := ⟨_, rfl⟩
    rw [← hA2] at hrT hn2 ⊢
    clear hA2
    refine (cF _ hB3).mono ?_
    rintro e w4 ⟨a4, d4, rfl, hd4, hrow4, hb4⟩
    have hz4 := hb4.size
    have hz3w := hB3.size
    have hF4 := rd_own hrow4
    have hF4n := own_none hrow4
    have hT4 := (hrT.below hb4).mono hz4
    have hB4 := Lib.hid (hB3.trans (hb4.mono hz3w))
    clear cF hrow4 hrT hb4
    go_wp2
    have hAll := two_rows (w4 := w4) (t := 24) (d4 := d4) (n2 := P.length) (d2 := c2) hF4 (by omega) hd4 hF4n hf8 hT4 HTl.out (by rw [HTl.out]; omega) hc2 hn2 h8s
    have hB5 := Lib.hid (hB4.out.trans ((new_below w4 (.cells #[.slice a4 fb.length d4, .slice A2 P.length c2] 24)).mono (by omega)))
    have hz5 : w4.heap.size < (w4.alloc (.cells #[.slice a4 fb.length d4, .slice A2 P.length c2] 24)).heap.size := by simp
    obtain ⟨w5, hw5⟩ : ∃ w5, w5 = w4.alloc (.cells #[.slice a4 fb.length d4, .slice A2 P.length c2] 24) := ⟨_, rfl⟩
    rw [← hw5] at hAll hB5 hz5 ⊢
    have hzw : w.heap.size ≤ w5.heap.size := by omega
    clear hw5 hF4 hT4 hF4n hf8 h8s HTl hn2
    go_loopw [13] (fun i wr => ∃ m : Nat, m ≤ 2 ∧ i = .int .i64 m ∧ Below w5.heap.size w5 wr) (fun i _ => 2 - (intOf i).toNat)
    case atStart => exact ⟨0, by omega, rfl, Below.refl _ _⟩
    case round =>
      obtain ⟨m, hm, rfl, hW⟩ := hrel
      by_cases hlt : m < 2
      · obtain ⟨A', n', c', L, hq, hn', hLl, hLc, hA', hL8, hrL⟩ := hAll m hlt
        subst hn'
        have hq1 := (hW.cell (p := ⟨w4.heap.size, m, none⟩) hz5).trans hq
        have hrL1 := (hrL.below hW).mono hW.size
        have hR := dRead_any A' L.length c' L wr rfl (by omega) hLc hA' hrL1
        obtain ⟨wq, rfl⟩ : ∃ wq, wq = wr := ⟨_, rfl⟩
        have hzq := hW.size
        clear hq hrL
        have hmi : (m : Int) < 2 := by omega
        go_wp2_with (go_at_call 20; refine hR.mono ?_; clear hR; rintro e x1 ⟨g1, rfl, hg1, hr1, hb1⟩; have hq2 := (hb1.cell (p := ⟨w4.heap.size, m, none⟩) (show w4.heap.size < wq.heap.size by omega)).trans hq1)
        have hg1l := rdr_lt hr1
        have hzx := hb1.size
        have hR1 : RdrAt (x1.alloc (.cells #[.slice A' L.length c', .int .i64 0] 47)) 77 g1 (nrm ⟨L, 0⟩) := by rw [nrm_ok rfl]; exact rdr_below hr1 (new_below x1 _)
        have hR2 : RdrAt (x1.alloc (.cells #[.slice A' L.length c', .int .i64 0] 47)) 47 x1.heap.size ⟨L, 0⟩ := ⟨A', c', heap_alloc_new x1 _, hLc, hA', ((hrL1.below hb1).mono hzx).below (new_below x1 _)⟩
        have hBx := hW.trans ((hb1.mono hzq).trans ((new_below x1 (.cells #[.slice A' L.length c', .int .i64 0] 47)).mono (by omega)))
        have hgne : g1 ≠ x1.heap.size := by omega
        have hgl1 : w5.heap.size ≤ g1 := by omega
        obtain ⟨g2, hg2⟩ : ∃ g2, g2 = x1.heap.size := ⟨_, rfl⟩
        have hgl2 : w5.heap.size ≤ g2 := by omega
        rw [← hg2] at hR2 hgne ⊢
        generalize x1.alloc (.cells #[.slice A' L.length c', .int .i64 0] 47) = w7 at hR1 hR2 hBx ⊢
        clear hr1 hb1 hq1 hq2 hrL1 hg2 hA' hW
        go_loopw [16, 17] (fun i q wi => ∃ (k : Nat) (s : Rst), k ≤ 10 ∧ i = .int .i64 k ∧ RdrAt wi 77 g1 (nrm s) ∧ RdrAt wi 47 g2 s ∧ Bytes8 s.l ∧ s.l.length ≤ 300000 ∧ Below w5.heap.size w5 wi) (fun i _ _ => 10 - (intOf i).toNat)
        case atStart => exact ⟨0, ⟨L, 0⟩, by omega, rfl, hR1, hR2, hL8, hLl, hBx⟩
        case round =>
          clear hR1 hR2 hBx
          obtain ⟨k, s, hk10, rfl, hr1, hr2, hs8, hsl, hWi⟩ := hrel
          by_cases hkl : k < zk.length
          · by_cases hk9 : k < 10
            · obtain ⟨b, o, rfl, hb, hck0⟩ := hr3.at_ hkl
              have hck := ((hB5.out.trans (hWi.mono hzw)).cell (p := ⟨b, o + k, none⟩) hb).trans hck0
              have hki : I64 (zk[k]?.getD 0) := by rw [List.getElem?_eq_getElem hkl]; exact hk64 _ (List.getElem_mem hkl)
              obtain ⟨q, hq6, hAq⟩ := Around_nat _ 6 hki (by decide) (by decide)
              have hC1 := lReadT_any (q : Int) g1 s wr hr1 hs8 (by omega) ⟨by omega, by omega⟩
              have hC2 := fun W (h : RdrAt W 47 g2 s) => wrRead_any (q : Int) g2 s W h hs8 (by omega) ⟨by omega, by omega⟩
              obtain ⟨hbl, hll⟩ := readR_lens (k := (q : Int)) hs8
              obtain ⟨hsl2, hs82⟩ := readR_bd (k := (q : Int)) hs8
              generalize zk[k]?.getD 0 = zz0 at hck hAq
              generalize readR (q : Int) s = r at hC1 hC2 hbl hll hsl2 hs82
              obtain ⟨x, s2⟩ := r
              simp only at hC1 hC2 hbl hll hsl2 hs82
              have hE1 := fun W (h : RdrAt W 77 g1 (nrm s2)) => rEnd_any g1 s2 W h (by omega)
              have hE2 := fun W (h : RdrAt W 47 g2 s2) => wrEnd_any 47 g2 s2 W h (by omega)
              generalize endR s2 = E at hE1 hE2
              obtain ⟨xk, xu, xn, xb, xl⟩ := x
              simp only at hC1 hC2 hbl hll
              clear hck0 hki
              have hb1 : decide ((k : Int) < (zk.length : Int)) = true := decide_eq_true (by omega)
              have hb2 : decide (k < zk.length) = true := decide_eq_true hkl
              have hb3 : decide ((k : Int) < 10) = true := decide_eq_true (by omega)
              go_wp2_with (first
                | (go_at_call 19; refine (hAq _).mono ?_; clear hAq; rintro e w' ⟨rfl, rfl⟩)
                | (go_at_call 22; refine hC1.mono ?_; clear hC1; rintro e y1 ⟨vb, vl, rfl, ht5, ht6, hr1b, hg1b⟩; have hr2b := rdr_other hr2 hr1 (fun e => hgne e.symm) hg1b; have hBy1 := Lib.hid ((below_of_grown hg1b (Nat.le_of_lt (rdr_lt hr1))).mono hgl1))
                | (go_at_call 23; refine (hC2 _ hr2b).mono ?_; clear hC2; rintro e y2 ⟨vb2, vl2, rfl, hs5, hs6, hr2c, hg2c⟩; have hr1c := rdr_other hr1b hr2b hgne hg2c; have ht5c := rdt_rds (rdt_kept ht5 hg2c (rdr_not hr2b (by decide))); have ht6c := rdt_rds (rdt_kept ht6 hg2c (rdr_not hr2b (by decide))); have hBy2 := Lib.hid ((below_of_grown hg2c (Nat.le_of_lt (rdr_lt hr2b))).mono hgl2))
                | (go_at_call 21; refine (wSame_self ⟨xk, xu, xn, xb, xl⟩ vb vl vb2 vl2 y2 (by simp only; omega) (by simp only; omega) ht5c ht6c hs5 hs6).mono ?_; rintro e y3 ⟨rfl, hb3y⟩; have hr1d := rdr_below hr1c hb3y; have hr2d := rdr_below hr2c hb3y; have hBy3 := Lib.hid (hb3y.mono (Nat.le_trans (Nat.le_trans hWi.size hBy1.out.size) hBy2.out.size)))
                | (go_at_call 24; refine (hE1 _ hr1d).mono ?_; clear hE1; rintro e w' ⟨rfl, rfl⟩)
                | (go_at_call 25; refine (hE2 _ hr2d).mono ?_; clear hE2; rintro e w' ⟨rfl, rfl⟩))
              go_roundw
              case rel => exact ⟨k + 1, s2, by omega, by go_num, hr1d, hr2d, hs82, by omega, ((hWi.trans hBy1.out).trans hBy2.out).trans hBy3.out⟩
              case measure => simp [intOf]; omega
            · have hb1 : decide ((k : Int) < (zk.length : Int)) = true := decide_eq_true (by omega)
              have hb2 : decide (k < zk.length) = true := decide_eq_true hkl
              have hb3 : decide ((k : Int) < 10) = false := decide_eq_false (by omega)
              clear hr3
              go_wp2
              go_roundw
              case rel => exact ⟨m + 1, by omega, by go_num, hWi⟩
              case measure => simp [intOf]; omega
          · have hb1 : decide ((k : Int) < (zk.length : Int)) = false := decide_eq_false (by omega)
            have hb2 : decide (k < zk.length) = false := decide_eq_false hkl
            clear hr3
            go_wp2
            go_roundw
            case rel => exact ⟨m + 1, by omega, by go_num, hWi⟩
            case measure => simp [intOf]; omega
      · have hzr : w.heap.size ≤ wr.heap.size := Nat.le_trans hzw hW.size
        have hWx := Lib.hid (hB5.out.trans (hW.mono hzw))
        have hm2 : ¬ (m : Int) < 2 := by omega
        clear hAll hr3
        go_wp2_with (go_at_call 18; refine (livesW_any _).mono ?_; rintro e w7 ⟨rfl, hb7⟩)
        go_ret
        exact ⟨rfl, hWx.out.trans (hb7.mono hzr)⟩
  · have b1 : decide ((0 : Int) < (P.length : Int)) = false := decide_eq_false (by omega)
    have b2 : decide (0 < P.length) = false := decide_eq_false hE
    go_wp2_with fail
    have hrT := hro2
    have h8s := h8
    have hB3 := hB2.out
    obtain ⟨T, hT⟩ : ∃ T, T = P := ⟨_, rfl⟩
    rw [← hT] at hrT h8s
    have HTl := Lib.hid (show T.length = P.length by rw [hT])
    clear hT hro2 hrow2
    obtain ⟨w3, hw3⟩ : ∃ w3, w3 = w2 := ⟨_, rfl⟩
    rw [← hw3] at hrT hB3 ⊢
    clear hw3
    refine (cF _ hB3).mono ?_
    rintro e w4 ⟨a4, d4, rfl, hd4, hrow4, hb4⟩
    have hz4 := hb4.size
    have hz3w := hB3.size
    have hF4 := rd_own hrow4
    have hF4n := own_none hrow4
    have hT4 := (hrT.below hb4).mono hz4
    have hB4 := Lib.hid (hB3.trans (hb4.mono hz3w))
    clear cF hrow4 hrT hb4
    go_wp2
    have hAll := two_rows (w4 := w4) (t := 24) (d4 := d4) (n2 := P.length) (d2 := c2) hF4 (by omega) hd4 hF4n hf8 hT4 HTl.out (by rw [HTl.out]; omega) hc2 hn2 h8s
    have hB5 := Lib.hid (hB4.out.trans ((new_below w4 (.cells #[.slice a4 fb.length d4, .slice A2 P.length c2] 24)).mono (by omega)))
    have hz5 : w4.heap.size < (w4.alloc (.cells #[.slice a4 fb.length d4, .slice A2 P.length c2] 24)).heap.size := by simp
    obtain ⟨w5, hw5⟩ : ∃ w5, w5 = w4.alloc (.cells #[.slice a4 fb.length d4, .slice A2 P.length c2] 24) := ⟨_, rfl⟩
    rw [← hw5] at hAll hB5 hz5 ⊢
    have hzw : w.heap.size ≤ w5.heap.size := by omega
    clear hw5 hF4 hT4 hF4n hf8 h8s HTl hn2
    go_loopw [13] (fun i wr => ∃ m : Nat, m ≤ 2 ∧ i = .int .i64 m ∧ Below w5.heap.size w5 wr) (fun i _ => 2 - (intOf i).toNat)
    case atStart => exact ⟨0, by omega, rfl, Below.refl _ _⟩
    case round =>
      obtain ⟨m, hm, rfl, hW⟩ := hrel
      by_cases hlt : m < 2
      · obtain ⟨A', n', c', L, hq, hn', hLl, hLc, hA', hL8, hrL⟩ := hAll m hlt
        subst hn'
        have hq1 := (hW.cell (p := ⟨w4.heap.size, m, none⟩) hz5).trans hq
        have hrL1 := (hrL.below hW).mono hW.size
        have hR := dRead_any A' L.length c' L wr rfl (by omega) hLc hA' hrL1
        obtain ⟨wq, rfl⟩ : ∃ wq, wq = wr := ⟨_, rfl⟩
        have hzq := hW.size
        clear hq hrL
        have hmi : (m : Int) < 2 := by omega
        go_wp2_with (go_at_call 20; refine hR.mono ?_; clear hR; rintro e x1 ⟨g1, rfl, hg1, hr1, hb1⟩; have hq2 := (hb1.cell (p := ⟨w4.heap.size, m, none⟩) (show w4.heap.size < wq.heap.size by omega)).trans hq1)
        have hg1l := rdr_lt hr1
        have hzx := hb1.size
        have hR1 : RdrAt (x1.alloc (.cells #[.slice A' L.length c', .int .i64 0] 47)) 77 g1 (nrm ⟨L, 0⟩) := by rw [nrm_ok rfl]; exact rdr_below hr1 (new_below x1 _)
        have hR2 : RdrAt (x1.alloc (.cells #[.slice A' L.length c', .int .i64 0] 47)) 47 x1.heap.size ⟨L, 0⟩ := ⟨A', c', heap_alloc_new x1 _, hLc, hA', ((hrL1.below hb1).mono hzx).below (new_below x1 _)⟩
        have hBx := hW.trans ((hb1.mono hzq).trans ((new_below x1 (.cells #[.slice A' L.length c', .int .i64 0] 47)).mono (by omega)))
        have hgne : g1 ≠ x1.heap.size := by omega
        have hgl1 : w5.heap.size ≤ g1 := by omega
        obtain ⟨g2, hg2⟩ : ∃ g2, g2 = x1.heap.size := ⟨_, rfl⟩
        have hgl2 : w5.heap.size ≤ g2 := by omega
        rw [← hg2] at hR2 hgne ⊢
        generalize x1.alloc (.cells #[.slice A' L.length c', .int .i64 0] 47) = w7 at hR1 hR2 hBx ⊢
        clear hr1 hb1 hq1 hq2 hrL1 hg2 hA' hW
        go_loopw [16, 17] (fun i q wi => ∃ (k : Nat) (s : Rst), k ≤ 10 ∧ i = .int .i64 k ∧ RdrAt wi 77 g1 (nrm s) ∧ RdrAt wi 47 g2 s ∧ Bytes8 s.l ∧ s.l.length ≤ 300000 ∧ Below w5.heap.size w5 wi) (fun i _ _ => 10 - (intOf i).toNat)
        case atStart => exact ⟨0, ⟨L, 0⟩, by omega, rfl, hR1, hR2, hL8, hLl, hBx⟩
        case round =>
          clear hR1 hR2 hBx
          obtain ⟨k, s, hk10, rfl, hr1, hr2, hs8, hsl, hWi⟩ := hrel
          by_cases hkl : k < zk.length
          · by_cases hk9 : k < 10
            · obtain ⟨b, o, rfl, hb, hck0⟩ := hr3.at_ hkl
              have hck := ((hB5.out.trans (hWi.mono hzw)).cell (p := ⟨b, o + k, none⟩) hb).trans hck0
              have hki : I64 (zk[k]?.getD 0) := by rw [List.getElem?_eq_getElem hkl]; exact hk64 _ (List.getElem_mem hkl)
              obtain ⟨q, hq6, hAq⟩ := Around_nat _ 6 hki (by decide) (by decide)
              have hC1 := lReadT_any (q : Int) g1 s wr hr1 hs8 (by omega) ⟨by omega, by omega⟩
              have hC2 := fun W (h : RdrAt W 47 g2 s) => wrRead_any (q : Int) g2 s W h hs8 (by omega) ⟨by omega, by omega⟩
              obtain ⟨hbl, hll⟩ := readR_lens (k := (q : Int)) hs8
              obtain ⟨hsl2, hs82⟩ := readR_bd (k := (q : Int)) hs8
              generalize zk[k]?.getD 0 = zz0 at hck hAq
              generalize readR (q : Int) s = r at hC1 hC2 hbl hll hsl2 hs82
              obtain ⟨x, s2⟩ := r
              simp only at hC1 hC2 hbl hll hsl2 hs82
              have hE1 := fun W (h : RdrAt W 77 g1 (nrm s2)) => rEnd_any g1 s2 W h (by omega)
              have hE2 := fun W (h : RdrAt W 47 g2 s2) => wrEnd_any 47 g2 s2 W h (by omega)
              generalize endR s2 = E at hE1 hE2
              obtain ⟨xk, xu, xn, xb, xl⟩ := x
              simp only at hC1 hC2 hbl hll
              clear hck0 hki
              have hb1 : decide ((k : Int) < (zk.length : Int)) = true := decide_eq_true (by omega)
              have hb2 : decide (k < zk.length) = true := decide_eq_true hkl
              have hb3 : decide ((k : Int) < 10) = true := decide_eq_true (by omega)
              go_wp2_with (first
                | (go_at_call 19; refine (hAq _).mono ?_; clear hAq; rintro e w' ⟨rfl, rfl⟩)
                | (go_at_call 22; refine hC1.mono ?_; clear hC1; rintro e y1 ⟨vb, vl, rfl, ht5, ht6, hr1b, hg1b⟩; have hr2b := rdr_other hr2 hr1 (fun e => hgne e.symm) hg1b; have hBy1 := Lib.hid ((below_of_grown hg1b (Nat.le_of_lt (rdr_lt hr1))).mono hgl1))
                | (go_at_call 23; refine (hC2 _ hr2b).mono ?_; clear hC2; rintro e y2 ⟨vb2, vl2, rfl, hs5, hs6, hr2c, hg2c⟩; have hr1c := rdr_other hr1b hr2b hgne hg2c; have ht5c := rdt_rds (rdt_kept ht5 hg2c (rdr_not hr2b (by decide))); have ht6c := rdt_rds (rdt_kept ht6 hg2c (rdr_not hr2b (by decide))); have hBy2 := Lib.hid ((below_of_grown hg2c (Nat.le_of_lt (rdr_lt hr2b))).mono hgl2))
                | (go_at_call 21; refine (wSame_self ⟨xk, xu, xn, xb, xl⟩ vb vl vb2 vl2 y2 (by simp only; omega) (by simp only; omega) ht5c ht6c hs5 hs6).mono ?_; rintro e y3 ⟨rfl, hb3y⟩; have hr1d := rdr_below hr1c hb3y; have hr2d := rdr_below hr2c hb3y; have hBy3 := Lib.hid (hb3y.mono (Nat.le_trans (Nat.le_trans hWi.size hBy1.out.size) hBy2.out.size)))
                | (go_at_call 24; refine (hE1 _ hr1d).mono ?_; clear hE1; rintro e w' ⟨rfl, rfl⟩)
                | (go_at_call 25; refine (hE2 _ hr2d).mono ?_; clear hE2; rintro e w' ⟨rfl, rfl⟩))
              go_roundw
              case rel => exact ⟨k + 1, s2, by omega, by go_num, hr1d, hr2d, hs82, by omega, ((hWi.trans hBy1.out).trans hBy2.out).trans hBy3.out⟩
              case measure => simp [intOf]; omega
            · have hb1 : decide ((k : Int) < (zk.length : Int)) = true := decide_eq_true (by omega)
              have hb2 : decide (k < zk.length) = true := decide_eq_true hkl
              have hb3 : decide ((k : Int) < 10) = false := decide_eq_false (by omega)
              clear hr3
              go_wp2
              go_roundw
              case rel => exact ⟨m + 1, by omega, by go_num, hWi⟩
              case measure => simp [intOf]; omega
          · have hb1 : decide ((k : Int) < (zk.length : Int)) = false := decide_eq_false (by omega)
            have hb2 : decide (k < zk.length) = false := decide_eq_false hkl
            clear hr3
            go_wp2
            go_roundw
            case rel => exact ⟨m + 1, by omega, by go_num, hWi⟩
            case measure => simp [intOf]; omega
      · have hzr : w.heap.size ≤ wr.heap.size := Nat.le_trans hzw hW.size
        have hWx := Lib.hid (hB5.out.trans (hW.mono hzw))
        have hm2 : ¬ (m : Int) < 2 := by omega
        clear hAll hr3
        go_wp2_with (go_at_call 18; refine (livesW_any _).mono ?_; rintro e w7 ⟨rfl, hb7⟩)
        go_ret
        exact ⟨rfl, hWx.out.trans (hb7.mono hzr)⟩
end Go.Proofs.Ytebfgdonikedaaa
