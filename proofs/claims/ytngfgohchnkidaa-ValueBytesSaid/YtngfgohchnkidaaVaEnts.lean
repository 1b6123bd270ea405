/-
  THE WALK of the program's areEntries; Valid of every value. Written by gen/genvents.py.
-/
import Derived.Test.YtngfgohchnkidaaVaValid
import Derived.BigQuiet
namespace Go.Proofs.Ytngfgohchnkidaa
open Go.RowKit

theorem below_dnv {n N : Nat} {w w' : World} (h : Below n w w') : Below n w (w'.drewN N) := ⟨h.os, h.tape, h.output, h.size, h.block⟩
def e0 : En := ⟨0, 0, .empty⟩
def elOk (k n : Int) (x : En) : Bool := if k = 3 then stOk n x.u x.s.size 0 else bvOk n x.u x.s.size 0
def en1 (k n ix : Int) (x : En) : Bool := !decide (grI ix < x.i) && !(x.u == 0 && x.s.size == 0) && elOk k n x
def ordAt (l : List En) (j : Nat) : Bool := j == 0 || decide ((l.getD (j - 1) e0).i < (l.getD j e0).i)
def okAt (k n ix : Int) (l : List En) (j : Nat) : Bool := ordAt l j && en1 k n ix (l.getD j e0)
/-- an array's entries fit its sort -/
def entsOk (k n ix : Int) (l : List En) : Bool := (List.range l.length).all (okAt k n ix l)
theorem all_snoc {p : Nat → Bool} {j : Nat} (h : (List.range j).all p = true) (hj : p j = true) : (List.range (j + 1)).all p = true := by
  rw [List.range_succ, List.all_append, h]
  simp [hj]
theorem all_fails {p : Nat → Bool} {j n : Nat} (hj : j < n) (h : p j = false) : (List.range n).all p = false := by
  rw [List.all_eq_false]
  exact ⟨j, List.mem_range.2 hj, by rw [h]; decide⟩
theorem EnL.prev {w : World} {S : Nat → Prop} {l : List En} {b o : Nat} (h : EnL w S l (some ⟨b, o, none⟩)) {j : Nat} (hj : j < l.length) : S b ∧ At3 w b (o + j * 3) l[j] := by
  obtain ⟨b', o', e, hb, h3⟩ := h.get hj
  cases e
  exact ⟨hb, h3⟩
theorem sort_el {k n ix : Int} (hk : k = 2 ∨ k = 3) (h : sortOk k n ix = true) : sortOk (if k = 3 then 1 else 0) n 0 = true ∧ 0 ≤ ix ∧ ix ≤ 64 := by
  rcases hk with rfl | rfl
  · simp [sortOk] at h ⊢; omega
  · simp [sortOk] at h ⊢; omega
theorem vElem_any (k n ix u : Int) (s : ByteArray) (w : World) (hk : k = 2 ∨ k = 3) (h : sortOk k n ix = true) (x : En) (hx : x.u = u ∧ x.s = s) : Calls Try.prog 13 #[vav (if k = 3 then 1 else 0) n 0 u s none 0 0] w fun e w' => e = .returned (.int .i64 (if elOk k n x then 0 else 1)) ∧ Below w.heap.size w w' := by
  obtain ⟨rfl, rfl⟩ := hx
  have h2 := (sort_el hk h).1
  unfold elOk
  rcases hk with rfl | rfl
  · exact vValid0_any n 0 x.u x.s none 0 0 w h2
  · exact vValid1_any n 0 x.u x.s none 0 0 w h2

set_option maxHeartbeats 2000000 in
set_option maxRecDepth 100000 in
theorem vareEntries_any (k n ix : Int) (l : List En) (A : Option Addr) (c : Nat) (w : World) (hk : k = 2 ∨ k = 3) (hok : sortOk k n ix = true) (hl : EnL w (LoV w.heap.size) l A) (hlen : l.length ≤ 100000) :
    Calls Try.prog 43 #[.slice A l.length c, .agg #[.int .i64 k, .int .i64 n, .int .i64 ix]] w fun e w' => e = .returned (.bool (entsOk k n ix l)) ∧ Below w.heap.size w w' := by
  obtain ⟨R, hR⟩ : ∃ R, R = entsOk k n ix l := ⟨_, rfl⟩
  rw [← hR]
  have HR := Lib.hid hR
  have HG := Lib.hid fun W => vgreatest_any ix W (sort_el hk hok).2
  have HM := Lib.hid fun (x : En) W => visEmpty_any x W
  have HE := Lib.hid fun (x : En) W => velement_any x k n ix W
  have HV := Lib.hid fun (x : En) W => vElem_any k n ix x.u x.s W hk hok x ⟨rfl, rfl⟩
  obtain ⟨kk, hkk⟩ : ∃ kk : Int, kk = if k = 3 then 1 else 0 := ⟨_, rfl⟩
  rw [← hkk] at HE HV
  clear hR hkk hok hk
  have HL := Lib.hid hl
  clear hl
  go_enter Try.func43, Try.ntmps43
  go_wp2_with fail
  have hb0 := heap_alloc_new w (.cells #[.int .i64 k, .int .i64 n, .int .i64 ix] 26)
  have hBw := (Below.refl w.heap.size w).alloc (Nat.le_refl _) (.cells #[.int .i64 k, .int .i64 n, .int .i64 ix] 26)
  have hsw : (w.alloc (.cells #[.int .i64 k, .int .i64 n, .int .i64 ix] 26)).heap.size = w.heap.size + 1 := by simp
  generalize w.alloc (.cells #[.int .i64 k, .int .i64 n, .int .i64 ix] 26) = wz at *
  go_loopw [10] (fun u wr => ∃ j : Nat, j ≤ l.length ∧ u = .int .i64 (j : Int) ∧ Hid ((List.range j).all (okAt k n ix l) = true) ∧ Below wz.heap.size wz wr) (fun u _ => l.length - (intOf u).toNat)
  case atStart => exact ⟨0, Nat.zero_le _, rfl, Lib.hid rfl, Below.refl _ _⟩
  case round =>
    obtain ⟨j, hj, rfl, hall, hW⟩ := hrel
    obtain ⟨wo, rfl⟩ : ∃ wo, wo = wr := ⟨_, rfl⟩
    have hso := hW.size
    have hBo := hBw.trans (hW.mono (by omega))
    by_cases hlt : j < l.length
    · obtain ⟨bl, o, rfl, hbl, h3⟩ := HL.out.get hlt
      have hbl' : bl < w.heap.size := hbl
      obtain ⟨x, hx⟩ : ∃ x, x = l[j] := ⟨_, rfl⟩
      have hgx : l.getD j e0 = x := by rw [hx, List.getD_eq_getElem?_getD, List.getElem?_eq_getElem hlt]; rfl
      rw [← hx] at h3
      have hOk := Lib.hid (show okAt k n ix l j = (ordAt l j && en1 k n ix x) by unfold okAt; rw [hgx])
      obtain ⟨c0, c1, c2⟩ := h3.to (hBo.block bl hbl')
      have hj2 : (j : Int) < (l.length : Int) := by omega
      have hj0 : (0 : Int) ≤ (j : Int) := by omega
      have hb := hW.block w.heap.size (by omega)
      have hbx := Lib.hid (hb.trans hb0)
      have hXn := heap_alloc_new wo (.cells #[.int .u64 x.i, .int .u64 x.u, .string x.s] 85)
      have hBx := hBo.alloc (by omega) (.cells #[.int .u64 x.i, .int .u64 x.u, .string x.s] 85)
      have hBx0 : Below wo.heap.size wo (wo.alloc (.cells #[.int .u64 x.i, .int .u64 x.u, .string x.s] 85)) := (Below.refl _ _).alloc (Nat.le_refl _) _
      have hsx : (wo.alloc (.cells #[.int .u64 x.i, .int .u64 x.u, .string x.s] 85)).heap.size = wo.heap.size + 1 := by simp
      obtain ⟨X, hX⟩ : ∃ X, X = wo.heap.size := ⟨_, rfl⟩
      have hNext := Lib.hid fun (h : okAt k n ix l j = true) => all_snoc hall.out h
      have hFail := Lib.hid fun (h : okAt k n ix l j = false) => (show R = false from by rw [HR.out]; exact all_fails hlt h)
      have hGr := Lib.hid (HG.out)
      clear hb hall h3
      replace hgx := Lib.hid hgx
      replace hx := Lib.hid hx
      replace hXn := Lib.hid hXn
      replace hsx := Lib.hid hsx
      replace hX := Lib.hid hX
      by_cases hz : j = 0
      · have hzj : ((j : Int) == 0) = true := by rw [hz]; rfl
        have hord : ordAt l j = true := by rw [hz]; rfl
        clear hz
        go_wp2_with fail
        clear c0 c1 c2
        go_quiet (fail)
        go_wp2_with fail
        replace hX := hX.out
        replace hsx := hsx.out
        replace hXn := hXn.out
        generalize hwd : (wo.alloc (.cells #[.int .u64 x.i, .int .u64 x.u, .string x.s] 85)).drewN nq = wd at *
        rw [← hX] at hsx hXn
        try rw [← hX]
        have hswd : X + 1 = wd.heap.size := by rw [← hwd]; exact hsx.symm
        have hBwd : Below w.heap.size w wd := hwd ▸ below_dnv (hBx)
        have hBd0 : Below wz.heap.size wz wd := hwd ▸ below_dnv (hW.alloc (by omega) (.cells #[.int .u64 x.i, .int .u64 x.u, .string x.s] 85))
        have hXd : wd.heap[X]? = some (.cells #[.int .u64 x.i, .int .u64 x.u, .string x.s] 85 (0, 0)) := hwd ▸ hXn
        have hbd : wd.heap[w.heap.size]? = some (.cells #[.int .i64 k, .int .i64 n, .int .i64 ix] 26 (0, 0)) := hwd ▸ ((hBx0.block _ (by omega)).trans hbx.out)
        have hwX : w.heap.size < X := by omega
        have HS := Lib.hid fun W (hWW : Below (X + 1) wd W) => (show W.cell? ⟨X, 0, none⟩ = some (.int .u64 x.i) ∧ W.cell? ⟨X, 1, none⟩ = some (.int .u64 x.u) ∧ W.cell? ⟨X, 2, none⟩ = some (.string x.s) ∧ W.cell? ⟨w.heap.size, 0, none⟩ = some (.int .i64 k) ∧ W.cell? ⟨w.heap.size, 1, none⟩ = some (.int .i64 n) ∧ W.cell? ⟨w.heap.size, 2, none⟩ = some (.int .i64 ix) from by
          obtain ⟨a0, a1, a2⟩ := three ((hWW.block X (by omega)).trans hXd)
          obtain ⟨d0, d1, d2⟩ := three ((hWW.block w.heap.size (by omega)).trans hbd)
          exact ⟨a0, a1, a2, d0, d1, d2⟩)
        have hzX : wz.heap.size ≤ X + 1 := by omega
        replace hswd := Lib.hid hswd
        clear hwd hXd hbd hBx hBx0 hXn hbx hX hsx hgx hx
        by_cases hc2 : grI ix < x.i
        · have hd2 : decide (grI ix < x.i) = true := decide_eq_true hc2
          have hRf := Lib.hid (hFail.out (by rw [hOk.out, hord]; unfold en1; rw [hd2]; rfl))
          obtain ⟨x0, x1, x2, s0, s1, s2⟩ := HS.out _ (Below.refl _ _)
          go_quiet (first | (go_at_call 42; refine Calls.quiet_of_same (HG.out _)))
          go_wp2_with fail
          go_ret
          exact ⟨congrArg (fun b => Ending.returned (.bool b)) hRf.out.symm, below_dnv hBwd⟩
        · have hd2 : decide (grI ix < x.i) = false := decide_eq_false hc2
          have HM0 := Lib.hid (HM.out x)
          unfold En.val at HM0
          by_cases hem : (x.u == 0 && x.s.size == 0) = true
          · rw [hem] at HM0
            have hRf := Lib.hid (hFail.out (by rw [hOk.out, hord]; unfold en1; rw [hd2, hem]; rfl))
            have hdd : Below (X + 1) wd wd.drew := (Below.refl _ _).drew
            obtain ⟨x0, x1, x2, s0, s1, s2⟩ := HS.out _ hdd
            have hBd := Lib.hid (hBwd.trans (hdd.mono (by omega)))
            clear hem hc2
            first | (go_region_law (first | (go_simp; go_at_call 42; refine Calls.mono (HG.out _) ?_; rintro e wg ⟨rfl, rfl⟩) | (go_simp; go_at_call 69; refine Calls.mono (HM0.out _) ?_; rintro e wm ⟨rfl, hwm⟩) | fail)) | fail
            all_goals (go_wp2_with fail; go_ret; exact ⟨congrArg (fun b => Ending.returned (.bool b)) hRf.out.symm, hBd.out.trans (hwm.mono (by have := hswd.out; simp; omega))⟩)
          · have hem2 : (x.u == 0 && x.s.size == 0) = false := by simpa using hem
            rw [hem2] at HM0
            have HE0 := Lib.hid (HE.out x)
            have HV0 := Lib.hid (HV.out x)
            unfold En.val at HE0
            unfold vav at HV0
            by_cases hel : elOk k n x = true
            · rw [if_pos hel] at HV0
              have hNx := Lib.hid (hNext.out (by rw [hOk.out, hord]; unfold en1; rw [hd2, hem2, hel]; rfl))
              have hdd : Below (X + 1) wd wd.drew := (Below.refl _ _).drew
              clear hem hem2 hc2
              go_region_held3 (fun W => W.cell? ⟨X, 0, none⟩ = some (.int .u64 x.i) ∧ W.cell? ⟨X, 1, none⟩ = some (.int .u64 x.u) ∧ W.cell? ⟨X, 2, none⟩ = some (.string x.s) ∧ W.cell? ⟨w.heap.size, 0, none⟩ = some (.int .i64 k) ∧ W.cell? ⟨w.heap.size, 1, none⟩ = some (.int .i64 n) ∧ W.cell? ⟨w.heap.size, 2, none⟩ = some (.int .i64 ix))
                (first | with_reducible exact HS.out _ hdd | with_reducible exact HS.out _ hm1 | with_reducible exact HS.out _ hm2 | with_reducible exact HS.out _ hm3)
                (first | (go_at_call 42; (with_reducible refine Calls.mono (HG.out _) ?_); rintro e wg ⟨rfl, rfl⟩) | (go_at_call 69; (with_reducible refine Calls.mono (HM0.out _) ?_); rintro e wm ⟨rfl, hwm⟩; have hm1 : Below (X + 1) wd wm := hdd.trans (hwm.mono (by have := hswd.out; simp; omega)); have hE1 := HE0.out wm) | (go_at_call 65; (with_reducible refine Calls.mono hE1 ?_); rintro e wn ⟨rfl, hwn⟩; have hm2 : Below (X + 1) wd wn := hm1.trans (hwn.mono (by have := hm1.size; have := hswd.out; omega)); have hV1 := HV0.out wn; simp only [vav]) | (go_at_call 13; (with_reducible refine Calls.mono hV1 ?_); rintro e wp ⟨rfl, hwp⟩; have hm3 : Below (X + 1) wd wp := hm2.trans (hwp.mono (by have := hm2.size; have := hswd.out; omega))))
              have hB9 := hBd0.trans (hm3.mono (by omega))
              go_wp2_with fail
              go_roundw
              case rel => exact ⟨j + 1, by omega, by go_num, hNx, hB9⟩
              case measure => simp [intOf]; omega
            · have hel2 : elOk k n x = false := by simpa using hel
              rw [if_neg hel] at HV0
              have hRf := Lib.hid (hFail.out (by rw [hOk.out, hord]; unfold en1; rw [hd2, hem2, hel2]; rfl))
              have hdd : Below (X + 1) wd wd.drew := (Below.refl _ _).drew
              clear hem hem2 hc2
              go_region_held3 (fun W => W.cell? ⟨X, 0, none⟩ = some (.int .u64 x.i) ∧ W.cell? ⟨X, 1, none⟩ = some (.int .u64 x.u) ∧ W.cell? ⟨X, 2, none⟩ = some (.string x.s) ∧ W.cell? ⟨w.heap.size, 0, none⟩ = some (.int .i64 k) ∧ W.cell? ⟨w.heap.size, 1, none⟩ = some (.int .i64 n) ∧ W.cell? ⟨w.heap.size, 2, none⟩ = some (.int .i64 ix))
                (first | with_reducible exact HS.out _ hdd | with_reducible exact HS.out _ hm1 | with_reducible exact HS.out _ hm2 | with_reducible exact HS.out _ hm3)
                (first | (go_at_call 42; (with_reducible refine Calls.mono (HG.out _) ?_); rintro e wg ⟨rfl, rfl⟩) | (go_at_call 69; (with_reducible refine Calls.mono (HM0.out _) ?_); rintro e wm ⟨rfl, hwm⟩; have hm1 : Below (X + 1) wd wm := hdd.trans (hwm.mono (by have := hswd.out; simp; omega)); have hE1 := HE0.out wm) | (go_at_call 65; (with_reducible refine Calls.mono hE1 ?_); rintro e wn ⟨rfl, hwn⟩; have hm2 : Below (X + 1) wd wn := hm1.trans (hwn.mono (by have := hm1.size; have := hswd.out; omega)); have hV1 := HV0.out wn; simp only [vav]) | (go_at_call 13; (with_reducible refine Calls.mono hV1 ?_); rintro e wp ⟨rfl, hwp⟩; have hm3 : Below (X + 1) wd wp := hm2.trans (hwp.mono (by have := hm2.size; have := hswd.out; omega))))
              have hB9 := hBwd.trans (hm3.mono (by omega))
              go_wp2_with fail
              go_ret
              exact ⟨congrArg (fun b => Ending.returned (.bool b)) hRf.out.symm, hB9⟩
      · have hzj : ((j : Int) == 0) = false := by simpa using hz
        obtain ⟨m, hm⟩ : ∃ m, j = m + 1 := ⟨j - 1, by omega⟩
        have hm1 : m < l.length := by omega
        obtain ⟨_, h3p⟩ := HL.out.prev hm1
        obtain ⟨y, hy⟩ : ∃ y, y = l[m] := ⟨_, rfl⟩
        rw [← hy] at h3p
        have hgy : l.getD (j - 1) e0 = y := by rw [hm, Nat.add_sub_cancel, hy, List.getD_eq_getElem?_getD, List.getElem?_eq_getElem hm1]; rfl
        have hordv : ordAt l j = decide (y.i < x.i) := by unfold ordAt; rw [hgy, hgx.out, show (j == 0) = false by simpa using hz]; rfl
        have c0p := (h3p.to ((hBx0.block bl (by omega)).trans (hBo.block bl hbl'))).1
        have x0a := (three hXn.out).1
        have q6 : IntKind.i64.wrap ((j : Int) - 1) = (m : Int) := by rw [show (j : Int) - 1 = (m : Int) by omega]; exact IntWalk.i64_in _ (by omega)
        have q3 : (0 : Int) ≤ (m : Int) := by omega
        have q4 : (m : Int) < (l.length : Int) := by omega
        obtain ⟨yi, hyi⟩ : ∃ yi, yi = y.i := ⟨_, rfl⟩
        rw [← hyi] at hordv c0p
        clear h3p hy hyi hgy hm hz
        have HS4 := Lib.hid fun (W : World) (h1 : W.heap[bl]? = (wo.alloc (.cells #[.int .u64 x.i, .int .u64 x.u, .string x.s] 85)).heap[bl]?) (h2 : W.heap[X]? = (wo.alloc (.cells #[.int .u64 x.i, .int .u64 x.u, .string x.s] 85)).heap[X]?) => (show W.cell? ⟨bl, o + m * 3, none⟩ = some (.int .u64 yi) ∧ W.cell? ⟨X, 0, none⟩ = some (.int .u64 x.i) from ⟨(World.cell?_of_block h1).trans c0p, by rw [hX.out] at h2 ⊢; exact (World.cell?_of_block h2).trans x0a⟩)
        clear c0p x0a
        by_cases hlo : yi < x.i
        · have hld : decide (yi < x.i) = true := decide_eq_true hlo
          have hord : ordAt l j = true := hordv.trans hld
          clear hlo hordv
          go_wp2_with fail
          rw [← hX.out]
          clear c0 c1 c2
          go_region_held3 (fun W => W.cell? ⟨bl, o + m * 3, none⟩ = some (.int .u64 yi) ∧ W.cell? ⟨X, 0, none⟩ = some (.int .u64 x.i))
            (first | with_reducible exact HS4.out _ rfl rfl)
            (fail)
          go_wp2_with fail
          replace hX := hX.out
          replace hsx := hsx.out
          replace hXn := hXn.out
          generalize hwd : (wo.alloc (.cells #[.int .u64 x.i, .int .u64 x.u, .string x.s] 85)).drew = wd at *
          rw [← hX] at hsx hXn
          try rw [← hX]
          have hswd : X + 1 = wd.heap.size := by rw [← hwd]; exact hsx.symm
          have hBwd : Below w.heap.size w wd := hwd ▸ (hBx).drew
          have hBd0 : Below wz.heap.size wz wd := hwd ▸ (hW.alloc (by omega) (.cells #[.int .u64 x.i, .int .u64 x.u, .string x.s] 85)).drew
          have hXd : wd.heap[X]? = some (.cells #[.int .u64 x.i, .int .u64 x.u, .string x.s] 85 (0, 0)) := hwd ▸ hXn
          have hbd : wd.heap[w.heap.size]? = some (.cells #[.int .i64 k, .int .i64 n, .int .i64 ix] 26 (0, 0)) := hwd ▸ ((hBx0.block _ (by omega)).trans hbx.out)
          have hwX : w.heap.size < X := by omega
          have HS := Lib.hid fun W (hWW : Below (X + 1) wd W) => (show W.cell? ⟨X, 0, none⟩ = some (.int .u64 x.i) ∧ W.cell? ⟨X, 1, none⟩ = some (.int .u64 x.u) ∧ W.cell? ⟨X, 2, none⟩ = some (.string x.s) ∧ W.cell? ⟨w.heap.size, 0, none⟩ = some (.int .i64 k) ∧ W.cell? ⟨w.heap.size, 1, none⟩ = some (.int .i64 n) ∧ W.cell? ⟨w.heap.size, 2, none⟩ = some (.int .i64 ix) from by
            obtain ⟨a0, a1, a2⟩ := three ((hWW.block X (by omega)).trans hXd)
            obtain ⟨d0, d1, d2⟩ := three ((hWW.block w.heap.size (by omega)).trans hbd)
            exact ⟨a0, a1, a2, d0, d1, d2⟩)
          have hzX : wz.heap.size ≤ X + 1 := by omega
          replace hswd := Lib.hid hswd
          clear hwd hXd hbd hBx hBx0 hXn hbx hX hsx hgx hx
          clear HS4 hld
          by_cases hc2 : grI ix < x.i
          · have hd2 : decide (grI ix < x.i) = true := decide_eq_true hc2
            have hRf := Lib.hid (hFail.out (by rw [hOk.out, hord]; unfold en1; rw [hd2]; rfl))
            obtain ⟨x0, x1, x2, s0, s1, s2⟩ := HS.out _ (Below.refl _ _)
            go_quiet (first | (go_at_call 42; refine Calls.quiet_of_same (HG.out _)))
            go_wp2_with fail
            go_ret
            exact ⟨congrArg (fun b => Ending.returned (.bool b)) hRf.out.symm, below_dnv hBwd⟩
          · have hd2 : decide (grI ix < x.i) = false := decide_eq_false hc2
            have HM0 := Lib.hid (HM.out x)
            unfold En.val at HM0
            by_cases hem : (x.u == 0 && x.s.size == 0) = true
            · rw [hem] at HM0
              have hRf := Lib.hid (hFail.out (by rw [hOk.out, hord]; unfold en1; rw [hd2, hem]; rfl))
              have hdd : Below (X + 1) wd wd.drew := (Below.refl _ _).drew
              obtain ⟨x0, x1, x2, s0, s1, s2⟩ := HS.out _ hdd
              have hBd := Lib.hid (hBwd.trans (hdd.mono (by omega)))
              clear hem hc2
              first | (go_region_law (first | (go_simp; go_at_call 42; refine Calls.mono (HG.out _) ?_; rintro e wg ⟨rfl, rfl⟩) | (go_simp; go_at_call 69; refine Calls.mono (HM0.out _) ?_; rintro e wm ⟨rfl, hwm⟩) | fail)) | fail
              all_goals (go_wp2_with fail; go_ret; exact ⟨congrArg (fun b => Ending.returned (.bool b)) hRf.out.symm, hBd.out.trans (hwm.mono (by have := hswd.out; simp; omega))⟩)
            · have hem2 : (x.u == 0 && x.s.size == 0) = false := by simpa using hem
              rw [hem2] at HM0
              have HE0 := Lib.hid (HE.out x)
              have HV0 := Lib.hid (HV.out x)
              unfold En.val at HE0
              unfold vav at HV0
              by_cases hel : elOk k n x = true
              · rw [if_pos hel] at HV0
                have hNx := Lib.hid (hNext.out (by rw [hOk.out, hord]; unfold en1; rw [hd2, hem2, hel]; rfl))
                have hdd : Below (X + 1) wd wd.drew := (Below.refl _ _).drew
                clear hem hem2 hc2
                go_region_held3 (fun W => W.cell? ⟨X, 0, none⟩ = some (.int .u64 x.i) ∧ W.cell? ⟨X, 1, none⟩ = some (.int .u64 x.u) ∧ W.cell? ⟨X, 2, none⟩ = some (.string x.s) ∧ W.cell? ⟨w.heap.size, 0, none⟩ = some (.int .i64 k) ∧ W.cell? ⟨w.heap.size, 1, none⟩ = some (.int .i64 n) ∧ W.cell? ⟨w.heap.size, 2, none⟩ = some (.int .i64 ix))
                  (first | with_reducible exact HS.out _ hdd | with_reducible exact HS.out _ hm1 | with_reducible exact HS.out _ hm2 | with_reducible exact HS.out _ hm3)
                  (first | (go_at_call 42; (with_reducible refine Calls.mono (HG.out _) ?_); rintro e wg ⟨rfl, rfl⟩) | (go_at_call 69; (with_reducible refine Calls.mono (HM0.out _) ?_); rintro e wm ⟨rfl, hwm⟩; have hm1 : Below (X + 1) wd wm := hdd.trans (hwm.mono (by have := hswd.out; simp; omega)); have hE1 := HE0.out wm) | (go_at_call 65; (with_reducible refine Calls.mono hE1 ?_); rintro e wn ⟨rfl, hwn⟩; have hm2 : Below (X + 1) wd wn := hm1.trans (hwn.mono (by have := hm1.size; have := hswd.out; omega)); have hV1 := HV0.out wn; simp only [vav]) | (go_at_call 13; (with_reducible refine Calls.mono hV1 ?_); rintro e wp ⟨rfl, hwp⟩; have hm3 : Below (X + 1) wd wp := hm2.trans (hwp.mono (by have := hm2.size; have := hswd.out; omega))))
                have hB9 := hBd0.trans (hm3.mono (by omega))
                go_wp2_with fail
                go_roundw
                case rel => exact ⟨j + 1, by omega, by go_num, hNx, hB9⟩
                case measure => simp [intOf]; omega
              · have hel2 : elOk k n x = false := by simpa using hel
                rw [if_neg hel] at HV0
                have hRf := Lib.hid (hFail.out (by rw [hOk.out, hord]; unfold en1; rw [hd2, hem2, hel2]; rfl))
                have hdd : Below (X + 1) wd wd.drew := (Below.refl _ _).drew
                clear hem hem2 hc2
                go_region_held3 (fun W => W.cell? ⟨X, 0, none⟩ = some (.int .u64 x.i) ∧ W.cell? ⟨X, 1, none⟩ = some (.int .u64 x.u) ∧ W.cell? ⟨X, 2, none⟩ = some (.string x.s) ∧ W.cell? ⟨w.heap.size, 0, none⟩ = some (.int .i64 k) ∧ W.cell? ⟨w.heap.size, 1, none⟩ = some (.int .i64 n) ∧ W.cell? ⟨w.heap.size, 2, none⟩ = some (.int .i64 ix))
                  (first | with_reducible exact HS.out _ hdd | with_reducible exact HS.out _ hm1 | with_reducible exact HS.out _ hm2 | with_reducible exact HS.out _ hm3)
                  (first | (go_at_call 42; (with_reducible refine Calls.mono (HG.out _) ?_); rintro e wg ⟨rfl, rfl⟩) | (go_at_call 69; (with_reducible refine Calls.mono (HM0.out _) ?_); rintro e wm ⟨rfl, hwm⟩; have hm1 : Below (X + 1) wd wm := hdd.trans (hwm.mono (by have := hswd.out; simp; omega)); have hE1 := HE0.out wm) | (go_at_call 65; (with_reducible refine Calls.mono hE1 ?_); rintro e wn ⟨rfl, hwn⟩; have hm2 : Below (X + 1) wd wn := hm1.trans (hwn.mono (by have := hm1.size; have := hswd.out; omega)); have hV1 := HV0.out wn; simp only [vav]) | (go_at_call 13; (with_reducible refine Calls.mono hV1 ?_); rintro e wp ⟨rfl, hwp⟩; have hm3 : Below (X + 1) wd wp := hm2.trans (hwp.mono (by have := hm2.size; have := hswd.out; omega))))
                have hB9 := hBwd.trans (hm3.mono (by omega))
                go_wp2_with fail
                go_ret
                exact ⟨congrArg (fun b => Ending.returned (.bool b)) hRf.out.symm, hB9⟩
        · have hld : decide (yi < x.i) = false := decide_eq_false hlo
          have hord : ordAt l j = false := hordv.trans hld
          clear hlo hordv
          go_wp2_with fail
          rw [← hX.out]
          clear c0 c1 c2
          go_region_held3 (fun W => W.cell? ⟨bl, o + m * 3, none⟩ = some (.int .u64 yi) ∧ W.cell? ⟨X, 0, none⟩ = some (.int .u64 x.i))
            (first | with_reducible exact HS4.out _ rfl rfl)
            (fail)
          go_wp2_with fail
          replace hX := hX.out
          replace hsx := hsx.out
          replace hXn := hXn.out
          generalize hwd : (wo.alloc (.cells #[.int .u64 x.i, .int .u64 x.u, .string x.s] 85)).drew = wd at *
          rw [← hX] at hsx hXn
          try rw [← hX]
          have hswd : X + 1 = wd.heap.size := by rw [← hwd]; exact hsx.symm
          have hBwd : Below w.heap.size w wd := hwd ▸ (hBx).drew
          have hBd0 : Below wz.heap.size wz wd := hwd ▸ (hW.alloc (by omega) (.cells #[.int .u64 x.i, .int .u64 x.u, .string x.s] 85)).drew
          have hXd : wd.heap[X]? = some (.cells #[.int .u64 x.i, .int .u64 x.u, .string x.s] 85 (0, 0)) := hwd ▸ hXn
          have hbd : wd.heap[w.heap.size]? = some (.cells #[.int .i64 k, .int .i64 n, .int .i64 ix] 26 (0, 0)) := hwd ▸ ((hBx0.block _ (by omega)).trans hbx.out)
          have hwX : w.heap.size < X := by omega
          have HS := Lib.hid fun W (hWW : Below (X + 1) wd W) => (show W.cell? ⟨X, 0, none⟩ = some (.int .u64 x.i) ∧ W.cell? ⟨X, 1, none⟩ = some (.int .u64 x.u) ∧ W.cell? ⟨X, 2, none⟩ = some (.string x.s) ∧ W.cell? ⟨w.heap.size, 0, none⟩ = some (.int .i64 k) ∧ W.cell? ⟨w.heap.size, 1, none⟩ = some (.int .i64 n) ∧ W.cell? ⟨w.heap.size, 2, none⟩ = some (.int .i64 ix) from by
            obtain ⟨a0, a1, a2⟩ := three ((hWW.block X (by omega)).trans hXd)
            obtain ⟨d0, d1, d2⟩ := three ((hWW.block w.heap.size (by omega)).trans hbd)
            exact ⟨a0, a1, a2, d0, d1, d2⟩)
          have hzX : wz.heap.size ≤ X + 1 := by omega
          replace hswd := Lib.hid hswd
          clear hwd hXd hbd hBx hBx0 hXn hbx hX hsx hgx hx
          clear HS4 hld
          have hRf := Lib.hid (hFail.out (by rw [hOk.out, hord]; rfl))
          obtain ⟨x0, x1, x2, s0, s1, s2⟩ := HS.out _ (Below.refl _ _)
          go_quiet (fail)
          go_wp2_with fail
          go_ret
          exact ⟨congrArg (fun b => Ending.returned (.bool b)) hRf.out.symm, below_dnv hBwd⟩
    · have hjl : j = l.length := by omega
      have hRt := Lib.hid (show R = true from by rw [HR.out]; unfold entsOk; rw [← hjl]; exact hall.out)
      have hju : ¬ ((j : Int) < (l.length : Int)) := by omega
      go_wp2_with fail
      go_ret
      exact ⟨congrArg (fun b => Ending.returned (.bool b)) hRt.out.symm, hBo⟩

/-- what is said of a value: 0, 1 or 9 -/
def valOk (x : Va) : Bool := if x.k = 0 then bvOk x.n x.u x.s.size x.m.length else if x.k = 1 then stOk x.n x.u x.s.size x.m.length else x.u == 0 && x.s.size == 0 && entsOk x.k x.n x.ix x.m
def valE (x : Va) : Int := if sortOk x.k x.n x.ix then (if valOk x then 0 else 1) else 9
theorem sort_kind {k n ix : Int} (h : sortOk k n ix = true) : k = 0 ∨ k = 1 ∨ k = 2 ∨ k = 3 := by
  unfold sortOk at h
  by_cases h0 : k = 0
  · exact .inl h0
  · by_cases h1 : k = 1
    · exact .inr (.inl h1)
    · by_cases h2 : k = 2
      · exact .inr (.inr (.inl h2))
      · by_cases h3 : k = 3
        · exact .inr (.inr (.inr h3))
        · rw [if_neg h0, if_neg h1, if_neg h2, if_neg h3] at h; cases h
theorem vValid_any (x : Va) (v : Value) (w : World) (hv : VaV w (LoV w.heap.size) x v) : Calls Try.prog 13 #[v] w fun e w' => e = .returned (.int .i64 (valE x)) ∧ Below w.heap.size w w' := by
  obtain ⟨⟨_, _, _, _, hml⟩, A, c, rfl, hc, hA, hl⟩ := hv
  obtain ⟨k, n, ix, u, s, m⟩ := x
  simp only [valE, valOk] at hc hl hml ⊢
  cases hok : sortOk k n ix
  · simp only [Bool.false_eq_true, if_false]
    exact vValid9_any k n ix u s A m.length c w hok
  · simp only [if_true]
    obtain h | h | h := (show k = 0 ∨ k = 1 ∨ (k = 2 ∨ k = 3) from by have := sort_kind hok; omega)
    · subst h
      simp only [if_true]
      exact vValid0_any n ix u s A m.length c w hok
    · subst h
      simp only [show ¬ ((1 : Int) = 0) by decide, if_false, if_true]
      exact vValid1_any n ix u s A m.length c w hok
    · rw [if_neg (show ¬ k = 0 by omega), if_neg (show ¬ k = 1 by omega)]
      exact vValidA_any k n ix u s A m.length c w _ h hok (Lib.hid fun W hW => vareEntries_any k n ix m A c W h hok (hl.call hW) hml)
end Go.Proofs.Ytngfgohchnkidaa
