/-
  THE WALKS of the program's isArray, isElement, cmp.Or at errors, and Select. Written by gen/genvsel.py.
-/
import Derived.Test.YtngfgohchnkidaaVaAr
import Derived.Test.YtngfgohchnkidaaVaOwn
import Derived.LoopN
namespace Go.Proofs.Ytngfgohchnkidaa
open Go.RowKit

theorem visArray_any (k n ix : Int) (w : World) : Calls Try.prog 63 #[.agg #[.int .i64 k, .int .i64 n, .int .i64 ix]] w fun e w' => e = .returned (.bool (isArrK k)) ∧ Below w.heap.size w w' := by
  obtain ⟨R, hR⟩ : ∃ R, R = isArrK k := ⟨_, rfl⟩
  rw [← hR]
  have hB := (Below.refl w.heap.size w).alloc (Nat.le_refl _) (.cells #[.int .i64 k, .int .i64 n, .int .i64 ix] 26)
  obtain ⟨p0, p1, p2⟩ := three (heap_alloc_new w (.cells #[.int .i64 k, .int .i64 n, .int .i64 ix] 26))
  by_cases h2 : k = 2
  · have hr := Lib.hid (show R = true from by rw [hR, h2]; rfl)
    subst h2
    clear hR
    go_enter Try.func63, Try.ntmps63
    go_wp2_with fail
    go_ret
    exact ⟨by rw [hr.out]; rfl, hB⟩
  · have k2 : (k == 2) = false := by simpa using h2
    have hr := Lib.hid (show R = (k == 3) from by rw [hR]; unfold isArrK; rw [k2]; rfl)
    clear hR h2
    go_enter Try.func63, Try.ntmps63
    go_wp2_with fail
    go_ret
    exact ⟨by rw [hr.out]; rfl, hB⟩

set_option maxHeartbeats 1000000 in
theorem visElement_any (k n ix ak an ai : Int) (w : World) : Calls Try.prog 68 #[.agg #[.int .i64 k, .int .i64 n, .int .i64 ix], .agg #[.int .i64 ak, .int .i64 an, .int .i64 ai]] w fun e w' => e = .returned (.bool (mayE k n ak an)) ∧ Below w.heap.size w w' := by
  obtain ⟨R, hR⟩ : ∃ R, R = mayE k n ak an := ⟨_, rfl⟩
  rw [← hR]
  have hB := ((Below.refl w.heap.size w).alloc (Nat.le_refl _) (.cells #[.int .i64 k, .int .i64 n, .int .i64 ix] 26)).alloc (by simp) (.cells #[.int .i64 ak, .int .i64 an, .int .i64 ai] 26)
  obtain ⟨p0, p1, p2⟩ := three ((heap_alloc_old (w.alloc (.cells #[.int .i64 k, .int .i64 n, .int .i64 ix] 26)) (.cells #[.int .i64 ak, .int .i64 an, .int .i64 ai] 26) w.heap.size (by simp)).trans (heap_alloc_new w (.cells #[.int .i64 k, .int .i64 n, .int .i64 ix] 26)))
  obtain ⟨q0, q1, q2⟩ := three (heap_alloc_new_at (w.alloc (.cells #[.int .i64 k, .int .i64 n, .int .i64 ix] 26)) (.cells #[.int .i64 ak, .int .i64 an, .int .i64 ai] 26) (n := w.heap.size + 1) (by simp))
  by_cases h2 : ak = 2
  · subst h2
    by_cases h0 : k = 0
    · subst h0
      have hr := Lib.hid (show R = (n == an) from by rw [hR]; unfold mayE; simp)
      clear hR
      go_enter Try.func68, Try.ntmps68
      go_wp2_with fail
      go_ret
      exact ⟨by rw [hr.out]; rfl, hB⟩
    · have k2 : (k == 0) = false := by simpa using h0
      have hr := Lib.hid (show R = false from by rw [hR]; unfold mayE; simp [h0])
      clear hR h0
      go_enter Try.func68, Try.ntmps68
      go_wp2_with fail
      go_ret
      exact ⟨by rw [hr.out]; rfl, hB⟩
  · have k2 : (ak == 2) = false := by simpa using h2
    by_cases h3 : ak = 3
    · subst h3
      clear h2
      by_cases h1 : k = 1
      · subst h1
        have hr := Lib.hid (show R = decide (n ≤ an) from by rw [hR]; unfold mayE; simp)
        clear hR
        go_enter Try.func68, Try.ntmps68
        go_wp2_with fail
        go_ret
        exact ⟨by rw [hr.out]; rfl, hB⟩
      · have k3 : (k == 1) = false := by simpa using h1
        have hr := Lib.hid (show R = false from by rw [hR]; unfold mayE; simp [h1])
        clear hR h1
        go_enter Try.func68, Try.ntmps68
        go_wp2_with fail
        go_ret
        exact ⟨by rw [hr.out]; rfl, hB⟩
    · have k3 : (ak == 3) = false := by simpa using h3
      have hr := Lib.hid (show R = false from by rw [hR]; unfold mayE; simp [h2, h3])
      clear hR h2 h3
      go_enter Try.func68, Try.ntmps68
      go_wp2_with fail
      go_ret
      exact ⟨by rw [hr.out]; rfl, hB⟩

set_option maxHeartbeats 1000000 in
theorem cOrErr_any (a b : Int) (g cap : Nat) (w : World) (h0 : w.cell? ⟨g, 0, none⟩ = some (.int .i64 a)) (h1 : w.cell? ⟨g, 1, none⟩ = some (.int .i64 b)) :
    Calls Try.prog 67 #[.slice (some ⟨g, 0, none⟩) 2 cap] w fun e w' => e = .returned (.int .i64 (if a ≠ 0 then a else b)) ∧ w' = w := by
  obtain ⟨R, hR⟩ : ∃ R, R = if a ≠ 0 then a else b := ⟨_, rfl⟩
  rw [← hR]
  by_cases ha : a = 0
  · subst ha
    have hr := Lib.hid (show R = b from by rw [hR]; simp)
    clear hR
    by_cases hb : b = 0
    · subst hb
      go_enter Try.func67, Try.ntmps67
      go_wp2
      refine wp_loop_rounds 3 ?_
      rw [rounds_succ]
      go_wp2
      rw [rounds_succ]
      go_wp2
      rw [rounds_succ]
      go_wp2
      go_ret
      exact ⟨by rw [hr.out]; rfl, rfl⟩
    · have hb2 : (b == 0) = false := by simpa using hb
      clear hb
      go_enter Try.func67, Try.ntmps67
      go_wp2
      refine wp_loop_rounds 3 ?_
      rw [rounds_succ]
      go_wp2
      rw [rounds_succ]
      go_wp2
      go_ret
      exact ⟨by rw [hr.out]; rfl, rfl⟩
  · have hr := Lib.hid (show R = a from by rw [hR, if_pos ha])
    have hb2 : (a == 0) = false := by simpa using ha
    clear hR ha
    go_enter Try.func67, Try.ntmps67
    go_wp2
    refine wp_loop_rounds 3 ?_
    rw [rounds_succ]
    go_wp2
    go_ret
    exact ⟨by rw [hr.out]; rfl, rfl⟩

set_option maxHeartbeats 2000000 in
set_option maxRecDepth 100000 in
theorem vSelect_any (x : Va) (v : Value) (i : Int) (w : World) (hv : VaV w (LoV w.heap.size) x v) : Calls Try.prog 27 #[v, .int .u64 i] w fun e w' =>
    e = .returned (.tuple #[vav (selV x i).k (selV x i).n 0 (selV x i).u (selV x i).s none 0 0, .int .i64 (selE x i)]) ∧ Below w.heap.size w w' := by
  have Hv := Lib.hid hv
  obtain ⟨hok, A, c, rfl, hc, hA, hl⟩ := hv
  have hml := hok.2.2.2.2
  obtain ⟨RE, hRE⟩ : ∃ z, z = selE x i := ⟨_, rfl⟩
  obtain ⟨RV, hRV⟩ : ∃ z, z = selV x i := ⟨_, rfl⟩
  rw [← hRE, ← hRV]
  obtain ⟨k, n, ix, u, s, m⟩ := x
  simp only at hc hl hml
  have hB2 : Below w.heap.size w ((w.alloc (.cells #[.int .i64 k, .int .i64 n, .int .i64 ix, .int .u64 u, .string s, .slice A m.length c] 35)).alloc (.cells #[.int .i64 0, .int .i64 0, .int .i64 0, .int .u64 0, .string ⟨#[]⟩, .slice none 0 0] 35)) := ((Below.refl _ _).alloc (Nat.le_refl _) _).alloc (by simp) _
  have hz2 : ((w.alloc (.cells #[.int .i64 k, .int .i64 n, .int .i64 ix, .int .u64 u, .string s, .slice A m.length c] 35)).alloc (.cells #[.int .i64 0, .int .i64 0, .int .i64 0, .int .u64 0, .string ⟨#[]⟩, .slice none 0 0] 35)).heap.size = w.heap.size + 2 := by simp
  have hV := Lib.hid (vValid_any ⟨k, n, ix, u, s, m⟩ _ ((w.alloc (.cells #[.int .i64 k, .int .i64 n, .int .i64 ix, .int .u64 u, .string s, .slice A m.length c] 35)).alloc (.cells #[.int .i64 0, .int .i64 0, .int .i64 0, .int .u64 0, .string ⟨#[]⟩, .slice none 0 0] 35)) (Hv.out.call hB2))
  obtain ⟨EV, hEV⟩ : ∃ z, z = valE ⟨k, n, ix, u, s, m⟩ := ⟨_, rfl⟩
  rw [← hEV] at hV
  unfold vav at hV ⊢
  simp only at hV
  have h0 : ((w.alloc (.cells #[.int .i64 k, .int .i64 n, .int .i64 ix, .int .u64 u, .string s, .slice A m.length c] 35)).alloc (.cells #[.int .i64 0, .int .i64 0, .int .i64 0, .int .u64 0, .string ⟨#[]⟩, .slice none 0 0] 35)).heap[w.heap.size]? = some (.cells #[.int .i64 k, .int .i64 n, .int .i64 ix, .int .u64 u, .string s, .slice A m.length c] 35 (0, 0)) := (heap_alloc_old _ _ _ (by simp)).trans (heap_alloc_new w _)
  have h1 : ((w.alloc (.cells #[.int .i64 k, .int .i64 n, .int .i64 ix, .int .u64 u, .string s, .slice A m.length c] 35)).alloc (.cells #[.int .i64 0, .int .i64 0, .int .i64 0, .int .u64 0, .string ⟨#[]⟩, .slice none 0 0] 35)).heap[w.heap.size + 1]? = some (.cells #[.int .i64 0, .int .i64 0, .int .i64 0, .int .u64 0, .string ⟨#[]⟩, .slice none 0 0] 35 (0, 0)) := heap_alloc_new_at _ _ (by simp)
  have HC := Lib.hid fun (W : World) (h : Below (w.heap.size + 2) ((w.alloc (.cells #[.int .i64 k, .int .i64 n, .int .i64 ix, .int .u64 u, .string s, .slice A m.length c] 35)).alloc (.cells #[.int .i64 0, .int .i64 0, .int .i64 0, .int .u64 0, .string ⟨#[]⟩, .slice none 0 0] 35)) W) => (show W.cell? ⟨w.heap.size, 0, none⟩ = some (.int .i64 k) ∧ W.cell? ⟨w.heap.size, 1, none⟩ = some (.int .i64 n) ∧ W.cell? ⟨w.heap.size, 2, none⟩ = some (.int .i64 ix) ∧ W.cell? ⟨w.heap.size, 3, none⟩ = some (.int .u64 u) ∧ W.cell? ⟨w.heap.size, 4, none⟩ = some (.string s) ∧ W.cell? ⟨w.heap.size, 5, none⟩ = some (.slice A m.length c) from six ((h.block _ (by omega)).trans h0))
  have HF := Lib.hid fun (W : World) (h : Below (w.heap.size + 2) ((w.alloc (.cells #[.int .i64 k, .int .i64 n, .int .i64 ix, .int .u64 u, .string s, .slice A m.length c] 35)).alloc (.cells #[.int .i64 0, .int .i64 0, .int .i64 0, .int .u64 0, .string ⟨#[]⟩, .slice none 0 0] 35)) W) (j : Nat) => (show W.frozen? ⟨w.heap.size + 1, j, none⟩ = false from blk_frozen ((h.block _ (by omega)).trans h1) j)
  have HR := Lib.hid fun (W : World) (h : Below (w.heap.size + 2) ((w.alloc (.cells #[.int .i64 k, .int .i64 n, .int .i64 ix, .int .u64 u, .string s, .slice A m.length c] 35)).alloc (.cells #[.int .i64 0, .int .i64 0, .int .i64 0, .int .u64 0, .string ⟨#[]⟩, .slice none 0 0] 35)) W) => (show W.cell? ⟨w.heap.size + 1, 0, none⟩ = some (.int .i64 0) ∧ W.cell? ⟨w.heap.size + 1, 1, none⟩ = some (.int .i64 0) ∧ W.cell? ⟨w.heap.size + 1, 2, none⟩ = some (.int .i64 0) ∧ W.cell? ⟨w.heap.size + 1, 3, none⟩ = some (.int .u64 0) ∧ W.cell? ⟨w.heap.size + 1, 4, none⟩ = some (.string ⟨#[]⟩) ∧ W.cell? ⟨w.heap.size + 1, 5, none⟩ = some (.slice none 0 0) from six ((h.block _ (by omega)).trans h1))
  have HB := Lib.hid fun (W : World) (h : Below (w.heap.size + 2) ((w.alloc (.cells #[.int .i64 k, .int .i64 n, .int .i64 ix, .int .u64 u, .string s, .slice A m.length c] 35)).alloc (.cells #[.int .i64 0, .int .i64 0, .int .i64 0, .int .u64 0, .string ⟨#[]⟩, .slice none 0 0] 35)) W) => (show Below w.heap.size w W from hB2.trans (h.mono (by omega)))
  have HZ := Lib.hid fun (W : World) (h : Below (w.heap.size + 2) ((w.alloc (.cells #[.int .i64 k, .int .i64 n, .int .i64 ix, .int .u64 u, .string s, .slice A m.length c] 35)).alloc (.cells #[.int .i64 0, .int .i64 0, .int .i64 0, .int .u64 0, .string ⟨#[]⟩, .slice none 0 0] 35)) W) => (show w.heap.size + 2 ≤ W.heap.size from hz2 ▸ h.size)
  have HL := Lib.hid fun (W : World) (h : Below (w.heap.size + 2) ((w.alloc (.cells #[.int .i64 k, .int .i64 n, .int .i64 ix, .int .u64 u, .string s, .slice A m.length c] 35)).alloc (.cells #[.int .i64 0, .int .i64 0, .int .i64 0, .int .u64 0, .string ⟨#[]⟩, .slice none 0 0] 35)) W) => (show EnL W (LoV W.heap.size) m A from hl.call (HB.out W h))
  obtain ⟨p0, p1, p2, p3, p4, p5⟩ := six h0
  replace hl := Lib.hid hl
  replace hB2 := Lib.hid hB2
  replace h0 := Lib.hid h0
  replace h1 := Lib.hid h1
  by_cases hvz : EV = 0
  · subst hvz
    have hIA := Lib.hid fun W => visArray_any k n ix W
    by_cases hka : isArrK k = true
    · obtain ⟨hs, hk2, hu0, hs0, hen⟩ := val_arr hEV.symm hka
      simp only at hs hk2 hen
      rw [hka] at hIA
      have hsrt := Lib.hid (ents_srt hen)
      have hG := Lib.hid fun W => vgreatest_any ix W (sort_el hk2 hs).2
      have hElK : (if k = 3 then 1 else 0 : Int) = elK k := rfl
      by_cases hgr : grI ix < i
      · have hd : decide (grI ix < i) = true := decide_eq_true hgr
        have hE := Lib.hid (show RE = 5 from by rw [hRE]; unfold selE; rw [← hEV]; simp [hka, hgr])
        have hR := Lib.hid (show RV = nilV from by rw [hRV]; unfold selV; rw [← hRE, hE.out]; rfl)
        clear hEV hRE hRV hgr hs hk2 hen hu0 hs0 hka
        go_enter Try.func27, Try.ntmps27
        go_wp2_with (first
          | (go_at_call 13; refine Calls.mono hV.out ?_; clear hV; rintro e w3 ⟨rfl, hw3⟩; rw [hz2] at hw3; have hlast := hw3; obtain ⟨p0, p1, p2, p3, p4, p5⟩ := HC.out _ hw3; have hf := HF.out _ hw3; obtain ⟨q0, q1, q2, q3, q4, q5⟩ := HR.out _ hw3)
          | (go_at_call 63; refine Calls.mono (hIA.out _) ?_; rintro e w4 ⟨rfl, hw4⟩; have hlast := hw3.trans (hw4.mono (HZ.out _ hw3)); clear p0 p1 p2 p3 p4 p5 hf q0 q1 q2 q3 q4 q5; obtain ⟨p0, p1, p2, p3, p4, p5⟩ := HC.out _ hlast; have hf := HF.out _ hlast; obtain ⟨q0, q1, q2, q3, q4, q5⟩ := HR.out _ hlast)
          | (go_at_call 42; refine Calls.mono (hG.out _) ?_; rintro e w5 ⟨rfl, rfl⟩))
        refine bodyPost_ret (v := .tuple #[.agg #[.int .i64 0, .int .i64 0, .int .i64 0, .int .u64 0, .string ⟨#[]⟩, .slice none 0 0], .int .i64 5]) (by simp [results, Try.results27, go_sem, q0, q1, q2, q3, q4, q5]) rfl ?_
        exact ⟨by rw [hE.out, hR.out]; rfl, set6_below (HB.out _ hlast) (Nat.le_succ _) _ _ _ _ _ _⟩
      · have hd : decide (grI ix < i) = false := decide_eq_false hgr
        have hE := Lib.hid (show RE = 0 from by rw [hRE]; unfold selE; rw [← hEV]; simp [hka, hgr])
        have hR := Lib.hid (show RV = ⟨elK k, n, 0, (atE i m).u, (atE i m).s, []⟩ from by rw [hRV]; unfold selV; rw [← hRE, hE.out]; rfl)
        clear hEV hRE hRV hgr hs hk2 hen hu0 hs0 hka
        have HX := Lib.hid fun (W : World) (h : Below (w.heap.size + 2) ((w.alloc (.cells #[.int .i64 k, .int .i64 n, .int .i64 ix, .int .u64 u, .string s, .slice A m.length c] 35)).alloc (.cells #[.int .i64 0, .int .i64 0, .int .i64 0, .int .u64 0, .string ⟨#[]⟩, .slice none 0 0] 35)) W) => (h.alloc (HZ.out W h) (.cells #[.int .u64 i, .int .u64 0, .string ⟨#[]⟩] 85))
        have hFd := Lib.hid fun (W : World) (h : Below (w.heap.size + 2) ((w.alloc (.cells #[.int .i64 k, .int .i64 n, .int .i64 ix, .int .u64 u, .string s, .slice A m.length c] 35)).alloc (.cells #[.int .i64 0, .int .i64 0, .int .i64 0, .int .u64 0, .string ⟨#[]⟩, .slice none 0 0] 35)) W) => vfind_any i m A c W hsrt.out (HL.out W h) hml
        obtain ⟨ek, hek⟩ : ∃ z : Int, z = if k = 3 then 1 else 0 := ⟨_, rfl⟩
        have hEl := Lib.hid fun (x : En) W => velement_any x k n ix W
        rw [← hek] at hEl
        unfold En.val vav at hEl
        have HK := Lib.hid (show ek = elK k from hek)
        clear hek hElK
        by_cases hfo : hasE i m = true
        · have hpl : posE i m < m.length := by
            by_cases h : posE i m < m.length
            · exact h
            · rw [hasE_end h] at hfo; cases hfo
          have hAt := Lib.hid (show atE i m = m[posE i m] from by unfold atE; rw [if_pos hfo, getD_get hpl])
          rw [hfo] at hFd
          obtain ⟨P, hP⟩ : ∃ P, P = posE i m := ⟨_, rfl⟩
          have hpl2 : P < m.length := hP ▸ hpl
          have hAt2 := Lib.hid (show atE i m = m[P] from by subst hP; exact hAt.out)
          rw [← hP] at hFd
          obtain ⟨b1, o1, rfl, hb1, x3⟩ := hl.out.get hpl2
          have hb1' : b1 < w.heap.size := hb1
          obtain ⟨y, hy⟩ : ∃ y, y = m[P] := ⟨_, rfl⟩
          rw [← hy] at x3 hAt2
          have HY := Lib.hid fun (W : World) (h : Below (w.heap.size + 2) _ W) => x3.to ((HB.out W h).block b1 hb1')
          have hP1 : (P : Int) < (m.length : Int) := by omega
          have hP0 : (0 : Int) ≤ (P : Int) := by omega
          clear hy hP hAt hpl hfo x3
          have hEy := Lib.hid (hEl.out y)
          replace hb1' := Lib.hid hb1'
          replace hpl2 := Lib.hid hpl2
          go_enter Try.func27, Try.ntmps27
          go_wp2_with (first
            | (go_at_call 13; refine Calls.mono hV.out ?_; clear hV; rintro e w3 ⟨rfl, hw3⟩; rw [hz2] at hw3; have hlast := hw3; obtain ⟨p0, p1, p2, p3, p4, p5⟩ := HC.out _ hw3; have hf := HF.out _ hw3; obtain ⟨q0, q1, q2, q3, q4, q5⟩ := HR.out _ hw3)
            | (go_at_call 63; refine Calls.mono (hIA.out _) ?_; rintro e w4 ⟨rfl, hw4⟩; have hlast := hw3.trans (hw4.mono (HZ.out _ hw3)); clear p0 p1 p2 p3 p4 p5 hf q0 q1 q2 q3 q4 q5; obtain ⟨p0, p1, p2, p3, p4, p5⟩ := HC.out _ hlast; have hf := HF.out _ hlast; obtain ⟨q0, q1, q2, q3, q4, q5⟩ := HR.out _ hlast)
            | (go_at_call 42; refine Calls.mono (hG.out _) ?_; rintro e w5 ⟨rfl, rfl⟩; have p0a := cell_oldv (i := 0) (show w.heap.size < w5.heap.size from Nat.lt_of_lt_of_le (by omega) (HZ.out _ hlast)) (.cells #[.int .u64 i, .int .u64 0, .string ⟨#[]⟩] 85) |>.trans p0; have p1a := cell_oldv (i := 1) (show w.heap.size < w5.heap.size from Nat.lt_of_lt_of_le (by omega) (HZ.out _ hlast)) (.cells #[.int .u64 i, .int .u64 0, .string ⟨#[]⟩] 85) |>.trans p1; have p5a := cell_oldv (i := 5) (show w.heap.size < w5.heap.size from Nat.lt_of_lt_of_le (by omega) (HZ.out _ hlast)) (.cells #[.int .u64 i, .int .u64 0, .string ⟨#[]⟩] 85) |>.trans p5)
            | (go_at_call 64; have hx6 := HX.out _ hlast; refine Calls.mono (hFd.out _ hx6) ?_; rintro e w7 ⟨rfl, hw7⟩; have hlast7 := hx6.trans (hw7.mono (HZ.out _ hx6)); obtain ⟨r0, r1, r2⟩ := three ((hw7.block w5.heap.size (by simp)).trans (heap_alloc_new w5 (.cells #[.int .u64 i, .int .u64 0, .string ⟨#[]⟩] 85))); have hrf := blk_frozen ((hw7.block w5.heap.size (by simp)).trans (heap_alloc_new w5 (.cells #[.int .u64 i, .int .u64 0, .string ⟨#[]⟩] 85))); clear p0 p1 p2 p3 p4 p5 hf q0 q1 q2 q3 q4 q5; obtain ⟨p0, p1, p2, p3, p4, p5⟩ := HC.out _ hlast7; have hS3 : Below (w.heap.size + 2) _ (((w7.setCell ⟨w5.heap.size, 0, none⟩ (.int .u64 y.i)).setCell ⟨w5.heap.size, 1, none⟩ (.int .u64 y.u)).setCell ⟨w5.heap.size, 2, none⟩ (.string y.s)) := ((hlast7.setCell (p := ⟨w5.heap.size, 0, none⟩) (HZ.out _ hlast) _).setCell (p := ⟨w5.heap.size, 1, none⟩) (HZ.out _ hlast) _).setCell (p := ⟨w5.heap.size, 2, none⟩) (HZ.out _ hlast) _; obtain ⟨y0, y1, y2⟩ := HY.out _ hlast7; have p0b := (HC.out _ hS3).1; have p1b := (HC.out _ hS3).2.1; have p2b := (HC.out _ hS3).2.2.1)
            | (go_at_call 65; refine Calls.mono (hEy.out _) ?_; rintro e w9 ⟨rfl, hw9⟩; have hlast9 := hS3.trans (hw9.mono (HZ.out _ hS3)); have hf := HF.out _ hlast9; obtain ⟨q0, q1, q2, q3, q4, q5⟩ := HR.out _ hlast9))
          refine bodyPost_ret (v := .tuple #[.agg #[.int .i64 ek, .int .i64 n, .int .i64 0, .int .u64 y.u, .string y.s, .slice none 0 0], .int .i64 0]) (by simp [results, Try.results27, go_sem, q0, q1, q2, q3, q4, q5]) rfl ?_
          exact ⟨by rw [hE.out, hR.out, hAt2.out, HK.out], set6_below (HB.out _ hlast9) (Nat.le_succ _) _ _ _ _ _ _⟩
        · have hfo2 : hasE i m = false := by simpa using hfo
          have hAt := Lib.hid (show atE i m = ⟨i, 0, .empty⟩ from by unfold atE; rw [hfo2]; rfl)
          rw [hfo2] at hFd
          have hEy := Lib.hid (hEl.out ⟨i, 0, ⟨#[]⟩⟩)
          clear hfo hfo2
          obtain ⟨P, hP⟩ : ∃ P, P = posE i m := ⟨_, rfl⟩
          rw [← hP] at hFd
          clear hP
          go_enter Try.func27, Try.ntmps27
          go_wp2_with (first
            | (go_at_call 13; refine Calls.mono hV.out ?_; clear hV; rintro e w3 ⟨rfl, hw3⟩; rw [hz2] at hw3; have hlast := hw3; obtain ⟨p0, p1, p2, p3, p4, p5⟩ := HC.out _ hw3; have hf := HF.out _ hw3; obtain ⟨q0, q1, q2, q3, q4, q5⟩ := HR.out _ hw3)
            | (go_at_call 63; refine Calls.mono (hIA.out _) ?_; rintro e w4 ⟨rfl, hw4⟩; have hlast := hw3.trans (hw4.mono (HZ.out _ hw3)); clear p0 p1 p2 p3 p4 p5 hf q0 q1 q2 q3 q4 q5; obtain ⟨p0, p1, p2, p3, p4, p5⟩ := HC.out _ hlast; have hf := HF.out _ hlast; obtain ⟨q0, q1, q2, q3, q4, q5⟩ := HR.out _ hlast)
            | (go_at_call 42; refine Calls.mono (hG.out _) ?_; rintro e w5 ⟨rfl, rfl⟩; have p0a := cell_oldv (i := 0) (show w.heap.size < w5.heap.size from Nat.lt_of_lt_of_le (by omega) (HZ.out _ hlast)) (.cells #[.int .u64 i, .int .u64 0, .string ⟨#[]⟩] 85) |>.trans p0; have p1a := cell_oldv (i := 1) (show w.heap.size < w5.heap.size from Nat.lt_of_lt_of_le (by omega) (HZ.out _ hlast)) (.cells #[.int .u64 i, .int .u64 0, .string ⟨#[]⟩] 85) |>.trans p1; have p5a := cell_oldv (i := 5) (show w.heap.size < w5.heap.size from Nat.lt_of_lt_of_le (by omega) (HZ.out _ hlast)) (.cells #[.int .u64 i, .int .u64 0, .string ⟨#[]⟩] 85) |>.trans p5)
            | (go_at_call 64; have hx6 := HX.out _ hlast; refine Calls.mono (hFd.out _ hx6) ?_; rintro e w7 ⟨rfl, hw7⟩; have hlast7 := hx6.trans (hw7.mono (HZ.out _ hx6)); obtain ⟨r0, r1, r2⟩ := three ((hw7.block w5.heap.size (by simp)).trans (heap_alloc_new w5 (.cells #[.int .u64 i, .int .u64 0, .string ⟨#[]⟩] 85))); have hrf := blk_frozen ((hw7.block w5.heap.size (by simp)).trans (heap_alloc_new w5 (.cells #[.int .u64 i, .int .u64 0, .string ⟨#[]⟩] 85))); clear p0 p1 p2 p3 p4 p5 hf q0 q1 q2 q3 q4 q5; obtain ⟨p0, p1, p2, p3, p4, p5⟩ := HC.out _ hlast7)
            | (go_at_call 65; refine Calls.mono (hEy.out _) ?_; rintro e w9 ⟨rfl, hw9⟩; have hlast9 := hlast7.trans (hw9.mono (HZ.out _ hlast7)); have hf := HF.out _ hlast9; obtain ⟨q0, q1, q2, q3, q4, q5⟩ := HR.out _ hlast9))
          refine bodyPost_ret (v := .tuple #[.agg #[.int .i64 ek, .int .i64 n, .int .i64 0, .int .u64 0, .string ⟨#[]⟩, .slice none 0 0], .int .i64 0]) (by simp [results, Try.results27, go_sem, q0, q1, q2, q3, q4, q5]) rfl ?_
          exact ⟨by rw [hE.out, hR.out, hAt.out, HK.out]; rfl, set6_below (HB.out _ hlast9) (Nat.le_succ _) _ _ _ _ _ _⟩
    · have hkf : isArrK k = false := by simpa using hka
      rw [hkf] at hIA
      have hE := Lib.hid (show RE = 9 from by rw [hRE]; unfold selE; rw [← hEV]; simp [hkf])
      have hR := Lib.hid (show RV = nilV from by rw [hRV]; unfold selV; rw [← hRE, hE.out]; rfl)
      clear hEV hRE hRV hka hkf
      go_enter Try.func27, Try.ntmps27
      go_wp2_with (first
        | (go_at_call 13; refine Calls.mono hV.out ?_; clear hV; rintro e w3 ⟨rfl, hw3⟩; rw [hz2] at hw3; have hlast := hw3; obtain ⟨p0, p1, p2, p3, p4, p5⟩ := HC.out _ hw3; have hf := HF.out _ hw3; obtain ⟨q0, q1, q2, q3, q4, q5⟩ := HR.out _ hw3)
        | (go_at_call 63; refine Calls.mono (hIA.out _) ?_; rintro e w4 ⟨rfl, hw4⟩; have hlast := hw3.trans (hw4.mono (HZ.out _ hw3)); clear p0 p1 p2 p3 p4 p5 hf q0 q1 q2 q3 q4 q5; obtain ⟨p0, p1, p2, p3, p4, p5⟩ := HC.out _ hlast; have hf := HF.out _ hlast; obtain ⟨q0, q1, q2, q3, q4, q5⟩ := HR.out _ hlast))
      refine bodyPost_ret (v := .tuple #[.agg #[.int .i64 0, .int .i64 0, .int .i64 0, .int .u64 0, .string ⟨#[]⟩, .slice none 0 0], .int .i64 9]) (by simp [results, Try.results27, go_sem, q0, q1, q2, q3, q4, q5]) rfl ?_
      exact ⟨by rw [hE.out, hR.out]; rfl, set6_below (HB.out _ hlast) (Nat.le_succ _) _ _ _ _ _ _⟩
  · have hvf : (EV == 0) = false := by simpa using hvz
    have hE := Lib.hid (show RE = EV from by rw [hRE]; unfold selE; rw [← hEV]; simp [hvz])
    have hR := Lib.hid (show RV = nilV from by rw [hRV]; unfold selV; rw [← hRE, hE.out, if_neg hvz])
    clear hEV hRE hRV hvz
    go_enter Try.func27, Try.ntmps27
    go_wp2_with (first
      | (go_at_call 13; refine Calls.mono hV.out ?_; clear hV; rintro e w3 ⟨rfl, hw3⟩; rw [hz2] at hw3; have hlast := hw3; obtain ⟨p0, p1, p2, p3, p4, p5⟩ := HC.out _ hw3; have hf := HF.out _ hw3; obtain ⟨q0, q1, q2, q3, q4, q5⟩ := HR.out _ hw3))
    refine bodyPost_ret (v := .tuple #[.agg #[.int .i64 0, .int .i64 0, .int .i64 0, .int .u64 0, .string ⟨#[]⟩, .slice none 0 0], .int .i64 EV]) (by simp [results, Try.results27, go_sem, q0, q1, q2, q3, q4, q5]) rfl ?_
    exact ⟨by rw [hE.out, hR.out]; rfl, set6_below (HB.out _ hlast) (Nat.le_succ _) _ _ _ _ _ _⟩
end Go.Proofs.Ytngfgohchnkidaa
