/-
  THE WALKS of the reference's Select, Store and Diff. Written by gen/genr6sel.py.
-/
import Derived.Test.YtedhbpceonhmcaaR6Least
import Derived.Test.YtedhbpceonhmcaaR6All
import Derived.Test.YtedhbpceonhmcaaVaAr
namespace Go.Proofs.Ytedhbpceonhmcaa
open Go.RowKit

theorem arr_any (k n ix : Int) (W : World) : Calls Try.prog 45 #[.agg #[.int .i64 k, .int .i64 n, .int .i64 ix]] W fun e w' => e = .returned (.bool (isArrK k)) ∧ Below W.heap.size W w' := r6Array_any k n ix W
theorem fits_any {i ix : Int} (hi : U64 i) (h : 0 ≤ ix ∧ ix ≤ 64) (W : World) : Calls Try.prog 44 #[.int .u64 i, .int .i64 ix] W fun e w' => e = .returned (.bool (!decide (grI ix < i))) ∧ w' = W := by
  have := r6fits_any i ix W h
  rw [fits_gr i ix hi h] at this
  have e : decide (i ≤ grI ix) = !decide (grI ix < i) := by
    by_cases h : i ≤ grI ix
    · rw [decide_eq_true h, decide_eq_false (by omega)]; rfl
    · rw [decide_eq_false h, decide_eq_true (by omega)]; rfl
  rw [e] at this
  exact this
theorem at_elk {k n ix i u : Int} {s : ByteArray} {m : List En} {v : Value} {W : World} (hk : k = 2 ∨ k = 3) (hv : VaV W (LoV W.heap.size) ⟨k, n, ix, u, s, m⟩ v) (hs : Srt m) : Calls Try.prog 66 #[v, .int .u64 i] W fun e w' => e = .returned (.agg #[.int .i64 (elK k), .int .i64 n, .int .i64 0, .int .u64 (atE i m).u, .string (atE i m).s, .slice none 0 0]) ∧ Below W.heap.size W w' := by
  have := r6At_any ⟨k, n, ix, u, s, m⟩ v i W hv hs
  rcases hk with rfl | rfl <;> exact this

set_option maxHeartbeats 4000000 in
set_option maxRecDepth 100000 in
theorem r6Select_any (x : Va) (v : Value) (i : Int) (w : World) (hv : VaV w (LoV w.heap.size) x v) (hi : U64 i) : Calls Try.prog 28 #[v, .int .u64 i] w fun e w' =>
    e = .returned (.tuple #[vav (selV x i).k (selV x i).n 0 (selV x i).u (selV x i).s none 0 0, .int .i64 (selE x i)]) ∧ Below w.heap.size w w' := by
  have Hv := Lib.hid hv
  obtain ⟨hok, A, c, rfl, hc, hA, hl⟩ := hv
  obtain ⟨RE, hRE⟩ : ∃ z, z = selE x i := ⟨_, rfl⟩
  obtain ⟨RV, hRV⟩ : ∃ z, z = selV x i := ⟨_, rfl⟩
  rw [← hRE, ← hRV]
  obtain ⟨k, n, ix, u, s, m⟩ := x
  have HV := Lib.hid (fun W (h : Below w.heap.size w W) => Hv.out.call h)
  have HU := Lib.hid hi
  obtain ⟨EV, hEV⟩ : ∃ z, z = valE (⟨k, n, ix, u, s, m⟩ : Va) := ⟨_, rfl⟩
  obtain ⟨ml, hml0⟩ : ∃ z, z = m.length := ⟨_, rfl⟩
  simp only at hc hl hok
  unfold vav at HV ⊢
  simp only at HV ⊢
  rw [← hml0] at HV hc ⊢
  have HV1 := Lib.hid (fun W (h : Below w.heap.size w W) => by have := r6Valid_any (⟨k, n, ix, u, s, m⟩ : Va) _ W (HV.out W h); rw [← hEV] at this; exact this)
  clear Hv hi hc hA hl hok hml0
  have hb0 := Lib.hid ((heap_alloc_old (w.alloc (.cells #[.int .i64 k, .int .i64 n, .int .i64 ix, .int .u64 u, .string s, .slice A ml c] 30)) (.cells #[.int .i64 0, .int .i64 0, .int .i64 0, .int .u64 0, .string ⟨#[]⟩, .slice none 0 0] 30) (w.heap.size) (by simp)).trans (heap_alloc_new w (.cells #[.int .i64 k, .int .i64 n, .int .i64 ix, .int .u64 u, .string s, .slice A ml c] 30)))
  have hb1 := Lib.hid (heap_alloc_new_at (w.alloc (.cells #[.int .i64 k, .int .i64 n, .int .i64 ix, .int .u64 u, .string s, .slice A ml c] 30)) (.cells #[.int .i64 0, .int .i64 0, .int .i64 0, .int .u64 0, .string ⟨#[]⟩, .slice none 0 0] 30) (n := w.heap.size + 1) (by simp))
  have hBw : Below w.heap.size w ((w.alloc (.cells #[.int .i64 k, .int .i64 n, .int .i64 ix, .int .u64 u, .string s, .slice A ml c] 30)).alloc (.cells #[.int .i64 0, .int .i64 0, .int .i64 0, .int .u64 0, .string ⟨#[]⟩, .slice none 0 0] 30)) := (((Below.refl w.heap.size w).alloc (Nat.le_refl _) (.cells #[.int .i64 k, .int .i64 n, .int .i64 ix, .int .u64 u, .string s, .slice A ml c] 30)).alloc (by simp; try omega) (.cells #[.int .i64 0, .int .i64 0, .int .i64 0, .int .u64 0, .string ⟨#[]⟩, .slice none 0 0] 30))
  have hz : ((w.alloc (.cells #[.int .i64 k, .int .i64 n, .int .i64 ix, .int .u64 u, .string s, .slice A ml c] 30)).alloc (.cells #[.int .i64 0, .int .i64 0, .int .i64 0, .int .u64 0, .string ⟨#[]⟩, .slice none 0 0] 30)).heap.size = w.heap.size + 2 := by simp
  obtain ⟨p0, p1, p2, p3, p4, p5⟩ := six hb0.out
  obtain ⟨q0, q1, q2, q3, q4, q5⟩ := six hb1.out
  go_enter Try.func28, Try.ntmps28
  go_wp2_with fail
  clear p0 p1 p2 p3 p4 p5 q0 q1 q2 q3 q4 q5
  generalize ((w.alloc (.cells #[.int .i64 k, .int .i64 n, .int .i64 ix, .int .u64 u, .string s, .slice A ml c] 30)).alloc (.cells #[.int .i64 0, .int .i64 0, .int .i64 0, .int .u64 0, .string ⟨#[]⟩, .slice none 0 0] 30)) = w2 at *
  have HF := Lib.hid (show ∀ W, Below (w.heap.size + 2) w2 W → (fun W : World => (W.cell? ⟨w.heap.size, 0, none⟩ = some (.int .i64 k) ∧ W.cell? ⟨w.heap.size, 1, none⟩ = some (.int .i64 n) ∧ W.cell? ⟨w.heap.size, 2, none⟩ = some (.int .i64 ix) ∧ W.cell? ⟨w.heap.size, 3, none⟩ = some (.int .u64 u) ∧ W.cell? ⟨w.heap.size, 4, none⟩ = some (.string s) ∧ W.cell? ⟨w.heap.size, 5, none⟩ = some (.slice A ml c)) ∧ (W.cell? ⟨w.heap.size + 1, 0, none⟩ = some (.int .i64 0) ∧ W.cell? ⟨w.heap.size + 1, 1, none⟩ = some (.int .i64 0) ∧ W.cell? ⟨w.heap.size + 1, 2, none⟩ = some (.int .i64 0) ∧ W.cell? ⟨w.heap.size + 1, 3, none⟩ = some (.int .u64 0) ∧ W.cell? ⟨w.heap.size + 1, 4, none⟩ = some (.string ⟨#[]⟩) ∧ W.cell? ⟨w.heap.size + 1, 5, none⟩ = some (.slice none 0 0))) W from fun W h => ⟨six ((h.block _ (by omega)).trans hb0.out), six ((h.block _ (by omega)).trans hb1.out)⟩)
  have HFz := Lib.hid (fun W (h : Below (w.heap.size + 2) w2 W) (j : Nat) => (blk_frozen ((h.block _ (by omega)).trans hb1.out) j : W.frozen? ⟨w.heap.size + 1, j, none⟩ = false))
  have HW := Lib.hid (fun W (h : Below (w.heap.size + 2) w2 W) => (hBw.trans (h.mono (by omega)) : Below w.heap.size w W))
  have HZ := Lib.hid (fun W (h : Below (w.heap.size + 2) w2 W) => (hz ▸ h.size : w.heap.size + 2 ≤ W.heap.size))
  have HG := Lib.hid (fun W W' (h : Below (w.heap.size + 2) w2 W) (h' : Below W.heap.size W W') => (h.trans (h'.mono (HZ.out W h)) : Below (w.heap.size + 2) w2 W'))
  have g2 : Below (w.heap.size + 2) w2 w2 := Below.refl _ _
  clear hb0 hb1 hz
  refine Calls.mono (HV1.out w2 hBw) ?_
  clear HV1
  rintro e w3 ⟨rfl, h3⟩
  have g3 := HG.out _ _ g2 h3
  clear h3 g2 hBw
  obtain ⟨⟨p0, p1, p2, p3, p4, p5⟩, ⟨q0, q1, q2, q3, q4, q5⟩⟩ := HF.out _ g3
  have hf := HFz.out _ g3
  by_cases hvz : EV = 0
  · subst hvz
    cases hka : isArrK k with
    | true =>
      obtain ⟨hs, hk2, hu0, hs0, hen⟩ := val_arr hEV.symm hka
      dsimp only at hs hk2 hen
      have hix := (sort_el hk2 hs).2
      have HA := Lib.hid (fun W => by have := arr_any k n ix W; rw [hka] at this; exact this)
      have HT := Lib.hid (fun W => fits_any HU.out hix W)
      have HAt := Lib.hid (fun W (h : Below w.heap.size w W) => at_elk (i := i) hk2 (HV.out W h) (ents_srt hen))
      have HQ := Lib.hid (And.intro hEV (And.intro hRE (And.intro hRV hka)))
      clear hEV hRE hRV hka hs hk2 hu0 hs0 hen hix
      go_wp2_with fail
      refine Calls.mono (HA.out _) ?_
      rintro e w4 ⟨rfl, h4⟩
      have g4 := HG.out _ _ g3 h4
      clear h4 hf
      clear p0 p1 p2 p3 p4 p5 q0 q1 q2 q3 q4 q5
      obtain ⟨⟨p0, p1, p2, p3, p4, p5⟩, ⟨q0, q1, q2, q3, q4, q5⟩⟩ := HF.out _ g4
      have hf := HFz.out _ g4
      by_cases hgr : grI ix < i
      · have hdd : decide (grI ix < i) = true := decide_eq_true hgr
        rw [hdd] at HT
        have hE := Lib.hid (show RE = 5 from by rw [HQ.out.2.1]; unfold selE; rw [← HQ.out.1]; simp [HQ.out.2.2.2, hgr])
        have hR := Lib.hid (show RV = nilV from by rw [HQ.out.2.2.1]; unfold selV; rw [← HQ.out.2.1, hE.out]; rfl)
        clear hgr hdd
        go_wp2_with (first | (go_at_call 44; refine Calls.mono (HT.out _) ?_; rintro e w5 ⟨rfl, rfl⟩) | fail)
        refine bodyPost_ret (v := .tuple #[.agg #[.int .i64 0, .int .i64 0, .int .i64 0, .int .u64 0, .string ⟨#[]⟩, .slice none 0 0], .int .i64 5]) (by simp [results, Try.results28, go_sem, q0, q1, q2, q3, q4, q5]) rfl ?_
        exact ⟨by rw [hE.out, hR.out] <;> rfl, set6_below (HW.out _ g4) (Nat.le_succ _) _ _ _ _ _ _⟩
      · have hdd : decide (grI ix < i) = false := decide_eq_false hgr
        rw [hdd] at HT
        have hE := Lib.hid (show RE = 0 from by rw [HQ.out.2.1]; unfold selE; rw [← HQ.out.1]; simp [HQ.out.2.2.2, hgr])
        have hR := (show RV = ⟨elK k, n, 0, (atE i m).u, (atE i m).s, []⟩ from by rw [HQ.out.2.2.1]; unfold selV; rw [← HQ.out.2.1, hE.out]; rfl)
        clear hgr hdd
        obtain ⟨ru, hru⟩ : ∃ z, z = (atE i m).u := ⟨_, rfl⟩
        obtain ⟨rs, hrs⟩ : ∃ z, z = (atE i m).s := ⟨_, rfl⟩
        obtain ⟨ek, hek⟩ : ∃ z, z = elK k := ⟨_, rfl⟩
        rw [← hru, ← hrs, ← hek] at HAt hR
        replace hR := Lib.hid hR
        clear hru hrs hek
        go_wp2_with (first | (go_at_call 44; refine Calls.mono (HT.out _) ?_; rintro e w5 ⟨rfl, rfl⟩) | fail)
        refine Calls.mono (HAt.out _ (HW.out _ g4)) ?_
        rintro e w6 ⟨rfl, h6⟩
        have g6 := HG.out _ _ g4 h6
        clear h6 hf
        clear p0 p1 p2 p3 p4 p5 q0 q1 q2 q3 q4 q5
        obtain ⟨⟨p0, p1, p2, p3, p4, p5⟩, ⟨q0, q1, q2, q3, q4, q5⟩⟩ := HF.out _ g6
        have hf := HFz.out _ g6
        go_wp2_with fail
        refine bodyPost_ret (v := .tuple #[.agg #[.int .i64 ek, .int .i64 n, .int .i64 0, .int .u64 ru, .string rs, .slice none 0 0], .int .i64 0]) (by simp [results, Try.results28, go_sem, q0, q1, q2, q3, q4, q5]) rfl ?_
        exact ⟨by rw [hE.out, hR.out] <;> rfl, set6_below (HW.out _ g6) (Nat.le_succ _) _ _ _ _ _ _⟩
    | false =>
      have HA := Lib.hid (fun W => by have := arr_any k n ix W; rw [hka] at this; exact this)
      have hE := Lib.hid (show RE = 9 from by rw [hRE]; unfold selE; rw [← hEV]; simp [hka])
      have hR := Lib.hid (show RV = nilV from by rw [hRV]; unfold selV; rw [← hRE, hE.out]; rfl)
      clear hEV hRE hRV hka
      go_wp2_with fail
      refine Calls.mono (HA.out _) ?_
      rintro e w4 ⟨rfl, h4⟩
      have g4 := HG.out _ _ g3 h4
      clear h4 hf
      clear p0 p1 p2 p3 p4 p5 q0 q1 q2 q3 q4 q5
      obtain ⟨⟨p0, p1, p2, p3, p4, p5⟩, ⟨q0, q1, q2, q3, q4, q5⟩⟩ := HF.out _ g4
      have hf := HFz.out _ g4
      go_wp2_with fail
      refine bodyPost_ret (v := .tuple #[.agg #[.int .i64 0, .int .i64 0, .int .i64 0, .int .u64 0, .string ⟨#[]⟩, .slice none 0 0], .int .i64 9]) (by simp [results, Try.results28, go_sem, q0, q1, q2, q3, q4, q5]) rfl ?_
      exact ⟨by rw [hE.out, hR.out] <;> rfl, set6_below (HW.out _ g4) (Nat.le_succ _) _ _ _ _ _ _⟩
  · have hvf : (EV == 0) = false := by rw [beq_eq_false_iff_ne]; exact hvz
    have hE := Lib.hid (show RE = EV from by rw [hRE]; unfold selE; rw [← hEV]; simp [hvz])
    have hR := Lib.hid (show RV = nilV from by rw [hRV]; unfold selV; rw [← hRE, hE.out, if_neg hvz])
    clear hEV hRE hRV hvz
    go_wp2_with fail
    refine bodyPost_ret (v := .tuple #[.agg #[.int .i64 0, .int .i64 0, .int .i64 0, .int .u64 0, .string ⟨#[]⟩, .slice none 0 0], .int .i64 EV]) (by simp [results, Try.results28, go_sem, q0, q1, q2, q3, q4, q5]) rfl ?_
    exact ⟨by rw [hE.out, hR.out] <;> rfl, set6_below (HW.out _ g3) (Nat.le_succ _) _ _ _ _ _ _⟩
end Go.Proofs.Ytedhbpceonhmcaa
