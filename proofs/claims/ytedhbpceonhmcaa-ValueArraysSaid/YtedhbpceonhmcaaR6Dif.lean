/-
  THE WALKS of the reference's Diff, and of the program's, of any two values. Written by gen/genr6sel.py.
-/
import Derived.Test.YtedhbpceonhmcaaR6Sel
import Derived.Test.YtedhbpceonhmcaaVaDiff
namespace Go.Proofs.Ytedhbpceonhmcaa
open Go.RowKit

def sortEq (x y : Va) : Bool := x.k == y.k && x.n == y.n && x.ix == y.ix
/-- what Diff returns -/
def difE (x y : Va) : Int := if valE x ≠ 0 then valE x else if valE y ≠ 0 then valE y else if isArrK x.k = false then 9 else if sortEq x y = false then 9 else 0
def difV (x y : Va) : Int := if difE x y = 0 then dffI x.m y.m else 0
theorem sort_ne {k n ix yk yn yi : Int} (h : (k == yk && n == yn && ix == yi) = false) : (k == yk) = false ∨ ((k == yk) = true ∧ (n == yn) = false) ∨ ((k == yk) = true ∧ (n == yn) = true ∧ (ix == yi) = false) := by
  rcases Bool.eq_false_or_eq_true (k == yk) with h1 | h1
  · rcases Bool.eq_false_or_eq_true (n == yn) with h2 | h2
    · exact .inr (.inr ⟨h1, h2, by rw [h1, h2] at h; simpa using h⟩)
    · exact .inr (.inl ⟨h1, h2⟩)
  · exact .inl h1

set_option maxHeartbeats 8000000 in
set_option maxRecDepth 100000 in
theorem r6Diff_any (x y : Va) (v1 v2 : Value) (w : World) (hx : VaV w (LoV w.heap.size) x v1) (hy : VaV w (LoV w.heap.size) y v2) : Calls Try.prog 32 #[v1, v2] w fun e w' => e = .returned (.tuple #[.int .u64 (difV x y), .int .i64 (difE x y)]) ∧ Below w.heap.size w w' := by
  have Hx := Lib.hid hx
  have Hy := Lib.hid hy
  obtain ⟨hok, A, c, rfl, hc, hA, hl⟩ := hx
  obtain ⟨hok2, B, d, rfl, hd, hB, hl2⟩ := hy
  obtain ⟨RE, hRE⟩ : ∃ z, z = difE x y := ⟨_, rfl⟩
  obtain ⟨RV, hRV⟩ : ∃ z, z = difV x y := ⟨_, rfl⟩
  rw [← hRE, ← hRV]
  obtain ⟨k, n, ix, u, s, m⟩ := x
  obtain ⟨yk, yn, yi, yu, ys, ym⟩ := y
  have HV := Lib.hid (fun W (h : Below w.heap.size w W) => Hx.out.call h)
  have HY := Lib.hid (fun W (h : Below w.heap.size w W) => Hy.out.call h)
  obtain ⟨EV, hEV⟩ : ∃ z, z = valE (⟨k, n, ix, u, s, m⟩ : Va) := ⟨_, rfl⟩
  obtain ⟨EW, hEW⟩ : ∃ z, z = valE (⟨yk, yn, yi, yu, ys, ym⟩ : Va) := ⟨_, rfl⟩
  obtain ⟨ml, hml0⟩ : ∃ z, z = m.length := ⟨_, rfl⟩
  obtain ⟨yl, hyl0⟩ : ∃ z, z = ym.length := ⟨_, rfl⟩
  simp only at hc hl hd hl2
  unfold vav at HV HY ⊢
  simp only at HV HY ⊢
  rw [← hml0] at HV hc ⊢
  rw [← hyl0] at HY hd ⊢
  have HV1 := Lib.hid (fun W (h : Below w.heap.size w W) => by have := r6Valid_any (⟨k, n, ix, u, s, m⟩ : Va) _ W (HV.out W h); rw [← hEV] at this; exact this)
  have HV2 := Lib.hid (fun W (h : Below w.heap.size w W) => by have := r6Valid_any (⟨yk, yn, yi, yu, ys, ym⟩ : Va) _ W (HY.out W h); rw [← hEW] at this; exact this)
  clear Hx Hy hc hA hl hok hml0 hd hB hl2 hok2 hyl0
  have hb0 := Lib.hid ((heap_alloc_old (w.alloc (.cells #[.int .i64 k, .int .i64 n, .int .i64 ix, .int .u64 u, .string s, .slice A ml c] 30)) (.cells #[.int .i64 yk, .int .i64 yn, .int .i64 yi, .int .u64 yu, .string ys, .slice B yl d] 30) (w.heap.size) (by simp)).trans (heap_alloc_new w (.cells #[.int .i64 k, .int .i64 n, .int .i64 ix, .int .u64 u, .string s, .slice A ml c] 30)))
  have hb1 := Lib.hid (heap_alloc_new_at (w.alloc (.cells #[.int .i64 k, .int .i64 n, .int .i64 ix, .int .u64 u, .string s, .slice A ml c] 30)) (.cells #[.int .i64 yk, .int .i64 yn, .int .i64 yi, .int .u64 yu, .string ys, .slice B yl d] 30) (n := w.heap.size + 1) (by simp))
  have hBw : Below w.heap.size w ((w.alloc (.cells #[.int .i64 k, .int .i64 n, .int .i64 ix, .int .u64 u, .string s, .slice A ml c] 30)).alloc (.cells #[.int .i64 yk, .int .i64 yn, .int .i64 yi, .int .u64 yu, .string ys, .slice B yl d] 30)) := (((Below.refl w.heap.size w).alloc (Nat.le_refl _) (.cells #[.int .i64 k, .int .i64 n, .int .i64 ix, .int .u64 u, .string s, .slice A ml c] 30)).alloc (by simp; try omega) (.cells #[.int .i64 yk, .int .i64 yn, .int .i64 yi, .int .u64 yu, .string ys, .slice B yl d] 30))
  have hz : ((w.alloc (.cells #[.int .i64 k, .int .i64 n, .int .i64 ix, .int .u64 u, .string s, .slice A ml c] 30)).alloc (.cells #[.int .i64 yk, .int .i64 yn, .int .i64 yi, .int .u64 yu, .string ys, .slice B yl d] 30)).heap.size = w.heap.size + 2 := by simp
  obtain ⟨p0, p1, p2, p3, p4, p5⟩ := six hb0.out
  obtain ⟨q0, q1, q2, q3, q4, q5⟩ := six hb1.out
  go_enter Try.func32, Try.ntmps32
  go_wp2_with fail
  clear p0 p1 p2 p3 p4 p5 q0 q1 q2 q3 q4 q5
  generalize ((w.alloc (.cells #[.int .i64 k, .int .i64 n, .int .i64 ix, .int .u64 u, .string s, .slice A ml c] 30)).alloc (.cells #[.int .i64 yk, .int .i64 yn, .int .i64 yi, .int .u64 yu, .string ys, .slice B yl d] 30)) = w2 at *
  have HF := Lib.hid (show ∀ W, Below (w.heap.size + 2) w2 W → (fun W : World => (W.cell? ⟨w.heap.size, 0, none⟩ = some (.int .i64 k) ∧ W.cell? ⟨w.heap.size, 1, none⟩ = some (.int .i64 n) ∧ W.cell? ⟨w.heap.size, 2, none⟩ = some (.int .i64 ix) ∧ W.cell? ⟨w.heap.size, 3, none⟩ = some (.int .u64 u) ∧ W.cell? ⟨w.heap.size, 4, none⟩ = some (.string s) ∧ W.cell? ⟨w.heap.size, 5, none⟩ = some (.slice A ml c)) ∧ (W.cell? ⟨w.heap.size + 1, 0, none⟩ = some (.int .i64 yk) ∧ W.cell? ⟨w.heap.size + 1, 1, none⟩ = some (.int .i64 yn) ∧ W.cell? ⟨w.heap.size + 1, 2, none⟩ = some (.int .i64 yi) ∧ W.cell? ⟨w.heap.size + 1, 3, none⟩ = some (.int .u64 yu) ∧ W.cell? ⟨w.heap.size + 1, 4, none⟩ = some (.string ys) ∧ W.cell? ⟨w.heap.size + 1, 5, none⟩ = some (.slice B yl d))) W from fun W h => ⟨six ((h.block _ (by omega)).trans hb0.out), six ((h.block _ (by omega)).trans hb1.out)⟩)
  have HW := Lib.hid (fun W (h : Below (w.heap.size + 2) w2 W) => (hBw.trans (h.mono (by omega)) : Below w.heap.size w W))
  have HZ := Lib.hid (fun W (h : Below (w.heap.size + 2) w2 W) => (hz ▸ h.size : w.heap.size + 2 ≤ W.heap.size))
  have HG := Lib.hid (fun W W' (h : Below (w.heap.size + 2) w2 W) (h' : Below W.heap.size W W') => (h.trans (h'.mono (HZ.out W h)) : Below (w.heap.size + 2) w2 W'))
  have g2 : Below (w.heap.size + 2) w2 w2 := Below.refl _ _
  clear hb0 hb1 hz
  have HQ := Lib.hid (And.intro hEV (And.intro hEW (And.intro hRE hRV)))
  refine Calls.mono (HV1.out w2 hBw) ?_
  clear HV1
  rintro e w3 ⟨rfl, h3⟩
  have g3 := HG.out _ _ g2 h3
  clear h3 g2 hBw
  obtain ⟨⟨p0, p1, p2, p3, p4, p5⟩, ⟨q0, q1, q2, q3, q4, q5⟩⟩ := HF.out _ g3
  by_cases hvz : EV = 0
  · subst hvz
    clear hEV hEW hRE hRV
    go_wp2_with fail
    refine Calls.mono (HV2.out w3 (HW.out _ g3)) ?_
    clear HV2
    rintro e w4 ⟨rfl, h4⟩
    have g4 := HG.out _ _ g3 h4
    clear h4
    clear p0 p1 p2 p3 p4 p5 q0 q1 q2 q3 q4 q5
    obtain ⟨⟨p0, p1, p2, p3, p4, p5⟩, ⟨q0, q1, q2, q3, q4, q5⟩⟩ := HF.out _ g4
    by_cases hwz : EW = 0
    · subst hwz
      obtain ⟨ka, hka⟩ : ∃ z, z = isArrK k := ⟨_, rfl⟩
      have HA := Lib.hid (fun W => by have := arr_any k n ix W; rw [← hka] at this; exact this)
      have HKA := Lib.hid hka
      clear hka
      go_wp2_with fail
      refine Calls.mono (HA.out _) ?_
      rintro e w7 ⟨rfl, h7⟩
      have g7 := HG.out _ _ g4 h7
      clear h7
      clear p0 p1 p2 p3 p4 p5 q0 q1 q2 q3 q4 q5
      obtain ⟨⟨p0, p1, p2, p3, p4, p5⟩, ⟨q0, q1, q2, q3, q4, q5⟩⟩ := HF.out _ g7
      cases ka with
      | true =>
        cases hsq : (k == yk && n == yn && ix == yi) with
        | true =>
          have hsq2 : k = yk ∧ n = yn ∧ ix = yi := by simpa [Bool.and_eq_true, and_assoc] using hsq
          have HSQ := Lib.hid hsq
          clear hsq
          obtain ⟨rfl, rfl, rfl⟩ := hsq2
          have hE := Lib.hid (show RE = 0 from by rw [HQ.out.2.2.1]; unfold difE; rw [← HQ.out.1, ← HQ.out.2.1]; simp [← HKA.out, sortEq])
          have hR := (show RV = dffI m ym from by rw [HQ.out.2.2.2]; unfold difV; rw [← HQ.out.2.2.1, hE.out]; rfl)
          have hax := arr_eta HQ.out.1.symm HKA.out.symm
          have hay := arr_eta HQ.out.2.1.symm HKA.out.symm
          injection hax with _ _ _ a1 a2 _
          injection hay with _ _ _ b1 b2 _
          subst a1 a2 b1 b2
          have HLe := Lib.hid (fun W (h : Below w.heap.size w W) => r6Least_any k n ix m ym _ _ W (HV.out W h) (HY.out W h) HQ.out.1.symm HQ.out.2.1.symm (by have h := HKA.out; unfold isArrK at h; simpa using h.symm))
          rw [← hR] at HLe
          clear hR
          go_wp2_with fail
          refine Calls.mono (HLe.out _ (HW.out _ g7)) ?_
          rintro e w8 ⟨rfl, h8⟩
          have g8 := HG.out _ _ g7 h8
          go_wp2_with fail
          go_ret2
          exact ⟨by rw [hE.out] <;> rfl, HW.out _ g8⟩
        | false =>
          have hE := Lib.hid (show RE = 9 from by rw [HQ.out.2.2.1]; unfold difE; rw [← HQ.out.1, ← HQ.out.2.1]; simp [← HKA.out, sortEq, hsq])
          have hR := Lib.hid (show RV = 0 from by rw [HQ.out.2.2.2]; unfold difV; rw [← HQ.out.2.2.1, hE.out]; rfl)
          rcases sort_ne hsq with h1 | ⟨h1, h2⟩ | ⟨h1, h2, h3⟩
          · clear hsq
            go_wp2_with fail
            go_ret2
            exact ⟨by rw [hE.out, hR.out] <;> rfl, HW.out _ g7⟩
          · clear hsq
            go_wp2_with fail
            go_ret2
            exact ⟨by rw [hE.out, hR.out] <;> rfl, HW.out _ g7⟩
          · clear hsq
            go_wp2_with fail
            go_ret2
            exact ⟨by rw [hE.out, hR.out] <;> rfl, HW.out _ g7⟩
      | false =>
        have hE := Lib.hid (show RE = 9 from by rw [HQ.out.2.2.1]; unfold difE; rw [← HQ.out.1, ← HQ.out.2.1]; simp [← HKA.out])
        have hR := Lib.hid (show RV = 0 from by rw [HQ.out.2.2.2]; unfold difV; rw [← HQ.out.2.2.1, hE.out]; rfl)
        go_wp2_with fail
        go_ret2
        exact ⟨by rw [hE.out, hR.out] <;> rfl, HW.out _ g7⟩
    · have hwf : (EW == 0) = false := by rw [beq_eq_false_iff_ne]; exact hwz
      have hE := Lib.hid (show RE = EW from by rw [HQ.out.2.2.1]; unfold difE; rw [← HQ.out.1, ← HQ.out.2.1]; simp [hwz])
      have hR := Lib.hid (show RV = 0 from by rw [HQ.out.2.2.2]; unfold difV; rw [← HQ.out.2.2.1, hE.out, if_neg hwz])
      clear hwz
      go_wp2_with fail
      go_ret2
      exact ⟨by rw [hE.out, hR.out] <;> rfl, HW.out _ g4⟩
  · have hvf : (EV == 0) = false := by rw [beq_eq_false_iff_ne]; exact hvz
    have hE := Lib.hid (show RE = EV from by rw [HQ.out.2.2.1]; unfold difE; rw [← HQ.out.1]; simp [hvz])
    have hR := Lib.hid (show RV = 0 from by rw [HQ.out.2.2.2]; unfold difV; rw [← HQ.out.2.2.1, hE.out, if_neg hvz])
    clear hEV hEW hRE hRV hvz
    go_wp2_with fail
    go_ret2
    exact ⟨by rw [hE.out, hR.out] <;> rfl, HW.out _ g3⟩
end Go.Proofs.Ytedhbpceonhmcaa
