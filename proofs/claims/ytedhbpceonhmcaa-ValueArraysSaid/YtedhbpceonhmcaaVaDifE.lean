/-
  THE WALK of the program's Diff, of any two values. Written by gen/genr6sel.py.
-/
import Derived.Test.YtedhbpceonhmcaaR6Dif
import Derived.Test.YtedhbpceonhmcaaVaDiff
namespace Go.Proofs.Ytedhbpceonhmcaa
open Go.RowKit

set_option maxHeartbeats 8000000 in
set_option maxRecDepth 100000 in
theorem vDiffE_any (x y : Va) (v1 v2 : Value) (w : World) (hx : VaV w (LoV w.heap.size) x v1) (hy : VaV w (LoV w.heap.size) y v2) : Calls Try.prog 31 #[v1, v2] w fun e w' => e = .returned (.tuple #[.int .u64 (difV x y), .int .i64 (difE x y)]) ∧ Below w.heap.size w w' := by
  by_cases hgood : (valE x = 0 ∧ valE y = 0) ∧ isArrK x.k = true ∧ sortEq x y = true
  · obtain ⟨⟨h1, h2⟩, h3, h4⟩ := hgood
    have hE : difE x y = 0 := by unfold difE; simp [h1, h2, h3, h4]
    have hR : difV x y = dffI x.m y.m := by unfold difV; rw [hE]; rfl
    rw [hE, hR]
    obtain ⟨k, n, ix, u, s, m⟩ := x
    obtain ⟨yk, yn, yi, yu, ys, ym⟩ := y
    have h5 : k = yk ∧ n = yn ∧ ix = yi := by unfold sortEq at h4; simpa [Bool.and_eq_true, and_assoc] using h4
    obtain ⟨rfl, rfl, rfl⟩ := h5
    exact vDiff_any k n ix u yu s ys m ym v1 v2 w hx hy h1 h2 h3
  have HNG := Lib.hid hgood
  clear hgood
  have Hx := Lib.hid hx
  have Hy := Lib.hid hy
  obtain ⟨hok, A, c, rfl, hc, hA, hl⟩ := hx
  obtain ⟨hok2, B, d, rfl, hd, hB, hl2⟩ := hy
  obtain ⟨RE, hRE⟩ : ∃ z, z = difE x y := ⟨_, rfl⟩
  obtain ⟨RV, hRV⟩ : ∃ z, z = difV x y := ⟨_, rfl⟩
  rw [← hRE, ← hRV]
  obtain ⟨k, n, ix, u, s, m⟩ := x
  obtain ⟨yk, yn, yi, yu, ys, ym⟩ := y
  have HV := Lib.hid (fun W (h : Below w.heap.size w W) => Hx.out.call h)
  have HY := Lib.hid (fun W (h : Below w.heap.size w W) => Hy.out.call h)
  obtain ⟨EV, hEV⟩ : ∃ z, z = valE (⟨k, n, ix, u, s, m⟩ : Va) := ⟨_, rfl⟩
  obtain ⟨EW, hEW⟩ : ∃ z, z = valE (⟨yk, yn, yi, yu, ys, ym⟩ : Va) := ⟨_, rfl⟩
  obtain ⟨ml, hml0⟩ : ∃ z, z = m.length := ⟨_, rfl⟩
  obtain ⟨yl, hyl0⟩ : ∃ z, z = ym.length := ⟨_, rfl⟩
  simp only at hc hl hd hl2
  unfold vav at HV HY ⊢
  simp only at HV HY ⊢
  rw [← hml0] at HV hc ⊢
  rw [← hyl0] at HY hd ⊢
  have HV1 := Lib.hid (fun W (h : Below w.heap.size w W) => by have := vValid_any (⟨k, n, ix, u, s, m⟩ : Va) _ W (HV.out W h); rw [← hEV] at this; exact this)
  have HV2 := Lib.hid (fun W (h : Below w.heap.size w W) => by have := vValid_any (⟨yk, yn, yi, yu, ys, ym⟩ : Va) _ W (HY.out W h); rw [← hEW] at this; exact this)
  clear Hx Hy hc hA hl hok hml0 hd hB hl2 hok2 hyl0
  have hb0 := Lib.hid ((heap_alloc_old (w.alloc (.cells #[.int .i64 k, .int .i64 n, .int .i64 ix, .int .u64 u, .string s, .slice A ml c] 35)) (.cells #[.int .i64 yk, .int .i64 yn, .int .i64 yi, .int .u64 yu, .string ys, .slice B yl d] 35) (w.heap.size) (by simp)).trans (heap_alloc_new w (.cells #[.int .i64 k, .int .i64 n, .int .i64 ix, .int .u64 u, .string s, .slice A ml c] 35)))
  have hb1 := Lib.hid (heap_alloc_new_at (w.alloc (.cells #[.int .i64 k, .int .i64 n, .int .i64 ix, .int .u64 u, .string s, .slice A ml c] 35)) (.cells #[.int .i64 yk, .int .i64 yn, .int .i64 yi, .int .u64 yu, .string ys, .slice B yl d] 35) (n := w.heap.size + 1) (by simp))
  have hBw : Below w.heap.size w ((w.alloc (.cells #[.int .i64 k, .int .i64 n, .int .i64 ix, .int .u64 u, .string s, .slice A ml c] 35)).alloc (.cells #[.int .i64 yk, .int .i64 yn, .int .i64 yi, .int .u64 yu, .string ys, .slice B yl d] 35)) := (((Below.refl w.heap.size w).alloc (Nat.le_refl _) (.cells #[.int .i64 k, .int .i64 n, .int .i64 ix, .int .u64 u, .string s, .slice A ml c] 35)).alloc (by simp; try omega) (.cells #[.int .i64 yk, .int .i64 yn, .int .i64 yi, .int .u64 yu, .string ys, .slice B yl d] 35))
  have hz : ((w.alloc (.cells #[.int .i64 k, .int .i64 n, .int .i64 ix, .int .u64 u, .string s, .slice A ml c] 35)).alloc (.cells #[.int .i64 yk, .int .i64 yn, .int .i64 yi, .int .u64 yu, .string ys, .slice B yl d] 35)).heap.size = w.heap.size + 2 := by simp
  obtain ⟨p0, p1, p2, p3, p4, p5⟩ := six hb0.out
  obtain ⟨q0, q1, q2, q3, q4, q5⟩ := six hb1.out
  go_enter Try.func31, Try.ntmps31
  go_wp2_with fail
  clear p0 p1 p2 p3 p4 p5 q0 q1 q2 q3 q4 q5
  generalize ((w.alloc (.cells #[.int .i64 k, .int .i64 n, .int .i64 ix, .int .u64 u, .string s, .slice A ml c] 35)).alloc (.cells #[.int .i64 yk, .int .i64 yn, .int .i64 yi, .int .u64 yu, .string ys, .slice B yl d] 35)) = w2 at *
  have HF := Lib.hid (show ∀ W, Below (w.heap.size + 2) w2 W → (fun W : World => (W.cell? ⟨w.heap.size, 0, none⟩ = some (.int .i64 k) ∧ W.cell? ⟨w.heap.size, 1, none⟩ = some (.int .i64 n) ∧ W.cell? ⟨w.heap.size, 2, none⟩ = some (.int .i64 ix) ∧ W.cell? ⟨w.heap.size, 3, none⟩ = some (.int .u64 u) ∧ W.cell? ⟨w.heap.size, 4, none⟩ = some (.string s) ∧ W.cell? ⟨w.heap.size, 5, none⟩ = some (.slice A ml c)) ∧ (W.cell? ⟨w.heap.size + 1, 0, none⟩ = some (.int .i64 yk) ∧ W.cell? ⟨w.heap.size + 1, 1, none⟩ = some (.int .i64 yn) ∧ W.cell? ⟨w.heap.size + 1, 2, none⟩ = some (.int .i64 yi) ∧ W.cell? ⟨w.heap.size + 1, 3, none⟩ = some (.int .u64 yu) ∧ W.cell? ⟨w.heap.size + 1, 4, none⟩ = some (.string ys) ∧ W.cell? ⟨w.heap.size + 1, 5, none⟩ = some (.slice B yl d))) W from fun W h => ⟨six ((h.block _ (by omega)).trans hb0.out), six ((h.block _ (by omega)).trans hb1.out)⟩)
  have HW := Lib.hid (fun W (h : Below (w.heap.size + 2) w2 W) => (hBw.trans (h.mono (by omega)) : Below w.heap.size w W))
  have HZ := Lib.hid (fun W (h : Below (w.heap.size + 2) w2 W) => (hz ▸ h.size : w.heap.size + 2 ≤ W.heap.size))
  have HG := Lib.hid (fun W W' (h : Below (w.heap.size + 2) w2 W) (h' : Below W.heap.size W W') => (h.trans (h'.mono (HZ.out W h)) : Below (w.heap.size + 2) w2 W'))
  have g2 : Below (w.heap.size + 2) w2 w2 := Below.refl _ _
  clear hb0 hb1 hz
  have HQ := Lib.hid (And.intro hEV (And.intro hEW (And.intro hRE hRV)))
  have hd : Below (w.heap.size + 2) w2 w2.drew := g2.drew
  clear g2 hBw
  by_cases hvz : EV = 0
  · subst hvz
    by_cases hwz : EW = 0
    · subst hwz
      clear hEV hEW hRE hRV
      have HOR := Lib.hid (show (if (0 : Int) ≠ 0 then (0 : Int) else 0) = 0 from rfl)
      refine wp_region_held_drew (S := fun W => (W.cell? ⟨w.heap.size, 0, none⟩ = some (.int .i64 k) ∧ W.cell? ⟨w.heap.size, 1, none⟩ = some (.int .i64 n) ∧ W.cell? ⟨w.heap.size, 2, none⟩ = some (.int .i64 ix) ∧ W.cell? ⟨w.heap.size, 3, none⟩ = some (.int .u64 u) ∧ W.cell? ⟨w.heap.size, 4, none⟩ = some (.string s) ∧ W.cell? ⟨w.heap.size, 5, none⟩ = some (.slice A ml c)) ∧ (W.cell? ⟨w.heap.size + 1, 0, none⟩ = some (.int .i64 yk) ∧ W.cell? ⟨w.heap.size + 1, 1, none⟩ = some (.int .i64 yn) ∧ W.cell? ⟨w.heap.size + 1, 2, none⟩ = some (.int .i64 yi) ∧ W.cell? ⟨w.heap.size + 1, 3, none⟩ = some (.int .u64 yu) ∧ W.cell? ⟨w.heap.size + 1, 4, none⟩ = some (.string ys) ∧ W.cell? ⟨w.heap.size + 1, 5, none⟩ = some (.slice B yl d))) (by kernel_rfl) (HF.out _ hd) (fun hHeld => ?_)
      (try simp only [List.size_toArray, List.length_cons, List.length_nil, Nat.zero_add, Nat.reduceAdd])
      refine wpAnyH_takeL (i := 0) (v := ?v120) rfl (by kernel_rfl) (by kernel_rfl) (by kernel_rfl) (fun _ _ _ h => h) (Or.inl ⟨by rfl, ?y120⟩) (by assumption) ?r120
      case y120 => (intro W hSw; (try dsimp only at hSw); go_simp; try with_reducible rfl)
      (try simp only [Act.put, List.setIfInBounds_toArray, List.set_cons_zero, List.set_cons_succ])
      refine wpAnyH_takeL (i := 2) (v := ?v121) rfl (by kernel_rfl) (by kernel_rfl) (by kernel_rfl) (fun _ _ _ h => h) (Or.inl ⟨by rfl, ?y121⟩) (by assumption) ?r121
      case y121 => (intro W hSw; (try dsimp only at hSw); go_simp; try with_reducible rfl)
      (try simp only [Act.put, List.setIfInBounds_toArray, List.set_cons_zero, List.set_cons_succ])
      refine wpAnyH_ready (rs := [1]) (by kernel_rfl) (by simp) ?_
      refine consL rfl (fun K hK => ?_) AllReadyH.nil
      go_simp
      refine Calls.mono (HV1.out _ (HW.out _ hd)) ?_
      rintro e w3 ⟨rfl, h3⟩
      have g3 := HG.out _ _ hd h3
      (try dsimp only)
      refine hK.out _ _ (HF.out _ g3) (fun hHeld => ?_)
      clear hK K
      (try simp only [Act.put, List.setIfInBounds_toArray, List.set_cons_zero, List.set_cons_succ])
      refine wpAnyH_ready (rs := [3]) (by kernel_rfl) (by simp) ?_
      refine consL rfl (fun K hK => ?_) AllReadyH.nil
      go_simp
      refine Calls.mono (HV2.out _ (HW.out _ g3)) ?_
      rintro e w4 ⟨rfl, h4⟩
      have g4 := HG.out _ _ g3 h4
      (try dsimp only)
      refine hK.out _ _ (HF.out _ g4) (fun hHeld => ?_)
      clear hK K
      (try simp only [Act.put, List.setIfInBounds_toArray, List.set_cons_zero, List.set_cons_succ])
      refine wpAnyH_ready (rs := [4]) (by kernel_rfl) (by simp) ?_
      refine consL rfl (fun K hK => ?_) AllReadyH.nil
      go_simp
      have g5 := g4.alloc (HZ.out _ g4) (.cells #[.int .i64 0, .int .i64 0] 31)
      have hl5 := two_lists (heap_alloc_new w4 (.cells #[.int .i64 0, .int .i64 0] 31))
      (try dsimp only)
      refine hK.out _ _ (HF.out _ g5) (fun hHeld => ?_)
      clear hK K
      (try simp only [Act.put, List.setIfInBounds_toArray, List.set_cons_zero, List.set_cons_succ])
      refine wpAnyH_ready (rs := [5]) (by kernel_rfl) (by simp) ?_
      refine consL rfl (fun K hK => ?_) AllReadyH.nil
      go_simp
      refine Calls.mono (cOrErr_any 0 0 w4.heap.size 2 _ hl5.1 hl5.2) ?_
      rw [HOR.out]
      rintro e w6 ⟨rfl, rfl⟩
      (try dsimp only)
      refine hK.out _ _ (HF.out _ g5) (fun hHeld => ?_)
      clear hK K
      (try simp only [Act.put, List.setIfInBounds_toArray, List.set_cons_zero, List.set_cons_succ])
      refine wpAnyH_takeL (i := 6) (v := ?v122) rfl (by kernel_rfl) (by kernel_rfl) (by kernel_rfl) (fun _ _ _ h => h) (Or.inl ⟨by rfl, ?y122⟩) (by assumption) ?r122
      case y122 => (intro W hSw; (try dsimp only at hSw); go_simp; try with_reducible rfl)
      (try simp only [Act.put, List.setIfInBounds_toArray, List.set_cons_zero, List.set_cons_succ])
      refine wpAnyH_done (by kernel_rfl) ?_ _
      obtain ⟨⟨p0, p1, p2, p3, p4, p5⟩, ⟨q0, q1, q2, q3, q4, q5⟩⟩ := HF.out _ g5
      go_wp2_with fail
      obtain ⟨ka, hka⟩ : ∃ z, z = isArrK k := ⟨_, rfl⟩
      have HA := Lib.hid (fun W => by have := visArray_any k n ix W; rw [← hka] at this; exact this)
      have HKA := Lib.hid hka
      clear hka
      go_wp2_with fail
      refine Calls.mono (HA.out _) ?_
      rintro e w7 ⟨rfl, h7⟩
      have g7 := HG.out _ _ g5 h7
      clear h7
      clear p0 p1 p2 p3 p4 p5 q0 q1 q2 q3 q4 q5
      obtain ⟨⟨p0, p1, p2, p3, p4, p5⟩, ⟨q0, q1, q2, q3, q4, q5⟩⟩ := HF.out _ g7
      cases ka with
      | true =>
        cases hsq : (k == yk && n == yn && ix == yi) with
        | true =>
          have hsq2 : k = yk ∧ n = yn ∧ ix = yi := by simpa [Bool.and_eq_true, and_assoc] using hsq
          have HSQ := Lib.hid hsq
          clear hsq
          obtain ⟨rfl, rfl, rfl⟩ := hsq2
          exact absurd ⟨⟨HQ.out.1.symm, HQ.out.2.1.symm⟩, HKA.out.symm, HSQ.out⟩ HNG.out
        | false =>
          have hE := Lib.hid (show RE = 9 from by rw [HQ.out.2.2.1]; unfold difE; rw [← HQ.out.1, ← HQ.out.2.1]; simp [← HKA.out, sortEq, hsq])
          have hR := Lib.hid (show RV = 0 from by rw [HQ.out.2.2.2]; unfold difV; rw [← HQ.out.2.2.1, hE.out]; rfl)
          rcases sort_ne hsq with h1 | ⟨h1, h2⟩ | ⟨h1, h2, h3⟩
          · clear hsq
            go_wp2_with fail
            go_ret2
            exact ⟨by rw [hE.out, hR.out] <;> rfl, HW.out _ g7⟩
          · clear hsq
            go_wp2_with fail
            go_ret2
            exact ⟨by rw [hE.out, hR.out] <;> rfl, HW.out _ g7⟩
          · clear hsq
            go_wp2_with fail
            go_ret2
            exact ⟨by rw [hE.out, hR.out] <;> rfl, HW.out _ g7⟩
      | false =>
        have hE := Lib.hid (show RE = 9 from by rw [HQ.out.2.2.1]; unfold difE; rw [← HQ.out.1, ← HQ.out.2.1]; simp [← HKA.out])
        have hR := Lib.hid (show RV = 0 from by rw [HQ.out.2.2.2]; unfold difV; rw [← HQ.out.2.2.1, hE.out]; rfl)
        go_wp2_with fail
        go_ret2
        exact ⟨by rw [hE.out, hR.out] <;> rfl, HW.out _ g7⟩
    · have hwf : (EW == 0) = false := by rw [beq_eq_false_iff_ne]; exact hwz
      have hE := Lib.hid (show RE = EW from by rw [HQ.out.2.2.1]; unfold difE; rw [← HQ.out.1, ← HQ.out.2.1]; simp [hwz])
      have hR := Lib.hid (show RV = 0 from by rw [HQ.out.2.2.2]; unfold difV; rw [← HQ.out.2.2.1, hE.out, if_neg hwz])
      have HOR := Lib.hid (show (if (0 : Int) ≠ 0 then (0 : Int) else EW) = EW from rfl)
      clear hwz hEV hEW hRE hRV
      refine wp_region_held_drew (S := fun W => (W.cell? ⟨w.heap.size, 0, none⟩ = some (.int .i64 k) ∧ W.cell? ⟨w.heap.size, 1, none⟩ = some (.int .i64 n) ∧ W.cell? ⟨w.heap.size, 2, none⟩ = some (.int .i64 ix) ∧ W.cell? ⟨w.heap.size, 3, none⟩ = some (.int .u64 u) ∧ W.cell? ⟨w.heap.size, 4, none⟩ = some (.string s) ∧ W.cell? ⟨w.heap.size, 5, none⟩ = some (.slice A ml c)) ∧ (W.cell? ⟨w.heap.size + 1, 0, none⟩ = some (.int .i64 yk) ∧ W.cell? ⟨w.heap.size + 1, 1, none⟩ = some (.int .i64 yn) ∧ W.cell? ⟨w.heap.size + 1, 2, none⟩ = some (.int .i64 yi) ∧ W.cell? ⟨w.heap.size + 1, 3, none⟩ = some (.int .u64 yu) ∧ W.cell? ⟨w.heap.size + 1, 4, none⟩ = some (.string ys) ∧ W.cell? ⟨w.heap.size + 1, 5, none⟩ = some (.slice B yl d))) (by kernel_rfl) (HF.out _ hd) (fun hHeld => ?_)
      (try simp only [List.size_toArray, List.length_cons, List.length_nil, Nat.zero_add, Nat.reduceAdd])
      refine wpAnyH_takeL (i := 0) (v := ?v123) rfl (by kernel_rfl) (by kernel_rfl) (by kernel_rfl) (fun _ _ _ h => h) (Or.inl ⟨by rfl, ?y123⟩) (by assumption) ?r123
      case y123 => (intro W hSw; (try dsimp only at hSw); go_simp; try with_reducible rfl)
      (try simp only [Act.put, List.setIfInBounds_toArray, List.set_cons_zero, List.set_cons_succ])
      refine wpAnyH_takeL (i := 2) (v := ?v124) rfl (by kernel_rfl) (by kernel_rfl) (by kernel_rfl) (fun _ _ _ h => h) (Or.inl ⟨by rfl, ?y124⟩) (by assumption) ?r124
      case y124 => (intro W hSw; (try dsimp only at hSw); go_simp; try with_reducible rfl)
      (try simp only [Act.put, List.setIfInBounds_toArray, List.set_cons_zero, List.set_cons_succ])
      refine wpAnyH_ready (rs := [1]) (by kernel_rfl) (by simp) ?_
      refine consL rfl (fun K hK => ?_) AllReadyH.nil
      go_simp
      refine Calls.mono (HV1.out _ (HW.out _ hd)) ?_
      rintro e w3 ⟨rfl, h3⟩
      have g3 := HG.out _ _ hd h3
      (try dsimp only)
      refine hK.out _ _ (HF.out _ g3) (fun hHeld => ?_)
      clear hK K
      (try simp only [Act.put, List.setIfInBounds_toArray, List.set_cons_zero, List.set_cons_succ])
      refine wpAnyH_ready (rs := [3]) (by kernel_rfl) (by simp) ?_
      refine consL rfl (fun K hK => ?_) AllReadyH.nil
      go_simp
      refine Calls.mono (HV2.out _ (HW.out _ g3)) ?_
      rintro e w4 ⟨rfl, h4⟩
      have g4 := HG.out _ _ g3 h4
      (try dsimp only)
      refine hK.out _ _ (HF.out _ g4) (fun hHeld => ?_)
      clear hK K
      (try simp only [Act.put, List.setIfInBounds_toArray, List.set_cons_zero, List.set_cons_succ])
      refine wpAnyH_ready (rs := [4]) (by kernel_rfl) (by simp) ?_
      refine consL rfl (fun K hK => ?_) AllReadyH.nil
      go_simp
      have g5 := g4.alloc (HZ.out _ g4) (.cells #[.int .i64 0, .int .i64 EW] 31)
      have hl5 := two_lists (heap_alloc_new w4 (.cells #[.int .i64 0, .int .i64 EW] 31))
      (try dsimp only)
      refine hK.out _ _ (HF.out _ g5) (fun hHeld => ?_)
      clear hK K
      (try simp only [Act.put, List.setIfInBounds_toArray, List.set_cons_zero, List.set_cons_succ])
      refine wpAnyH_ready (rs := [5]) (by kernel_rfl) (by simp) ?_
      refine consL rfl (fun K hK => ?_) AllReadyH.nil
      go_simp
      refine Calls.mono (cOrErr_any 0 EW w4.heap.size 2 _ hl5.1 hl5.2) ?_
      rw [HOR.out]
      rintro e w6 ⟨rfl, rfl⟩
      (try dsimp only)
      refine hK.out _ _ (HF.out _ g5) (fun hHeld => ?_)
      clear hK K
      (try simp only [Act.put, List.setIfInBounds_toArray, List.set_cons_zero, List.set_cons_succ])
      refine wpAnyH_takeL (i := 6) (v := ?v125) rfl (by kernel_rfl) (by kernel_rfl) (by kernel_rfl) (fun _ _ _ h => h) (Or.inl ⟨by rfl, ?y125⟩) (by assumption) ?r125
      case y125 => (intro W hSw; (try dsimp only at hSw); go_simp; try with_reducible rfl)
      (try simp only [Act.put, List.setIfInBounds_toArray, List.set_cons_zero, List.set_cons_succ])
      refine wpAnyH_done (by kernel_rfl) ?_ _
      go_wp2_with fail
      go_ret2
      exact ⟨by rw [hE.out, hR.out] <;> rfl, HW.out _ g5⟩
  · have hvf : (EV == 0) = false := by rw [beq_eq_false_iff_ne]; exact hvz
    have hE := Lib.hid (show RE = EV from by rw [HQ.out.2.2.1]; unfold difE; rw [← HQ.out.1]; simp [hvz])
    have hR := Lib.hid (show RV = 0 from by rw [HQ.out.2.2.2]; unfold difV; rw [← HQ.out.2.2.1, hE.out, if_neg hvz])
    have HOR := Lib.hid (show (if EV ≠ 0 then EV else EW) = EV from if_pos hvz)
    clear hEV hEW hRE hRV hvz
    refine wp_region_held_drew (S := fun W => (W.cell? ⟨w.heap.size, 0, none⟩ = some (.int .i64 k) ∧ W.cell? ⟨w.heap.size, 1, none⟩ = some (.int .i64 n) ∧ W.cell? ⟨w.heap.size, 2, none⟩ = some (.int .i64 ix) ∧ W.cell? ⟨w.heap.size, 3, none⟩ = some (.int .u64 u) ∧ W.cell? ⟨w.heap.size, 4, none⟩ = some (.string s) ∧ W.cell? ⟨w.heap.size, 5, none⟩ = some (.slice A ml c)) ∧ (W.cell? ⟨w.heap.size + 1, 0, none⟩ = some (.int .i64 yk) ∧ W.cell? ⟨w.heap.size + 1, 1, none⟩ = some (.int .i64 yn) ∧ W.cell? ⟨w.heap.size + 1, 2, none⟩ = some (.int .i64 yi) ∧ W.cell? ⟨w.heap.size + 1, 3, none⟩ = some (.int .u64 yu) ∧ W.cell? ⟨w.heap.size + 1, 4, none⟩ = some (.string ys) ∧ W.cell? ⟨w.heap.size + 1, 5, none⟩ = some (.slice B yl d))) (by kernel_rfl) (HF.out _ hd) (fun hHeld => ?_)
    (try simp only [List.size_toArray, List.length_cons, List.length_nil, Nat.zero_add, Nat.reduceAdd])
    refine wpAnyH_takeL (i := 0) (v := ?v126) rfl (by kernel_rfl) (by kernel_rfl) (by kernel_rfl) (fun _ _ _ h => h) (Or.inl ⟨by rfl, ?y126⟩) (by assumption) ?r126
    case y126 => (intro W hSw; (try dsimp only at hSw); go_simp; try with_reducible rfl)
    (try simp only [Act.put, List.setIfInBounds_toArray, List.set_cons_zero, List.set_cons_succ])
    refine wpAnyH_takeL (i := 2) (v := ?v127) rfl (by kernel_rfl) (by kernel_rfl) (by kernel_rfl) (fun _ _ _ h => h) (Or.inl ⟨by rfl, ?y127⟩) (by assumption) ?r127
    case y127 => (intro W hSw; (try dsimp only at hSw); go_simp; try with_reducible rfl)
    (try simp only [Act.put, List.setIfInBounds_toArray, List.set_cons_zero, List.set_cons_succ])
    refine wpAnyH_ready (rs := [1]) (by kernel_rfl) (by simp) ?_
    refine consL rfl (fun K hK => ?_) AllReadyH.nil
    go_simp
    refine Calls.mono (HV1.out _ (HW.out _ hd)) ?_
    rintro e w3 ⟨rfl, h3⟩
    have g3 := HG.out _ _ hd h3
    (try dsimp only)
    refine hK.out _ _ (HF.out _ g3) (fun hHeld => ?_)
    clear hK K
    (try simp only [Act.put, List.setIfInBounds_toArray, List.set_cons_zero, List.set_cons_succ])
    refine wpAnyH_ready (rs := [3]) (by kernel_rfl) (by simp) ?_
    refine consL rfl (fun K hK => ?_) AllReadyH.nil
    go_simp
    refine Calls.mono (HV2.out _ (HW.out _ g3)) ?_
    rintro e w4 ⟨rfl, h4⟩
    have g4 := HG.out _ _ g3 h4
    (try dsimp only)
    refine hK.out _ _ (HF.out _ g4) (fun hHeld => ?_)
    clear hK K
    (try simp only [Act.put, List.setIfInBounds_toArray, List.set_cons_zero, List.set_cons_succ])
    refine wpAnyH_ready (rs := [4]) (by kernel_rfl) (by simp) ?_
    refine consL rfl (fun K hK => ?_) AllReadyH.nil
    go_simp
    have g5 := g4.alloc (HZ.out _ g4) (.cells #[.int .i64 EV, .int .i64 EW] 31)
    have hl5 := two_lists (heap_alloc_new w4 (.cells #[.int .i64 EV, .int .i64 EW] 31))
    (try dsimp only)
    refine hK.out _ _ (HF.out _ g5) (fun hHeld => ?_)
    clear hK K
    (try simp only [Act.put, List.setIfInBounds_toArray, List.set_cons_zero, List.set_cons_succ])
    refine wpAnyH_ready (rs := [5]) (by kernel_rfl) (by simp) ?_
    refine consL rfl (fun K hK => ?_) AllReadyH.nil
    go_simp
    refine Calls.mono (cOrErr_any EV EW w4.heap.size 2 _ hl5.1 hl5.2) ?_
    rw [HOR.out]
    rintro e w6 ⟨rfl, rfl⟩
    (try dsimp only)
    refine hK.out _ _ (HF.out _ g5) (fun hHeld => ?_)
    clear hK K
    (try simp only [Act.put, List.setIfInBounds_toArray, List.set_cons_zero, List.set_cons_succ])
    refine wpAnyH_takeL (i := 6) (v := ?v128) rfl (by kernel_rfl) (by kernel_rfl) (by kernel_rfl) (fun _ _ _ h => h) (Or.inl ⟨by rfl, ?y128⟩) (by assumption) ?r128
    case y128 => (intro W hSw; (try dsimp only at hSw); go_simp; try with_reducible rfl)
    (try simp only [Act.put, List.setIfInBounds_toArray, List.set_cons_zero, List.set_cons_succ])
    refine wpAnyH_done (by kernel_rfl) ?_ _
    go_wp2_with fail
    go_ret2
    exact ⟨by rw [hE.out, hR.out] <;> rfl, HW.out _ g5⟩
end Go.Proofs.Ytedhbpceonhmcaa
