/-
  THE WALK of the reference's Compare and Same.
-/
import Derived.Test.YtngfgohchnkidaaVaTextsB
import Derived.Test.YtngfgohchnkidaaVaCompare
namespace Go.Proofs.Ytngfgohchnkidaa
open Go.RowKit

theorem fst0_snoc (l : List Int) (x : Int) : fst0 (l ++ [x]) = if fst0 l = 0 then x else fst0 l := by
  induction l with
  | nil => show fst0 [x] = _; simp only [fst0, if_true]; split <;> omega
  | cons a l ih =>
    rw [List.cons_append, fst0, fst0]
    by_cases h : a = 0
    · rw [if_pos h, if_pos h]; exact ih
    · rw [if_neg h, if_neg h, if_neg h]
theorem r6first_lit (zs : List Int) (n : Nat) (hn : n = zs.length) (hb : n ≤ 1000000) (W : World) (vs : Array Value) (hv : vs = (zs.map (Value.int .i64)).toArray) : Calls Try.prog 51 #[.slice (some ⟨W.heap.size, 0, none⟩) n n] (W.alloc (.cells vs 3)) fun e w' => e = .returned (.int .i64 (fst0 zs)) ∧ w' = W.alloc (.cells vs 3) := by
  subst hv
  exact r6first_any zs _ n n _ hn hb (rdi_lit W zs 3)
theorem r6first_five (z1 z2 z3 z4 z5 : Int) (W : World) : Calls Try.prog 51 #[.slice (some ⟨W.heap.size, 0, none⟩) 5 5] (W.alloc (.cells #[.int .i64 z1, .int .i64 z2, .int .i64 z3, .int .i64 z4, .int .i64 z5] 3)) fun e w' => e = .returned (.int .i64 (fst0 [z1, z2, z3, z4, z5])) ∧ w' = W.alloc (.cells #[.int .i64 z1, .int .i64 z2, .int .i64 z3, .int .i64 z4, .int .i64 z5] 3) :=
  r6first_lit [z1, z2, z3, z4, z5] 5 rfl (by decide) W _ rfl
theorem r6first_three (z1 z2 z3 : Int) (W : World) : Calls Try.prog 51 #[.slice (some ⟨W.heap.size, 0, none⟩) 3 3] (W.alloc (.cells #[.int .i64 z1, .int .i64 z2, .int .i64 z3] 3)) fun e w' => e = .returned (.int .i64 (fst0 [z1, z2, z3])) ∧ w' = W.alloc (.cells #[.int .i64 z1, .int .i64 z2, .int .i64 z3] 3) :=
  r6first_lit [z1, z2, z3] 3 rfl (by decide) W _ rfl
set_option maxHeartbeats 1000000 in
set_option maxRecDepth 100000 in
theorem r6Compare_any (x y : Va) (v1 v2 : Value) (w : World) (hx : VaV w (LoV w.heap.size) x v1) (hy : VaV w (LoV w.heap.size) y v2) : Calls Try.prog 21 #[v1, v2] w fun e w' => e = .returned (.int .i64 (vaCmp x y)) ∧ Below w.heap.size w w' := by
  obtain ⟨⟨_, _, hxs, hxe, hxl⟩, A, c, rfl, _, _, hl⟩ := hx
  obtain ⟨⟨_, _, hys, hye, hyl⟩, B, d, rfl, _, _, hm⟩ := hy
  unfold vav
  obtain ⟨R, hR⟩ : ∃ R, R = vaCmp x y := ⟨_, rfl⟩
  rw [← hR]
  have h0 := (heap_alloc_old (w.alloc (.cells #[.int .i64 x.k, .int .i64 x.n, .int .i64 x.ix, .int .u64 x.u, .string x.s, .slice A x.m.length c] 30)) (.cells #[.int .i64 y.k, .int .i64 y.n, .int .i64 y.ix, .int .u64 y.u, .string y.s, .slice B y.m.length d] 30) w.heap.size (by simp)).trans (heap_alloc_new w (.cells #[.int .i64 x.k, .int .i64 x.n, .int .i64 x.ix, .int .u64 x.u, .string x.s, .slice A x.m.length c] 30))
  have h1 := heap_alloc_new_at (w.alloc (.cells #[.int .i64 x.k, .int .i64 x.n, .int .i64 x.ix, .int .u64 x.u, .string x.s, .slice A x.m.length c] 30)) (.cells #[.int .i64 y.k, .int .i64 y.n, .int .i64 y.ix, .int .u64 y.u, .string y.s, .slice B y.m.length d] 30) (n := w.heap.size + 1) (by simp)
  have hB := ((Below.refl w.heap.size w).alloc (Nat.le_refl _) (.cells #[.int .i64 x.k, .int .i64 x.n, .int .i64 x.ix, .int .u64 x.u, .string x.s, .slice A x.m.length c] 30)).alloc (by simp) (.cells #[.int .i64 y.k, .int .i64 y.n, .int .i64 y.ix, .int .u64 y.u, .string y.s, .slice B y.m.length d] 30)
  have hz : ((w.alloc (.cells #[.int .i64 x.k, .int .i64 x.n, .int .i64 x.ix, .int .u64 x.u, .string x.s, .slice A x.m.length c] 30)).alloc (.cells #[.int .i64 y.k, .int .i64 y.n, .int .i64 y.ix, .int .u64 y.u, .string y.s, .slice B y.m.length d] 30)).heap.size = w.heap.size + 2 := by simp
  obtain ⟨s6, hs6⟩ : ∃ s6, s6 = ceO x.m y.m := ⟨_, rfl⟩
  obtain ⟨s1, hs1⟩ : ∃ s1, s1 = sg x.k y.k := ⟨_, rfl⟩
  obtain ⟨s2, hs2⟩ : ∃ s2, s2 = sg x.n y.n := ⟨_, rfl⟩
  obtain ⟨s3, hs3⟩ : ∃ s3, s3 = sg x.ix y.ix := ⟨_, rfl⟩
  obtain ⟨s4, hs4⟩ : ∃ s4, s4 = sg x.u y.u := ⟨_, rfl⟩
  obtain ⟨s5, hs5⟩ : ∃ s5, s5 = sgS x.s y.s := ⟨_, rfl⟩
  obtain ⟨s0, hs0⟩ : ∃ s0, s0 = fst0 [s1, s2, s3, s4, s5] := ⟨_, rfl⟩
  have HR := Lib.hid (show R = if s0 = 0 then ceO x.m y.m else s0 from by
    rw [hR, hs0, ← hs6, ← fst0_snoc, hs1, hs2, hs3, hs4, hs5, hs6]
    rfl)
  have C1 := Lib.hid fun W => (show Calls Try.prog 52 #[.int .i64 x.k, .int .i64 y.k] W fun e w' => e = .returned (.int .i64 s1) ∧ w' = W from hs1 ▸ r6ints_any x.k y.k W)
  have C2 := Lib.hid fun W => (show Calls Try.prog 52 #[.int .i64 x.n, .int .i64 y.n] W fun e w' => e = .returned (.int .i64 s2) ∧ w' = W from hs2 ▸ r6ints_any x.n y.n W)
  have C3 := Lib.hid fun W => (show Calls Try.prog 52 #[.int .i64 x.ix, .int .i64 y.ix] W fun e w' => e = .returned (.int .i64 s3) ∧ w' = W from hs3 ▸ r6ints_any x.ix y.ix W)
  have C4 := Lib.hid fun W => (show Calls Try.prog 53 #[.int .u64 x.u, .int .u64 y.u] W fun e w' => e = .returned (.int .i64 s4) ∧ w' = W from hs4 ▸ r6number_any x.u y.u W)
  have C5 := Lib.hid fun W => (show Calls Try.prog 54 #[.string x.s, .string y.s] W fun e w' => e = .returned (.int .i64 s5) ∧ Below W.heap.size W w' from hs5 ▸ r6texts_any x.s y.s W hxs hys)
  have C6 := Lib.hid fun (W : World) => (show Calls Try.prog 51 #[.slice (some ⟨W.heap.size, 0, none⟩) 5 5] (W.alloc (.cells #[.int .i64 s1, .int .i64 s2, .int .i64 s3, .int .i64 s4, .int .i64 s5] 3)) fun e w' => e = .returned (.int .i64 s0) ∧ w' = W.alloc (.cells #[.int .i64 s1, .int .i64 s2, .int .i64 s3, .int .i64 s4, .int .i64 s5] 3) from by rw [hs0]; exact r6first_five s1 s2 s3 s4 s5 W)
  have HL := Lib.hid hl
  have HM := Lib.hid hm
  have HXE := Lib.hid hxe
  have HYE := Lib.hid hye
  clear hs1 hs2 hs3 hs4 hs5 hs6 hs0 hR hl hm hxe hye
  go_enter Try.func21, Try.ntmps21
  go_wp2_with fail
  generalize (w.alloc (.cells #[.int .i64 x.k, .int .i64 x.n, .int .i64 x.ix, .int .u64 x.u, .string x.s, .slice A x.m.length c] 30)).alloc (.cells #[.int .i64 y.k, .int .i64 y.n, .int .i64 y.ix, .int .u64 y.u, .string y.s, .slice B y.m.length d] 30) = w0 at *
  replace hz := Lib.hid hz
  have HS := Lib.hid fun W (hW : Below w0.heap.size w0 W) => (show W.cell? ⟨w.heap.size, 0, none⟩ = some (.int .i64 x.k) ∧ W.cell? ⟨w.heap.size, 1, none⟩ = some (.int .i64 x.n) ∧ W.cell? ⟨w.heap.size, 2, none⟩ = some (.int .i64 x.ix) ∧ W.cell? ⟨w.heap.size, 3, none⟩ = some (.int .u64 x.u) ∧ W.cell? ⟨w.heap.size, 4, none⟩ = some (.string x.s) ∧ W.cell? ⟨w.heap.size + 1, 0, none⟩ = some (.int .i64 y.k) ∧ W.cell? ⟨w.heap.size + 1, 1, none⟩ = some (.int .i64 y.n) ∧ W.cell? ⟨w.heap.size + 1, 2, none⟩ = some (.int .i64 y.ix) ∧ W.cell? ⟨w.heap.size + 1, 3, none⟩ = some (.int .u64 y.u) ∧ W.cell? ⟨w.heap.size + 1, 4, none⟩ = some (.string y.s) from by
    obtain ⟨a0, a1, a2, a3, a4, _⟩ := six ((hW.block w.heap.size (by rw [hz.out]; omega)).trans h0)
    obtain ⟨b0, b1, b2, b3, b4, _⟩ := six ((hW.block (w.heap.size + 1) (by rw [hz.out]; omega)).trans h1)
    exact ⟨a0, a1, a2, a3, a4, b0, b1, b2, b3, b4⟩)
  have HT := Lib.hid fun W (hW : Below w0.heap.size w0 W) => (show W.cell? ⟨w.heap.size, 5, none⟩ = some (.slice A x.m.length c) ∧ W.cell? ⟨w.heap.size + 1, 5, none⟩ = some (.slice B y.m.length d) from by
    obtain ⟨_, _, _, _, _, a5⟩ := six ((hW.block w.heap.size (by rw [hz.out]; omega)).trans h0)
    obtain ⟨_, _, _, _, _, b5⟩ := six ((hW.block (w.heap.size + 1) (by rw [hz.out]; omega)).trans h1)
    exact ⟨a5, b5⟩)
  have hd : Below w0.heap.size w0 w0.drew := (Below.refl _ _).drew
  replace h0 := Lib.hid h0
  replace h1 := Lib.hid h1
  go_region_held3 (fun W => W.cell? ⟨w.heap.size, 0, none⟩ = some (.int .i64 x.k) ∧ W.cell? ⟨w.heap.size, 1, none⟩ = some (.int .i64 x.n) ∧ W.cell? ⟨w.heap.size, 2, none⟩ = some (.int .i64 x.ix) ∧ W.cell? ⟨w.heap.size, 3, none⟩ = some (.int .u64 x.u) ∧ W.cell? ⟨w.heap.size, 4, none⟩ = some (.string x.s) ∧ W.cell? ⟨w.heap.size + 1, 0, none⟩ = some (.int .i64 y.k) ∧ W.cell? ⟨w.heap.size + 1, 1, none⟩ = some (.int .i64 y.n) ∧ W.cell? ⟨w.heap.size + 1, 2, none⟩ = some (.int .i64 y.ix) ∧ W.cell? ⟨w.heap.size + 1, 3, none⟩ = some (.int .u64 y.u) ∧ W.cell? ⟨w.heap.size + 1, 4, none⟩ = some (.string y.s))
    (first | with_reducible exact HS.out _ hd | with_reducible exact HS.out _ hB1 | with_reducible exact HS.out _ hB2)
    (first
      | (go_at_call 52; (with_reducible refine Calls.mono (C1.out _) ?_); rintro e w2 ⟨rfl, rfl⟩)
      | (go_at_call 52; (with_reducible refine Calls.mono (C2.out _) ?_); rintro e w2 ⟨rfl, rfl⟩)
      | (go_at_call 52; (with_reducible refine Calls.mono (C3.out _) ?_); rintro e w2 ⟨rfl, rfl⟩)
      | (go_at_call 53; (with_reducible refine Calls.mono (C4.out _) ?_); rintro e w2 ⟨rfl, rfl⟩)
      | (go_at_call 54; (with_reducible refine Calls.mono (C5.out _) ?_); rintro e w1 ⟨rfl, hw1⟩; have hB1 : Below w0.heap.size w0 w1 := hd.trans (hw1.mono hd.size); have hB2 := hB1.alloc hB1.size (.cells #[.int .i64 s1, .int .i64 s2, .int .i64 s3, .int .i64 s4, .int .i64 s5] 3))
      | (go_at_call 51; (with_reducible refine Calls.mono (C6.out _) ?_); rintro e w2 ⟨rfl, rfl⟩))
  go_wp2_with fail
  clear C1 C2 C3 C4 C5 C6 HS hd
  have hd2 : Below w0.heap.size w0 (w1.alloc (.cells #[.int .i64 s1, .int .i64 s2, .int .i64 s3, .int .i64 s4, .int .i64 s5] 3)) := hB2
  clear hB1 hB2 hw1
  go_loopw [5, 6, 7, 8] (fun u v _ _ wr => ∃ (r : Int) (j : Nat), j ≤ x.m.length ∧ j ≤ y.m.length ∧ u = .int .i64 r ∧ v = .int .i64 (j : Int) ∧ Hid (R = if r = 0 then ceO (x.m.drop j) (y.m.drop j) else r) ∧ Below w0.heap.size w0 wr) (fun _ v _ _ _ => x.m.length - (intOf v).toNat)
  case atStart => exact ⟨s0, 0, Nat.zero_le _, Nat.zero_le _, rfl, rfl, Lib.hid (by rw [HR.out]; rfl), hd2⟩
  case round =>
    obtain ⟨r, j, hj1, hj2, rfl, rfl, hinv, hW⟩ := hrel
    obtain ⟨ca, cb⟩ := HT.out wr hW
    have hfin : Below w.heap.size w wr := hB.trans (hW.mono (by rw [hz.out]; omega))
    by_cases hr0 : r = 0
    · have HI := Lib.hid (show R = ceO (x.m.drop j) (y.m.drop j) from by rw [hinv.out, if_pos hr0])
      subst hr0
      by_cases hlt : j < x.m.length ∧ j < y.m.length
      · obtain ⟨k1, k2⟩ := hlt
        obtain ⟨b1, o1, rfl, hb1, x3⟩ := HL.out.get k1
        obtain ⟨b2, o2, rfl, hb2, y3⟩ := HM.out.get k2
        obtain ⟨ex, hex⟩ : ∃ ex, ex = x.m[j] := ⟨_, rfl⟩
        obtain ⟨ey, hey⟩ : ∃ ey, ey = y.m[j] := ⟨_, rfl⟩
        rw [← hex] at x3
        rw [← hey] at y3
        have hxz : ex.s.size ≤ 1000000 := by rw [hex]; exact (HXE.out _ (List.getElem_mem _)).2.2
        have hyz : ey.s.size ≤ 1000000 := by rw [hey]; exact (HYE.out _ (List.getElem_mem _)).2.2
        have hb1' : b1 < w.heap.size := hb1
        have hb2' : b2 < w.heap.size := hb2
        have hzz : w.heap.size ≤ w0.heap.size := by rw [hz.out]; omega
        have hwz : w0.heap.size ≤ wr.heap.size := hW.size
        obtain ⟨a0, a1, a2⟩ := x3.to ((hW.block b1 (by omega)).trans (hB.block b1 hb1'))
        have y4 := y3.to ((hW.block b2 (by omega)).trans (hB.block b2 hb2'))
        obtain ⟨d0, d1, d2⟩ := y4.to (heap_alloc_old wr (.cells #[.int .u64 ex.i, .int .u64 ex.u, .string ex.s] 84) b2 (by omega))
        obtain ⟨_, cb2⟩ := HT.out (wr.alloc (.cells #[.int .u64 ex.i, .int .u64 ex.u, .string ex.s] 84)) (hW.alloc hwz _)
        obtain ⟨t1, ht1⟩ : ∃ t1, t1 = sg ex.i ey.i := ⟨_, rfl⟩
        obtain ⟨t2, ht2⟩ : ∃ t2, t2 = sg ex.u ey.u := ⟨_, rfl⟩
        obtain ⟨t3, ht3⟩ : ∃ t3, t3 = sgS ex.s ey.s := ⟨_, rfl⟩
        obtain ⟨t0, ht0⟩ : ∃ t0, t0 = fst0 [t1, t2, t3] := ⟨_, rfl⟩
        have hc0 : t0 = cmpEn x.m[j] y.m[j] := by rw [ht0, ht1, ht2, ht3, hex, hey]; rfl
        have HN := Lib.hid (show R = if t0 = 0 then ceO (x.m.drop (j + 1)) (y.m.drop (j + 1)) else t0 from by
          rw [HI.out]
          by_cases h : t0 = 0
          · rw [if_pos h]; exact (ce_step k1 k2 (by rw [← hc0]; exact h)).1
          · rw [if_neg h, (ce_stop k1 k2 (by rw [← hc0]; exact h)).1, hc0])
        have C1 := Lib.hid fun W => (show Calls Try.prog 53 #[.int .u64 ex.i, .int .u64 ey.i] W fun e w' => e = .returned (.int .i64 t1) ∧ w' = W from ht1 ▸ r6number_any ex.i ey.i W)
        have C2 := Lib.hid fun W => (show Calls Try.prog 53 #[.int .u64 ex.u, .int .u64 ey.u] W fun e w' => e = .returned (.int .i64 t2) ∧ w' = W from ht2 ▸ r6number_any ex.u ey.u W)
        have C3 := Lib.hid fun W => (show Calls Try.prog 54 #[.string ex.s, .string ey.s] W fun e w' => e = .returned (.int .i64 t3) ∧ Below W.heap.size W w' from ht3 ▸ r6texts_any ex.s ey.s W hxz hyz)
        have C4 := Lib.hid fun (W : World) => (show Calls Try.prog 51 #[.slice (some ⟨W.heap.size, 0, none⟩) 3 3] (W.alloc (.cells #[.int .i64 t1, .int .i64 t2, .int .i64 t3] 3)) fun e w' => e = .returned (.int .i64 t0) ∧ w' = W.alloc (.cells #[.int .i64 t1, .int .i64 t2, .int .i64 t3] 3) from by rw [ht0]; exact r6first_three t1 t2 t3 W)
        have q1 : (j : Int) < (x.m.length : Int) := by omega
        have q2 : (j : Int) < (y.m.length : Int) := by omega
        have q0 : (0 : Int) ≤ (j : Int) := by omega
        have tok : Hid True := Lib.hid trivial
        have g0 := (heap_alloc_old (wr.alloc (.cells #[.int .u64 ex.i, .int .u64 ex.u, .string ex.s] 84)) (.cells #[.int .u64 ey.i, .int .u64 ey.u, .string ey.s] 84) wr.heap.size (by simp)).trans (heap_alloc_new wr (.cells #[.int .u64 ex.i, .int .u64 ex.u, .string ex.s] 84))
        have g1 := heap_alloc_new_at (wr.alloc (.cells #[.int .u64 ex.i, .int .u64 ex.u, .string ex.s] 84)) (.cells #[.int .u64 ey.i, .int .u64 ey.u, .string ey.s] 84) (n := wr.heap.size + 1) (by simp)
        have gB := ((Below.refl wr.heap.size wr).alloc (Nat.le_refl _) (.cells #[.int .u64 ex.i, .int .u64 ex.u, .string ex.s] 84)).alloc (by simp) (.cells #[.int .u64 ey.i, .int .u64 ey.u, .string ey.s] 84)
        have gz : ((wr.alloc (.cells #[.int .u64 ex.i, .int .u64 ex.u, .string ex.s] 84)).alloc (.cells #[.int .u64 ey.i, .int .u64 ey.u, .string ey.s] 84)).heap.size = wr.heap.size + 2 := by simp
        clear hc0 ht0 ht1 ht2 ht3 hex hey x3 y3 y4 HI hinv hxz hyz
        go_wp2_with fail
        generalize (wr.alloc (.cells #[.int .u64 ex.i, .int .u64 ex.u, .string ex.s] 84)).alloc (.cells #[.int .u64 ey.i, .int .u64 ey.u, .string ey.s] 84) = w2 at *
        replace gz := Lib.hid gz
        have HS := Lib.hid fun W (hW : Below w2.heap.size w2 W) => (show W.cell? ⟨wr.heap.size, 0, none⟩ = some (.int .u64 ex.i) ∧ W.cell? ⟨wr.heap.size, 1, none⟩ = some (.int .u64 ex.u) ∧ W.cell? ⟨wr.heap.size, 2, none⟩ = some (.string ex.s) ∧ W.cell? ⟨wr.heap.size + 1, 0, none⟩ = some (.int .u64 ey.i) ∧ W.cell? ⟨wr.heap.size + 1, 1, none⟩ = some (.int .u64 ey.u) ∧ W.cell? ⟨wr.heap.size + 1, 2, none⟩ = some (.string ey.s) from by
          obtain ⟨e0, e1, e2⟩ := three ((hW.block wr.heap.size (by rw [gz.out]; omega)).trans g0)
          obtain ⟨f0, f1, f2⟩ := three ((hW.block (wr.heap.size + 1) (by rw [gz.out]; omega)).trans g1)
          exact ⟨e0, e1, e2, f0, f1, f2⟩)
        have hd : Below w2.heap.size w2 w2.drew := (Below.refl _ _).drew
        replace g0 := Lib.hid g0
        replace g1 := Lib.hid g1
        have hgz : wr.heap.size ≤ w2.heap.size := by rw [gz.out]; omega
        go_region_held3 (fun W => W.cell? ⟨wr.heap.size, 0, none⟩ = some (.int .u64 ex.i) ∧ W.cell? ⟨wr.heap.size, 1, none⟩ = some (.int .u64 ex.u) ∧ W.cell? ⟨wr.heap.size, 2, none⟩ = some (.string ex.s) ∧ W.cell? ⟨wr.heap.size + 1, 0, none⟩ = some (.int .u64 ey.i) ∧ W.cell? ⟨wr.heap.size + 1, 1, none⟩ = some (.int .u64 ey.u) ∧ W.cell? ⟨wr.heap.size + 1, 2, none⟩ = some (.string ey.s))
          (first | with_reducible exact HS.out _ hd | with_reducible exact HS.out _ hB1 | with_reducible exact HS.out _ hB2)
          (first
            | (go_at_call 53; have t4 := tok; clear t4 tok; (with_reducible refine Calls.mono (C1.out _) ?_); rintro e w3 ⟨rfl, rfl⟩)
            | (go_at_call 53; (with_reducible refine Calls.mono (C2.out _) ?_); rintro e w3 ⟨rfl, rfl⟩)
            | (go_at_call 54; (with_reducible refine Calls.mono (C3.out _) ?_); rintro e w3 ⟨rfl, hw3⟩; have hB1 : Below w2.heap.size w2 w3 := hd.trans (hw3.mono hd.size); have hB2 := hB1.alloc hB1.size (.cells #[.int .i64 t1, .int .i64 t2, .int .i64 t3] 3))
            | (go_at_call 51; (with_reducible refine Calls.mono (C4.out _) ?_); rintro e w4 ⟨rfl, rfl⟩))
        have hlast := hW.trans ((gB.trans (hB2.mono hgz)).mono hwz)
        go_wp2_with fail
        go_roundw
        case rel => exact ⟨t0, j + 1, by omega, by omega, rfl, by go_num, HN, hlast⟩
        case measure => simp [intOf]; omega
      · have hRz := Lib.hid (show R = sg x.m.length y.m.length from by rw [HI.out]; exact (ce_end hj1 hj2 (by omega)).1)
        have HC := Lib.hid fun W => r6ints_any x.m.length y.m.length W
        obtain ⟨sv, hsv⟩ : ∃ sv, sv = sg x.m.length y.m.length := ⟨_, rfl⟩
        rw [← hsv] at hRz HC
        clear hsv hinv HI
        by_cases q1 : (j : Int) < (x.m.length : Int)
        · have q2 : ¬ (j : Int) < (y.m.length : Int) := by omega
          go_wp2_with (go_at_call 52; refine Calls.mono (HC.out _) ?_; rintro e w1 ⟨rfl, rfl⟩)
          go_ret
          exact ⟨congrArg (fun q => Ending.returned (.int .i64 q)) hRz.out.symm, hfin⟩
        · go_wp2_with (go_at_call 52; refine Calls.mono (HC.out _) ?_; rintro e w1 ⟨rfl, rfl⟩)
          go_ret
          exact ⟨congrArg (fun q => Ending.returned (.int .i64 q)) hRz.out.symm, hfin⟩
    · have hRr := Lib.hid (show R = r from by rw [hinv.out, if_neg hr0])
      have hrf : (r == 0) = false := by simpa using hr0
      have hrn : (r != 0) = true := by simpa using hr0
      clear hr0 hinv
      by_cases q1 : (j : Int) < (x.m.length : Int)
      · by_cases q2 : (j : Int) < (y.m.length : Int)
        all_goals
          go_wp2_with fail
          go_ret
          exact ⟨congrArg (fun q => Ending.returned (.int .i64 q)) hRr.out.symm, hfin⟩
      · go_wp2_with fail
        go_ret
        exact ⟨congrArg (fun q => Ending.returned (.int .i64 q)) hRr.out.symm, hfin⟩
end Go.Proofs.Ytngfgohchnkidaa
