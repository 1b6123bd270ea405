/-
  THE WALK of the program's Diff, of two valid arrays of one sort. Written by gen/genvdiff.py.
-/
import Derived.Test.YtngfgohchnkidaaVaSel
import Derived.Test.YtngfgohchnkidaaVaCmpE
import Derived.Test.YtngfgohchnkidaaVaPut
import Derived.BigQuiet
namespace Go.Proofs.Ytngfgohchnkidaa
open Go.RowKit

/-- the least index at which two rows part -/
def dffI (l m : List En) : Int := match l.drop (ceN l m), m.drop (ceN l m) with
  | [], [] => 0
  | [], y :: _ => y.i
  | x :: _, [] => x.i
  | x :: _, y :: _ => if x.i ≤ y.i then x.i else y.i
theorem ceN_le (l m : List En) : ceN l m ≤ l.length ∧ ceN l m ≤ m.length := by
  induction l generalizing m with
  | nil => cases m <;> simp [ceN]
  | cons x l ih =>
    cases m with
    | nil => simp [ceN]
    | cons y m =>
      have := ih m
      simp only [ceN]
      split <;> simp <;> omega

set_option maxHeartbeats 4000000 in
set_option maxRecDepth 100000 in
theorem vDiff_any (k n ix u u2 : Int) (s s2 : ByteArray) (m m2 : List En) (v1 v2 : Value) (w : World) (hx : VaV w (LoV w.heap.size) ⟨k, n, ix, u, s, m⟩ v1) (hy : VaV w (LoV w.heap.size) ⟨k, n, ix, u2, s2, m2⟩ v2) (h1 : valE ⟨k, n, ix, u, s, m⟩ = 0) (h2 : valE ⟨k, n, ix, u2, s2, m2⟩ = 0) (hk : isArrK k = true) :
    Calls Try.prog 31 #[v1, v2] w fun e w' => e = .returned (.tuple #[.int .u64 (dffI m m2), .int .i64 0]) ∧ Below w.heap.size w w' := by
  have Hx := Lib.hid hx
  have Hy := Lib.hid hy
  obtain ⟨hok, A, c, rfl, hc, hA, hl⟩ := hx
  obtain ⟨hok2, B, d, rfl, hd, hB, hl2⟩ := hy
  have hml := hok.2.2.2.2
  have hml2 := hok2.2.2.2.2
  simp only at hc hl hml hd hl2 hml2
  obtain ⟨ml, hml0⟩ : ∃ z, z = m.length := ⟨_, rfl⟩
  obtain ⟨ml2, hml20⟩ : ∃ z, z = m2.length := ⟨_, rfl⟩
  have HML := Lib.hid hml0
  have HML2 := Lib.hid hml20
  show Calls Try.prog 31 #[vav k n ix u s A m.length c, vav k n ix u2 s2 B m2.length d] w _
  have hB2 : Below w.heap.size w ((w.alloc (.cells #[.int .i64 k, .int .i64 n, .int .i64 ix, .int .u64 u, .string s, .slice A ml c] 35)).alloc (.cells #[.int .i64 k, .int .i64 n, .int .i64 ix, .int .u64 u2, .string s2, .slice B ml2 d] 35)) := ((Below.refl _ _).alloc (Nat.le_refl _) _).alloc (by simp) _
  have hz2 : ((w.alloc (.cells #[.int .i64 k, .int .i64 n, .int .i64 ix, .int .u64 u, .string s, .slice A ml c] 35)).alloc (.cells #[.int .i64 k, .int .i64 n, .int .i64 ix, .int .u64 u2, .string s2, .slice B ml2 d] 35)).heap.size = w.heap.size + 2 := by simp
  have g0 : ((w.alloc (.cells #[.int .i64 k, .int .i64 n, .int .i64 ix, .int .u64 u, .string s, .slice A ml c] 35)).alloc (.cells #[.int .i64 k, .int .i64 n, .int .i64 ix, .int .u64 u2, .string s2, .slice B ml2 d] 35)).heap[w.heap.size]? = some (.cells #[.int .i64 k, .int .i64 n, .int .i64 ix, .int .u64 u, .string s, .slice A ml c] 35 (0, 0)) := (heap_alloc_old _ _ _ (by simp)).trans (heap_alloc_new w _)
  have g1 : ((w.alloc (.cells #[.int .i64 k, .int .i64 n, .int .i64 ix, .int .u64 u, .string s, .slice A ml c] 35)).alloc (.cells #[.int .i64 k, .int .i64 n, .int .i64 ix, .int .u64 u2, .string s2, .slice B ml2 d] 35)).heap[w.heap.size + 1]? = some (.cells #[.int .i64 k, .int .i64 n, .int .i64 ix, .int .u64 u2, .string s2, .slice B ml2 d] 35 (0, 0)) := heap_alloc_new_at _ _ (by simp)
  have HC := Lib.hid fun (W : World) (h : Below (w.heap.size + 2) ((w.alloc (.cells #[.int .i64 k, .int .i64 n, .int .i64 ix, .int .u64 u, .string s, .slice A ml c] 35)).alloc (.cells #[.int .i64 k, .int .i64 n, .int .i64 ix, .int .u64 u2, .string s2, .slice B ml2 d] 35)) W) => (show W.cell? ⟨w.heap.size, 0, none⟩ = some (.int .i64 k) ∧ W.cell? ⟨w.heap.size, 1, none⟩ = some (.int .i64 n) ∧ W.cell? ⟨w.heap.size, 2, none⟩ = some (.int .i64 ix) ∧ W.cell? ⟨w.heap.size, 3, none⟩ = some (.int .u64 u) ∧ W.cell? ⟨w.heap.size, 4, none⟩ = some (.string s) ∧ W.cell? ⟨w.heap.size, 5, none⟩ = some (.slice A ml c) from six ((h.block _ (by omega)).trans g0))
  have HY := Lib.hid fun (W : World) (h : Below (w.heap.size + 2) ((w.alloc (.cells #[.int .i64 k, .int .i64 n, .int .i64 ix, .int .u64 u, .string s, .slice A ml c] 35)).alloc (.cells #[.int .i64 k, .int .i64 n, .int .i64 ix, .int .u64 u2, .string s2, .slice B ml2 d] 35)) W) => (show W.cell? ⟨w.heap.size + 1, 0, none⟩ = some (.int .i64 k) ∧ W.cell? ⟨w.heap.size + 1, 1, none⟩ = some (.int .i64 n) ∧ W.cell? ⟨w.heap.size + 1, 2, none⟩ = some (.int .i64 ix) ∧ W.cell? ⟨w.heap.size + 1, 3, none⟩ = some (.int .u64 u2) ∧ W.cell? ⟨w.heap.size + 1, 4, none⟩ = some (.string s2) ∧ W.cell? ⟨w.heap.size + 1, 5, none⟩ = some (.slice B ml2 d) from six ((h.block _ (by omega)).trans g1))
  have HB := Lib.hid fun (W : World) (h : Below (w.heap.size + 2) ((w.alloc (.cells #[.int .i64 k, .int .i64 n, .int .i64 ix, .int .u64 u, .string s, .slice A ml c] 35)).alloc (.cells #[.int .i64 k, .int .i64 n, .int .i64 ix, .int .u64 u2, .string s2, .slice B ml2 d] 35)) W) => (show Below w.heap.size w W from hB2.trans (h.mono (by omega)))
  have HZ := Lib.hid fun (W : World) (h : Below (w.heap.size + 2) ((w.alloc (.cells #[.int .i64 k, .int .i64 n, .int .i64 ix, .int .u64 u, .string s, .slice A ml c] 35)).alloc (.cells #[.int .i64 k, .int .i64 n, .int .i64 ix, .int .u64 u2, .string s2, .slice B ml2 d] 35)) W) => (show w.heap.size + 2 ≤ W.heap.size from hz2 ▸ h.size)
  have hV1 := Lib.hid fun (W : World) (h : Below (w.heap.size + 2) ((w.alloc (.cells #[.int .i64 k, .int .i64 n, .int .i64 ix, .int .u64 u, .string s, .slice A ml c] 35)).alloc (.cells #[.int .i64 k, .int .i64 n, .int .i64 ix, .int .u64 u2, .string s2, .slice B ml2 d] 35)) W) => vValid_any ⟨k, n, ix, u, s, m⟩ _ W (Hx.out.call (HB.out W h))
  have hV2 := Lib.hid fun (W : World) (h : Below (w.heap.size + 2) ((w.alloc (.cells #[.int .i64 k, .int .i64 n, .int .i64 ix, .int .u64 u, .string s, .slice A ml c] 35)).alloc (.cells #[.int .i64 k, .int .i64 n, .int .i64 ix, .int .u64 u2, .string s2, .slice B ml2 d] 35)) W) => vValid_any ⟨k, n, ix, u2, s2, m2⟩ _ W (Hy.out.call (HB.out W h))
  have hCE := Lib.hid fun (W : World) (h : Below (w.heap.size + 2) ((w.alloc (.cells #[.int .i64 k, .int .i64 n, .int .i64 ix, .int .u64 u, .string s, .slice A ml c] 35)).alloc (.cells #[.int .i64 k, .int .i64 n, .int .i64 ix, .int .u64 u2, .string s2, .slice B ml2 d] 35)) W) => vcmpEntries_any m m2 A B c d W (hl.call (HB.out W h)) (hl2.call (HB.out W h)) hml hml2
  rw [h1] at hV1
  rw [h2] at hV2
  unfold vav at hV1 hV2 ⊢
  simp only at hV1 hV2
  rw [← hml0] at hV1 hCE hc ⊢
  rw [← hml20] at hV2 hCE hd ⊢
  obtain ⟨Q, hQ⟩ : ∃ z, z = ceN m m2 := ⟨_, rfl⟩
  obtain ⟨O, hO⟩ : ∃ z, z = ceO m m2 := ⟨_, rfl⟩
  have hQ1 : Q ≤ ml := by rw [hQ, hml0]; exact (ceN_le m m2).1
  have hQ2 : Q ≤ ml2 := by rw [hQ, hml20]; exact (ceN_le m m2).2
  obtain ⟨R, hR⟩ : ∃ z, z = dffI m m2 := ⟨_, rfl⟩
  have HR := Lib.hid (show R = match m.drop Q, m2.drop Q with | [], [] => 0 | [], y :: _ => y.i | x :: _, [] => x.i | x :: _, y :: _ => if x.i ≤ y.i then x.i else y.i from by rw [hR, hQ]; rfl)
  rw [← hQ, ← hO] at hCE
  rw [← hR]
  have hIA := Lib.hid fun W => visArray_any k n ix W
  rw [hk] at hIA
  have HS := Lib.hid fun (W : World) (h : Below (w.heap.size + 2) ((w.alloc (.cells #[.int .i64 k, .int .i64 n, .int .i64 ix, .int .u64 u, .string s, .slice A ml c] 35)).alloc (.cells #[.int .i64 k, .int .i64 n, .int .i64 ix, .int .u64 u2, .string s2, .slice B ml2 d] 35)) W) => (show W.cell? ⟨w.heap.size, 0, none⟩ = some (.int .i64 k) ∧ W.cell? ⟨w.heap.size, 1, none⟩ = some (.int .i64 n) ∧ W.cell? ⟨w.heap.size, 2, none⟩ = some (.int .i64 ix) ∧ W.cell? ⟨w.heap.size, 3, none⟩ = some (.int .u64 u) ∧ W.cell? ⟨w.heap.size, 4, none⟩ = some (.string s) ∧ W.cell? ⟨w.heap.size, 5, none⟩ = some (.slice A ml c) ∧ W.cell? ⟨w.heap.size + 1, 0, none⟩ = some (.int .i64 k) ∧ W.cell? ⟨w.heap.size + 1, 1, none⟩ = some (.int .i64 n) ∧ W.cell? ⟨w.heap.size + 1, 2, none⟩ = some (.int .i64 ix) ∧ W.cell? ⟨w.heap.size + 1, 3, none⟩ = some (.int .u64 u2) ∧ W.cell? ⟨w.heap.size + 1, 4, none⟩ = some (.string s2) ∧ W.cell? ⟨w.heap.size + 1, 5, none⟩ = some (.slice B ml2 d) from by
    obtain ⟨a0, a1, a2, a3, a4, a5⟩ := HC.out W h
    obtain ⟨b0, b1, b2, b3, b4, b5⟩ := HY.out W h
    exact ⟨a0, a1, a2, a3, a4, a5, b0, b1, b2, b3, b4, b5⟩)
  have hdd : Below (w.heap.size + 2) ((w.alloc (.cells #[.int .i64 k, .int .i64 n, .int .i64 ix, .int .u64 u, .string s, .slice A ml c] 35)).alloc (.cells #[.int .i64 k, .int .i64 n, .int .i64 ix, .int .u64 u2, .string s2, .slice B ml2 d] 35)) ((w.alloc (.cells #[.int .i64 k, .int .i64 n, .int .i64 ix, .int .u64 u, .string s, .slice A ml c] 35)).alloc (.cells #[.int .i64 k, .int .i64 n, .int .i64 ix, .int .u64 u2, .string s2, .slice B ml2 d] 35)).drew := (Below.refl _ _).drew
  have HO := Lib.hid fun (W : World) (g : Nat) (h : W.heap[g]? = some (.cells #[.int .i64 0, .int .i64 0] 31 (0, 0))) => (show Calls Try.prog 67 #[.slice (some ⟨g, 0, none⟩) 2 2] W fun e w' => e = .returned (.int .i64 0) ∧ w' = W from
    cOrErr_any 0 0 g 2 W (by rw [cell_of_row W g 0 _ _ _ h]; rfl) (by rw [cell_of_row W g 1 _ _ _ h]; rfl))
  replace hl := Lib.hid hl
  replace hl2 := Lib.hid hl2
  replace hB2 := Lib.hid hB2
  replace g0 := Lib.hid g0
  replace g1 := Lib.hid g1
  replace hA := Lib.hid hA
  replace hB := Lib.hid hB
  clear hml0 hml20 hok hok2 h1 h2 hk hR hQ hO hml hml2
  have hq0 : (0 : Int) ≤ (Q : Int) := by omega
  have hq1 : (Q : Int) ≤ (ml : Int) := by omega
  have hq2 : (Q : Int) ≤ (ml2 : Int) := by omega
  have hq3 : (Q : Int) ≤ (c : Int) := by omega
  have hq4 : (Q : Int) ≤ (d : Int) := by omega
  have hq5 : (ml : Int) ≤ (c : Int) := by omega
  have hq6 : (ml2 : Int) ≤ (d : Int) := by omega
  by_cases e1 : Q = ml
  · subst e1
    have hx0 : m.drop Q = [] := List.drop_eq_nil_of_le (by have := HML.out; omega)
    by_cases e2 : Q = ml2
    · subst e2
      have hy0 : m2.drop Q = [] := List.drop_eq_nil_of_le (by have := HML2.out; omega)
      have HR2 := Lib.hid (show R = 0 from by rw [HR.out, hx0, hy0])
      clear hx0 hy0
      cases A with
      | none =>
        have hc0 : c = 0 := hA.out rfl
        subst hc0
        obtain rfl : Q = 0 := by omega
        cases B with
        | none =>
          have hd0 : d = 0 := hB.out rfl
          subst hd0
          go_enter Try.func31, Try.ntmps31
          go_wp2_with fail
          go_region_held3 (fun W => W.cell? ⟨w.heap.size, 0, none⟩ = some (.int .i64 k) ∧ W.cell? ⟨w.heap.size, 1, none⟩ = some (.int .i64 n) ∧ W.cell? ⟨w.heap.size, 2, none⟩ = some (.int .i64 ix) ∧ W.cell? ⟨w.heap.size, 3, none⟩ = some (.int .u64 u) ∧ W.cell? ⟨w.heap.size, 4, none⟩ = some (.string s) ∧ W.cell? ⟨w.heap.size, 5, none⟩ = some (.slice none 0 0) ∧ W.cell? ⟨w.heap.size + 1, 0, none⟩ = some (.int .i64 k) ∧ W.cell? ⟨w.heap.size + 1, 1, none⟩ = some (.int .i64 n) ∧ W.cell? ⟨w.heap.size + 1, 2, none⟩ = some (.int .i64 ix) ∧ W.cell? ⟨w.heap.size + 1, 3, none⟩ = some (.int .u64 u2) ∧ W.cell? ⟨w.heap.size + 1, 4, none⟩ = some (.string s2) ∧ W.cell? ⟨w.heap.size + 1, 5, none⟩ = some (.slice none 0 0))
            (first | with_reducible exact HS.out _ hdd | with_reducible exact HS.out _ hm4 | with_reducible exact HS.out _ hm5 | with_reducible exact HS.out _ hm6)
            (first
              | (go_at_call 13; (with_reducible refine Calls.mono (hV1.out _ hdd) ?_); rintro e w4 ⟨rfl, hw4⟩; have hm4 := hdd.trans (hw4.mono (HZ.out _ hdd)))
              | (go_at_call 13; (with_reducible refine Calls.mono (hV2.out _ hm4) ?_); rintro e w5 ⟨rfl, hw5⟩; have hm5 := hm4.trans (hw5.mono (HZ.out _ hm4)); have hm6 := hm5.alloc (HZ.out _ hm5) (.cells #[.int .i64 0, .int .i64 0] 31); have hO6 := HO.out _ _ (heap_alloc_new w5 (.cells #[.int .i64 0, .int .i64 0] 31)))
              | (go_at_call 67; (with_reducible refine Calls.mono hO6 ?_); rintro e w6 ⟨rfl, rfl⟩))
          have hlast := hm6
          obtain ⟨p0, p1, p2, p3, p4, p5⟩ := HC.out _ hlast
          obtain ⟨y0, y1, y2, y3, y4, y5⟩ := HY.out _ hlast
          clear hO6
          generalize (w5.alloc (.cells #[.int .i64 0, .int .i64 0] 31)) = w6 at *
          go_wp2_with (first
            | (go_at_call 63; refine Calls.mono (hIA.out _) ?_; rintro e w7 ⟨rfl, hw7⟩; replace hlast := hlast.trans (hw7.mono (HZ.out _ hlast)); clear p0 p1 p2 p3 p4 p5 y0 y1 y2 y3 y4 y5; obtain ⟨p0, p1, p2, p3, p4, p5⟩ := HC.out _ hlast; obtain ⟨y0, y1, y2, y3, y4, y5⟩ := HY.out _ hlast)
            | (go_at_call 46; refine Calls.mono (hCE.out _ hlast) ?_; rintro e w8 ⟨rfl, hw8⟩; replace hlast := hlast.trans (hw8.mono (HZ.out _ hlast)); clear p0 p1 p2 p3 p4 p5 y0 y1 y2 y3 y4 y5; obtain ⟨p0, p1, p2, p3, p4, p5⟩ := HC.out _ hlast; obtain ⟨y0, y1, y2, y3, y4, y5⟩ := HY.out _ hlast))
          clear p0 p1 p2 p3 p4 y0 y1 y2 y3 y4
          go_quiet (fail)
          have hdn := below_dnv (N := nq) hlast
          clear p5 y5 hlast
          generalize w8.drewN nq = wd at *
          go_wp2_with fail
          all_goals
            go_ret2
            exact ⟨by rw [HR2.out]; rfl, HB.out _ hdn⟩

        | some bd =>
          obtain ⟨b2, o2, t2⟩ := bd
          go_enter Try.func31, Try.ntmps31
          go_wp2_with fail
          go_region_held3 (fun W => W.cell? ⟨w.heap.size, 0, none⟩ = some (.int .i64 k) ∧ W.cell? ⟨w.heap.size, 1, none⟩ = some (.int .i64 n) ∧ W.cell? ⟨w.heap.size, 2, none⟩ = some (.int .i64 ix) ∧ W.cell? ⟨w.heap.size, 3, none⟩ = some (.int .u64 u) ∧ W.cell? ⟨w.heap.size, 4, none⟩ = some (.string s) ∧ W.cell? ⟨w.heap.size, 5, none⟩ = some (.slice none 0 0) ∧ W.cell? ⟨w.heap.size + 1, 0, none⟩ = some (.int .i64 k) ∧ W.cell? ⟨w.heap.size + 1, 1, none⟩ = some (.int .i64 n) ∧ W.cell? ⟨w.heap.size + 1, 2, none⟩ = some (.int .i64 ix) ∧ W.cell? ⟨w.heap.size + 1, 3, none⟩ = some (.int .u64 u2) ∧ W.cell? ⟨w.heap.size + 1, 4, none⟩ = some (.string s2) ∧ W.cell? ⟨w.heap.size + 1, 5, none⟩ = some (.slice (some ⟨b2, o2, t2⟩) 0 d))
            (first | with_reducible exact HS.out _ hdd | with_reducible exact HS.out _ hm4 | with_reducible exact HS.out _ hm5 | with_reducible exact HS.out _ hm6)
            (first
              | (go_at_call 13; (with_reducible refine Calls.mono (hV1.out _ hdd) ?_); rintro e w4 ⟨rfl, hw4⟩; have hm4 := hdd.trans (hw4.mono (HZ.out _ hdd)))
              | (go_at_call 13; (with_reducible refine Calls.mono (hV2.out _ hm4) ?_); rintro e w5 ⟨rfl, hw5⟩; have hm5 := hm4.trans (hw5.mono (HZ.out _ hm4)); have hm6 := hm5.alloc (HZ.out _ hm5) (.cells #[.int .i64 0, .int .i64 0] 31); have hO6 := HO.out _ _ (heap_alloc_new w5 (.cells #[.int .i64 0, .int .i64 0] 31)))
              | (go_at_call 67; (with_reducible refine Calls.mono hO6 ?_); rintro e w6 ⟨rfl, rfl⟩))
          have hlast := hm6
          obtain ⟨p0, p1, p2, p3, p4, p5⟩ := HC.out _ hlast
          obtain ⟨y0, y1, y2, y3, y4, y5⟩ := HY.out _ hlast
          clear hO6
          generalize (w5.alloc (.cells #[.int .i64 0, .int .i64 0] 31)) = w6 at *
          go_wp2_with (first
            | (go_at_call 63; refine Calls.mono (hIA.out _) ?_; rintro e w7 ⟨rfl, hw7⟩; replace hlast := hlast.trans (hw7.mono (HZ.out _ hlast)); clear p0 p1 p2 p3 p4 p5 y0 y1 y2 y3 y4 y5; obtain ⟨p0, p1, p2, p3, p4, p5⟩ := HC.out _ hlast; obtain ⟨y0, y1, y2, y3, y4, y5⟩ := HY.out _ hlast)
            | (go_at_call 46; refine Calls.mono (hCE.out _ hlast) ?_; rintro e w8 ⟨rfl, hw8⟩; replace hlast := hlast.trans (hw8.mono (HZ.out _ hlast)); clear p0 p1 p2 p3 p4 p5 y0 y1 y2 y3 y4 y5; obtain ⟨p0, p1, p2, p3, p4, p5⟩ := HC.out _ hlast; obtain ⟨y0, y1, y2, y3, y4, y5⟩ := HY.out _ hlast))
          clear p0 p1 p2 p3 p4 y0 y1 y2 y3 y4
          go_quiet (fail)
          have hdn := below_dnv (N := nq) hlast
          clear p5 y5 hlast
          generalize w8.drewN nq = wd at *
          go_wp2_with fail
          all_goals
            go_ret2
            exact ⟨by rw [HR2.out]; rfl, HB.out _ hdn⟩

      | some ad =>
        obtain ⟨b1, o1, t1⟩ := ad
        cases B with
        | none =>
          have hd0 : d = 0 := hB.out rfl
          subst hd0
          obtain rfl : Q = 0 := by omega
          go_enter Try.func31, Try.ntmps31
          go_wp2_with fail
          go_region_held3 (fun W => W.cell? ⟨w.heap.size, 0, none⟩ = some (.int .i64 k) ∧ W.cell? ⟨w.heap.size, 1, none⟩ = some (.int .i64 n) ∧ W.cell? ⟨w.heap.size, 2, none⟩ = some (.int .i64 ix) ∧ W.cell? ⟨w.heap.size, 3, none⟩ = some (.int .u64 u) ∧ W.cell? ⟨w.heap.size, 4, none⟩ = some (.string s) ∧ W.cell? ⟨w.heap.size, 5, none⟩ = some (.slice (some ⟨b1, o1, t1⟩) 0 c) ∧ W.cell? ⟨w.heap.size + 1, 0, none⟩ = some (.int .i64 k) ∧ W.cell? ⟨w.heap.size + 1, 1, none⟩ = some (.int .i64 n) ∧ W.cell? ⟨w.heap.size + 1, 2, none⟩ = some (.int .i64 ix) ∧ W.cell? ⟨w.heap.size + 1, 3, none⟩ = some (.int .u64 u2) ∧ W.cell? ⟨w.heap.size + 1, 4, none⟩ = some (.string s2) ∧ W.cell? ⟨w.heap.size + 1, 5, none⟩ = some (.slice none 0 0))
            (first | with_reducible exact HS.out _ hdd | with_reducible exact HS.out _ hm4 | with_reducible exact HS.out _ hm5 | with_reducible exact HS.out _ hm6)
            (first
              | (go_at_call 13; (with_reducible refine Calls.mono (hV1.out _ hdd) ?_); rintro e w4 ⟨rfl, hw4⟩; have hm4 := hdd.trans (hw4.mono (HZ.out _ hdd)))
              | (go_at_call 13; (with_reducible refine Calls.mono (hV2.out _ hm4) ?_); rintro e w5 ⟨rfl, hw5⟩; have hm5 := hm4.trans (hw5.mono (HZ.out _ hm4)); have hm6 := hm5.alloc (HZ.out _ hm5) (.cells #[.int .i64 0, .int .i64 0] 31); have hO6 := HO.out _ _ (heap_alloc_new w5 (.cells #[.int .i64 0, .int .i64 0] 31)))
              | (go_at_call 67; (with_reducible refine Calls.mono hO6 ?_); rintro e w6 ⟨rfl, rfl⟩))
          have hlast := hm6
          obtain ⟨p0, p1, p2, p3, p4, p5⟩ := HC.out _ hlast
          obtain ⟨y0, y1, y2, y3, y4, y5⟩ := HY.out _ hlast
          clear hO6
          generalize (w5.alloc (.cells #[.int .i64 0, .int .i64 0] 31)) = w6 at *
          go_wp2_with (first
            | (go_at_call 63; refine Calls.mono (hIA.out _) ?_; rintro e w7 ⟨rfl, hw7⟩; replace hlast := hlast.trans (hw7.mono (HZ.out _ hlast)); clear p0 p1 p2 p3 p4 p5 y0 y1 y2 y3 y4 y5; obtain ⟨p0, p1, p2, p3, p4, p5⟩ := HC.out _ hlast; obtain ⟨y0, y1, y2, y3, y4, y5⟩ := HY.out _ hlast)
            | (go_at_call 46; refine Calls.mono (hCE.out _ hlast) ?_; rintro e w8 ⟨rfl, hw8⟩; replace hlast := hlast.trans (hw8.mono (HZ.out _ hlast)); clear p0 p1 p2 p3 p4 p5 y0 y1 y2 y3 y4 y5; obtain ⟨p0, p1, p2, p3, p4, p5⟩ := HC.out _ hlast; obtain ⟨y0, y1, y2, y3, y4, y5⟩ := HY.out _ hlast))
          clear p0 p1 p2 p3 p4 y0 y1 y2 y3 y4
          go_quiet (fail)
          have hdn := below_dnv (N := nq) hlast
          clear p5 y5 hlast
          generalize w8.drewN nq = wd at *
          go_wp2_with fail
          all_goals
            go_ret2
            exact ⟨by rw [HR2.out]; rfl, HB.out _ hdn⟩

        | some bd =>
          obtain ⟨b2, o2, t2⟩ := bd
          go_enter Try.func31, Try.ntmps31
          go_wp2_with fail
          go_region_held3 (fun W => W.cell? ⟨w.heap.size, 0, none⟩ = some (.int .i64 k) ∧ W.cell? ⟨w.heap.size, 1, none⟩ = some (.int .i64 n) ∧ W.cell? ⟨w.heap.size, 2, none⟩ = some (.int .i64 ix) ∧ W.cell? ⟨w.heap.size, 3, none⟩ = some (.int .u64 u) ∧ W.cell? ⟨w.heap.size, 4, none⟩ = some (.string s) ∧ W.cell? ⟨w.heap.size, 5, none⟩ = some (.slice (some ⟨b1, o1, t1⟩) Q c) ∧ W.cell? ⟨w.heap.size + 1, 0, none⟩ = some (.int .i64 k) ∧ W.cell? ⟨w.heap.size + 1, 1, none⟩ = some (.int .i64 n) ∧ W.cell? ⟨w.heap.size + 1, 2, none⟩ = some (.int .i64 ix) ∧ W.cell? ⟨w.heap.size + 1, 3, none⟩ = some (.int .u64 u2) ∧ W.cell? ⟨w.heap.size + 1, 4, none⟩ = some (.string s2) ∧ W.cell? ⟨w.heap.size + 1, 5, none⟩ = some (.slice (some ⟨b2, o2, t2⟩) Q d))
            (first | with_reducible exact HS.out _ hdd | with_reducible exact HS.out _ hm4 | with_reducible exact HS.out _ hm5 | with_reducible exact HS.out _ hm6)
            (first
              | (go_at_call 13; (with_reducible refine Calls.mono (hV1.out _ hdd) ?_); rintro e w4 ⟨rfl, hw4⟩; have hm4 := hdd.trans (hw4.mono (HZ.out _ hdd)))
              | (go_at_call 13; (with_reducible refine Calls.mono (hV2.out _ hm4) ?_); rintro e w5 ⟨rfl, hw5⟩; have hm5 := hm4.trans (hw5.mono (HZ.out _ hm4)); have hm6 := hm5.alloc (HZ.out _ hm5) (.cells #[.int .i64 0, .int .i64 0] 31); have hO6 := HO.out _ _ (heap_alloc_new w5 (.cells #[.int .i64 0, .int .i64 0] 31)))
              | (go_at_call 67; (with_reducible refine Calls.mono hO6 ?_); rintro e w6 ⟨rfl, rfl⟩))
          have hlast := hm6
          obtain ⟨p0, p1, p2, p3, p4, p5⟩ := HC.out _ hlast
          obtain ⟨y0, y1, y2, y3, y4, y5⟩ := HY.out _ hlast
          clear hO6
          generalize (w5.alloc (.cells #[.int .i64 0, .int .i64 0] 31)) = w6 at *
          go_wp2_with (first
            | (go_at_call 63; refine Calls.mono (hIA.out _) ?_; rintro e w7 ⟨rfl, hw7⟩; replace hlast := hlast.trans (hw7.mono (HZ.out _ hlast)); clear p0 p1 p2 p3 p4 p5 y0 y1 y2 y3 y4 y5; obtain ⟨p0, p1, p2, p3, p4, p5⟩ := HC.out _ hlast; obtain ⟨y0, y1, y2, y3, y4, y5⟩ := HY.out _ hlast)
            | (go_at_call 46; refine Calls.mono (hCE.out _ hlast) ?_; rintro e w8 ⟨rfl, hw8⟩; replace hlast := hlast.trans (hw8.mono (HZ.out _ hlast)); clear p0 p1 p2 p3 p4 p5 y0 y1 y2 y3 y4 y5; obtain ⟨p0, p1, p2, p3, p4, p5⟩ := HC.out _ hlast; obtain ⟨y0, y1, y2, y3, y4, y5⟩ := HY.out _ hlast))
          clear p0 p1 p2 p3 p4 y0 y1 y2 y3 y4
          go_quiet (fail)
          have hdn := below_dnv (N := nq) hlast
          clear p5 y5 hlast
          generalize w8.drewN nq = wd at *
          go_wp2_with fail
          all_goals
            go_ret2
            exact ⟨by rw [HR2.out]; rfl, HB.out _ hdn⟩

    · obtain ⟨b2, o2, rfl, hb2, t2⟩ := hl2.out.get (j := Q) (by have := HML2.out; omega)
      have hx2 : m2.drop Q = m2[Q]'(by have := HML2.out; omega) :: m2.drop (Q + 1) := List.drop_eq_getElem_cons _
      obtain ⟨y, hye⟩ : ∃ y, y = m2[Q]'(by have := HML2.out; omega) := ⟨_, rfl⟩
      rw [← hye] at t2 hx2
      have HR2 := Lib.hid (show R = y.i from by rw [HR.out, hx0, hx2])
      have hb2' : b2 < w.heap.size := hb2
      have HT := Lib.hid fun (W : World) (h : Below w.heap.size w W) => (t2.to (h.block _ hb2')).1
      have n2 : ¬ d = Q := by omega
      have f2 : (((ml2 - Q : Nat) : Int) == 0) = false := by simp; omega
      have f3 : (0 : Int) < ((ml2 - Q : Nat) : Int) := by omega
      clear t2 hx0 hx2 hye
      cases A with
      | none =>
        have hc0 : c = 0 := hA.out rfl
        subst hc0
        obtain rfl : Q = 0 := by omega
        have f5 : ((ml2 : Int) == 0) = false := by simp; omega
        have f6 : (0 : Int) < (ml2 : Int) := by omega
        go_enter Try.func31, Try.ntmps31
        go_wp2_with fail
        go_region_held3 (fun W => W.cell? ⟨w.heap.size, 0, none⟩ = some (.int .i64 k) ∧ W.cell? ⟨w.heap.size, 1, none⟩ = some (.int .i64 n) ∧ W.cell? ⟨w.heap.size, 2, none⟩ = some (.int .i64 ix) ∧ W.cell? ⟨w.heap.size, 3, none⟩ = some (.int .u64 u) ∧ W.cell? ⟨w.heap.size, 4, none⟩ = some (.string s) ∧ W.cell? ⟨w.heap.size, 5, none⟩ = some (.slice none 0 0) ∧ W.cell? ⟨w.heap.size + 1, 0, none⟩ = some (.int .i64 k) ∧ W.cell? ⟨w.heap.size + 1, 1, none⟩ = some (.int .i64 n) ∧ W.cell? ⟨w.heap.size + 1, 2, none⟩ = some (.int .i64 ix) ∧ W.cell? ⟨w.heap.size + 1, 3, none⟩ = some (.int .u64 u2) ∧ W.cell? ⟨w.heap.size + 1, 4, none⟩ = some (.string s2) ∧ W.cell? ⟨w.heap.size + 1, 5, none⟩ = some (.slice (some ⟨b2, o2, none⟩) ml2 d))
          (first | with_reducible exact HS.out _ hdd | with_reducible exact HS.out _ hm4 | with_reducible exact HS.out _ hm5 | with_reducible exact HS.out _ hm6)
          (first
            | (go_at_call 13; (with_reducible refine Calls.mono (hV1.out _ hdd) ?_); rintro e w4 ⟨rfl, hw4⟩; have hm4 := hdd.trans (hw4.mono (HZ.out _ hdd)))
            | (go_at_call 13; (with_reducible refine Calls.mono (hV2.out _ hm4) ?_); rintro e w5 ⟨rfl, hw5⟩; have hm5 := hm4.trans (hw5.mono (HZ.out _ hm4)); have hm6 := hm5.alloc (HZ.out _ hm5) (.cells #[.int .i64 0, .int .i64 0] 31); have hO6 := HO.out _ _ (heap_alloc_new w5 (.cells #[.int .i64 0, .int .i64 0] 31)))
            | (go_at_call 67; (with_reducible refine Calls.mono hO6 ?_); rintro e w6 ⟨rfl, rfl⟩))
        have hlast := hm6
        obtain ⟨p0, p1, p2, p3, p4, p5⟩ := HC.out _ hlast
        obtain ⟨y0, y1, y2, y3, y4, y5⟩ := HY.out _ hlast
        clear hO6
        generalize (w5.alloc (.cells #[.int .i64 0, .int .i64 0] 31)) = w6 at *
        go_wp2_with (first
          | (go_at_call 63; refine Calls.mono (hIA.out _) ?_; rintro e w7 ⟨rfl, hw7⟩; replace hlast := hlast.trans (hw7.mono (HZ.out _ hlast)); clear p0 p1 p2 p3 p4 p5 y0 y1 y2 y3 y4 y5; obtain ⟨p0, p1, p2, p3, p4, p5⟩ := HC.out _ hlast; obtain ⟨y0, y1, y2, y3, y4, y5⟩ := HY.out _ hlast)
          | (go_at_call 46; refine Calls.mono (hCE.out _ hlast) ?_; rintro e w8 ⟨rfl, hw8⟩; replace hlast := hlast.trans (hw8.mono (HZ.out _ hlast)); clear p0 p1 p2 p3 p4 p5 y0 y1 y2 y3 y4 y5; obtain ⟨p0, p1, p2, p3, p4, p5⟩ := HC.out _ hlast; obtain ⟨y0, y1, y2, y3, y4, y5⟩ := HY.out _ hlast))
        clear p0 p1 p2 p3 p4 y0 y1 y2 y3 y4
        go_quiet (fail)
        have hdn := below_dnv (N := nq) hlast
        clear p5 y5 hlast
        generalize w8.drewN nq = wd at *
        have c1 := HT.out _ (HB.out _ hdn)
        simp only [Nat.zero_mul, Nat.add_zero] at c1
        go_wp2_with fail
        all_goals
          go_ret2
          exact ⟨by rw [HR2.out]; rfl, HB.out _ hdn⟩

      | some ad =>
        obtain ⟨b1, o1, t1⟩ := ad
        go_enter Try.func31, Try.ntmps31
        go_wp2_with fail
        go_region_held3 (fun W => W.cell? ⟨w.heap.size, 0, none⟩ = some (.int .i64 k) ∧ W.cell? ⟨w.heap.size, 1, none⟩ = some (.int .i64 n) ∧ W.cell? ⟨w.heap.size, 2, none⟩ = some (.int .i64 ix) ∧ W.cell? ⟨w.heap.size, 3, none⟩ = some (.int .u64 u) ∧ W.cell? ⟨w.heap.size, 4, none⟩ = some (.string s) ∧ W.cell? ⟨w.heap.size, 5, none⟩ = some (.slice (some ⟨b1, o1, t1⟩) Q c) ∧ W.cell? ⟨w.heap.size + 1, 0, none⟩ = some (.int .i64 k) ∧ W.cell? ⟨w.heap.size + 1, 1, none⟩ = some (.int .i64 n) ∧ W.cell? ⟨w.heap.size + 1, 2, none⟩ = some (.int .i64 ix) ∧ W.cell? ⟨w.heap.size + 1, 3, none⟩ = some (.int .u64 u2) ∧ W.cell? ⟨w.heap.size + 1, 4, none⟩ = some (.string s2) ∧ W.cell? ⟨w.heap.size + 1, 5, none⟩ = some (.slice (some ⟨b2, o2, none⟩) ml2 d))
          (first | with_reducible exact HS.out _ hdd | with_reducible exact HS.out _ hm4 | with_reducible exact HS.out _ hm5 | with_reducible exact HS.out _ hm6)
          (first
            | (go_at_call 13; (with_reducible refine Calls.mono (hV1.out _ hdd) ?_); rintro e w4 ⟨rfl, hw4⟩; have hm4 := hdd.trans (hw4.mono (HZ.out _ hdd)))
            | (go_at_call 13; (with_reducible refine Calls.mono (hV2.out _ hm4) ?_); rintro e w5 ⟨rfl, hw5⟩; have hm5 := hm4.trans (hw5.mono (HZ.out _ hm4)); have hm6 := hm5.alloc (HZ.out _ hm5) (.cells #[.int .i64 0, .int .i64 0] 31); have hO6 := HO.out _ _ (heap_alloc_new w5 (.cells #[.int .i64 0, .int .i64 0] 31)))
            | (go_at_call 67; (with_reducible refine Calls.mono hO6 ?_); rintro e w6 ⟨rfl, rfl⟩))
        have hlast := hm6
        obtain ⟨p0, p1, p2, p3, p4, p5⟩ := HC.out _ hlast
        obtain ⟨y0, y1, y2, y3, y4, y5⟩ := HY.out _ hlast
        clear hO6
        generalize (w5.alloc (.cells #[.int .i64 0, .int .i64 0] 31)) = w6 at *
        go_wp2_with (first
          | (go_at_call 63; refine Calls.mono (hIA.out _) ?_; rintro e w7 ⟨rfl, hw7⟩; replace hlast := hlast.trans (hw7.mono (HZ.out _ hlast)); clear p0 p1 p2 p3 p4 p5 y0 y1 y2 y3 y4 y5; obtain ⟨p0, p1, p2, p3, p4, p5⟩ := HC.out _ hlast; obtain ⟨y0, y1, y2, y3, y4, y5⟩ := HY.out _ hlast)
          | (go_at_call 46; refine Calls.mono (hCE.out _ hlast) ?_; rintro e w8 ⟨rfl, hw8⟩; replace hlast := hlast.trans (hw8.mono (HZ.out _ hlast)); clear p0 p1 p2 p3 p4 p5 y0 y1 y2 y3 y4 y5; obtain ⟨p0, p1, p2, p3, p4, p5⟩ := HC.out _ hlast; obtain ⟨y0, y1, y2, y3, y4, y5⟩ := HY.out _ hlast))
        clear p0 p1 p2 p3 p4 y0 y1 y2 y3 y4
        go_quiet (fail)
        have hdn := below_dnv (N := nq) hlast
        clear p5 y5 hlast
        generalize w8.drewN nq = wd at *
        have c1 := HT.out _ (HB.out _ hdn)
        go_wp2_with fail
        all_goals
          go_ret2
          exact ⟨by rw [HR2.out]; rfl, HB.out _ hdn⟩

  · obtain ⟨b1, o1, rfl, hb1, t1⟩ := hl.out.get (j := Q) (by have := HML.out; omega)
    have hx1 : m.drop Q = m[Q]'(by have := HML.out; omega) :: m.drop (Q + 1) := List.drop_eq_getElem_cons _
    obtain ⟨x, hxe⟩ : ∃ x, x = m[Q]'(by have := HML.out; omega) := ⟨_, rfl⟩
    rw [← hxe] at t1 hx1
    have hb1' : b1 < w.heap.size := hb1
    have HT1 := Lib.hid fun (W : World) (h : Below w.heap.size w W) => (t1.to (h.block _ hb1')).1
    have n1 : ¬ c = Q := by omega
    have f1 : (((ml - Q : Nat) : Int) == 0) = false := by simp; omega
    have f4 : (0 : Int) < ((ml - Q : Nat) : Int) := by omega
    by_cases e2 : Q = ml2
    · subst e2
      have hy0 : m2.drop Q = [] := List.drop_eq_nil_of_le (by have := HML2.out; omega)
      have HR2 := Lib.hid (show R = x.i from by rw [HR.out, hx1, hy0])
      clear t1 hx1 hy0 hxe
      cases B with
      | none =>
        have hd0 : d = 0 := hB.out rfl
        subst hd0
        obtain rfl : Q = 0 := by omega
        have f5 : ((ml : Int) == 0) = false := by simp; omega
        have f6 : (0 : Int) < (ml : Int) := by omega
        go_enter Try.func31, Try.ntmps31
        go_wp2_with fail
        go_region_held3 (fun W => W.cell? ⟨w.heap.size, 0, none⟩ = some (.int .i64 k) ∧ W.cell? ⟨w.heap.size, 1, none⟩ = some (.int .i64 n) ∧ W.cell? ⟨w.heap.size, 2, none⟩ = some (.int .i64 ix) ∧ W.cell? ⟨w.heap.size, 3, none⟩ = some (.int .u64 u) ∧ W.cell? ⟨w.heap.size, 4, none⟩ = some (.string s) ∧ W.cell? ⟨w.heap.size, 5, none⟩ = some (.slice (some ⟨b1, o1, none⟩) ml c) ∧ W.cell? ⟨w.heap.size + 1, 0, none⟩ = some (.int .i64 k) ∧ W.cell? ⟨w.heap.size + 1, 1, none⟩ = some (.int .i64 n) ∧ W.cell? ⟨w.heap.size + 1, 2, none⟩ = some (.int .i64 ix) ∧ W.cell? ⟨w.heap.size + 1, 3, none⟩ = some (.int .u64 u2) ∧ W.cell? ⟨w.heap.size + 1, 4, none⟩ = some (.string s2) ∧ W.cell? ⟨w.heap.size + 1, 5, none⟩ = some (.slice none 0 0))
          (first | with_reducible exact HS.out _ hdd | with_reducible exact HS.out _ hm4 | with_reducible exact HS.out _ hm5 | with_reducible exact HS.out _ hm6)
          (first
            | (go_at_call 13; (with_reducible refine Calls.mono (hV1.out _ hdd) ?_); rintro e w4 ⟨rfl, hw4⟩; have hm4 := hdd.trans (hw4.mono (HZ.out _ hdd)))
            | (go_at_call 13; (with_reducible refine Calls.mono (hV2.out _ hm4) ?_); rintro e w5 ⟨rfl, hw5⟩; have hm5 := hm4.trans (hw5.mono (HZ.out _ hm4)); have hm6 := hm5.alloc (HZ.out _ hm5) (.cells #[.int .i64 0, .int .i64 0] 31); have hO6 := HO.out _ _ (heap_alloc_new w5 (.cells #[.int .i64 0, .int .i64 0] 31)))
            | (go_at_call 67; (with_reducible refine Calls.mono hO6 ?_); rintro e w6 ⟨rfl, rfl⟩))
        have hlast := hm6
        obtain ⟨p0, p1, p2, p3, p4, p5⟩ := HC.out _ hlast
        obtain ⟨y0, y1, y2, y3, y4, y5⟩ := HY.out _ hlast
        clear hO6
        generalize (w5.alloc (.cells #[.int .i64 0, .int .i64 0] 31)) = w6 at *
        go_wp2_with (first
          | (go_at_call 63; refine Calls.mono (hIA.out _) ?_; rintro e w7 ⟨rfl, hw7⟩; replace hlast := hlast.trans (hw7.mono (HZ.out _ hlast)); clear p0 p1 p2 p3 p4 p5 y0 y1 y2 y3 y4 y5; obtain ⟨p0, p1, p2, p3, p4, p5⟩ := HC.out _ hlast; obtain ⟨y0, y1, y2, y3, y4, y5⟩ := HY.out _ hlast)
          | (go_at_call 46; refine Calls.mono (hCE.out _ hlast) ?_; rintro e w8 ⟨rfl, hw8⟩; replace hlast := hlast.trans (hw8.mono (HZ.out _ hlast)); clear p0 p1 p2 p3 p4 p5 y0 y1 y2 y3 y4 y5; obtain ⟨p0, p1, p2, p3, p4, p5⟩ := HC.out _ hlast; obtain ⟨y0, y1, y2, y3, y4, y5⟩ := HY.out _ hlast))
        clear p0 p1 p2 p3 p4 y0 y1 y2 y3 y4
        go_quiet (fail)
        have hdn := below_dnv (N := nq) hlast
        clear p5 y5 hlast
        generalize w8.drewN nq = wd at *
        have c1 := HT1.out _ (HB.out _ hdn)
        simp only [Nat.zero_mul, Nat.add_zero] at c1
        go_wp2_with fail
        all_goals
          go_ret2
          exact ⟨by rw [HR2.out]; rfl, HB.out _ hdn⟩

      | some bd =>
        obtain ⟨b2, o2, t2⟩ := bd
        go_enter Try.func31, Try.ntmps31
        go_wp2_with fail
        go_region_held3 (fun W => W.cell? ⟨w.heap.size, 0, none⟩ = some (.int .i64 k) ∧ W.cell? ⟨w.heap.size, 1, none⟩ = some (.int .i64 n) ∧ W.cell? ⟨w.heap.size, 2, none⟩ = some (.int .i64 ix) ∧ W.cell? ⟨w.heap.size, 3, none⟩ = some (.int .u64 u) ∧ W.cell? ⟨w.heap.size, 4, none⟩ = some (.string s) ∧ W.cell? ⟨w.heap.size, 5, none⟩ = some (.slice (some ⟨b1, o1, none⟩) ml c) ∧ W.cell? ⟨w.heap.size + 1, 0, none⟩ = some (.int .i64 k) ∧ W.cell? ⟨w.heap.size + 1, 1, none⟩ = some (.int .i64 n) ∧ W.cell? ⟨w.heap.size + 1, 2, none⟩ = some (.int .i64 ix) ∧ W.cell? ⟨w.heap.size + 1, 3, none⟩ = some (.int .u64 u2) ∧ W.cell? ⟨w.heap.size + 1, 4, none⟩ = some (.string s2) ∧ W.cell? ⟨w.heap.size + 1, 5, none⟩ = some (.slice (some ⟨b2, o2, t2⟩) Q d))
          (first | with_reducible exact HS.out _ hdd | with_reducible exact HS.out _ hm4 | with_reducible exact HS.out _ hm5 | with_reducible exact HS.out _ hm6)
          (first
            | (go_at_call 13; (with_reducible refine Calls.mono (hV1.out _ hdd) ?_); rintro e w4 ⟨rfl, hw4⟩; have hm4 := hdd.trans (hw4.mono (HZ.out _ hdd)))
            | (go_at_call 13; (with_reducible refine Calls.mono (hV2.out _ hm4) ?_); rintro e w5 ⟨rfl, hw5⟩; have hm5 := hm4.trans (hw5.mono (HZ.out _ hm4)); have hm6 := hm5.alloc (HZ.out _ hm5) (.cells #[.int .i64 0, .int .i64 0] 31); have hO6 := HO.out _ _ (heap_alloc_new w5 (.cells #[.int .i64 0, .int .i64 0] 31)))
            | (go_at_call 67; (with_reducible refine Calls.mono hO6 ?_); rintro e w6 ⟨rfl, rfl⟩))
        have hlast := hm6
        obtain ⟨p0, p1, p2, p3, p4, p5⟩ := HC.out _ hlast
        obtain ⟨y0, y1, y2, y3, y4, y5⟩ := HY.out _ hlast
        clear hO6
        generalize (w5.alloc (.cells #[.int .i64 0, .int .i64 0] 31)) = w6 at *
        go_wp2_with (first
          | (go_at_call 63; refine Calls.mono (hIA.out _) ?_; rintro e w7 ⟨rfl, hw7⟩; replace hlast := hlast.trans (hw7.mono (HZ.out _ hlast)); clear p0 p1 p2 p3 p4 p5 y0 y1 y2 y3 y4 y5; obtain ⟨p0, p1, p2, p3, p4, p5⟩ := HC.out _ hlast; obtain ⟨y0, y1, y2, y3, y4, y5⟩ := HY.out _ hlast)
          | (go_at_call 46; refine Calls.mono (hCE.out _ hlast) ?_; rintro e w8 ⟨rfl, hw8⟩; replace hlast := hlast.trans (hw8.mono (HZ.out _ hlast)); clear p0 p1 p2 p3 p4 p5 y0 y1 y2 y3 y4 y5; obtain ⟨p0, p1, p2, p3, p4, p5⟩ := HC.out _ hlast; obtain ⟨y0, y1, y2, y3, y4, y5⟩ := HY.out _ hlast))
        clear p0 p1 p2 p3 p4 y0 y1 y2 y3 y4
        go_quiet (fail)
        have hdn := below_dnv (N := nq) hlast
        clear p5 y5 hlast
        generalize w8.drewN nq = wd at *
        have c1 := HT1.out _ (HB.out _ hdn)
        go_wp2_with fail
        all_goals
          go_ret2
          exact ⟨by rw [HR2.out]; rfl, HB.out _ hdn⟩

    · obtain ⟨b2, o2, rfl, hb2, t2⟩ := hl2.out.get (j := Q) (by have := HML2.out; omega)
      have hx2 : m2.drop Q = m2[Q]'(by have := HML2.out; omega) :: m2.drop (Q + 1) := List.drop_eq_getElem_cons _
      obtain ⟨y, hye⟩ : ∃ y, y = m2[Q]'(by have := HML2.out; omega) := ⟨_, rfl⟩
      rw [← hye] at t2 hx2
      have HR2 := Lib.hid (show R = if x.i ≤ y.i then x.i else y.i from by rw [HR.out, hx1, hx2])
      have hb2' : b2 < w.heap.size := hb2
      have HT := Lib.hid fun (W : World) (h : Below w.heap.size w W) => (t2.to (h.block _ hb2')).1
      have n2 : ¬ d = Q := by omega
      have f2 : (((ml2 - Q : Nat) : Int) == 0) = false := by simp; omega
      have f3 : (0 : Int) < ((ml2 - Q : Nat) : Int) := by omega
      clear t1 t2 hx1 hx2 hxe hye
      go_enter Try.func31, Try.ntmps31
      go_wp2_with fail
      go_region_held3 (fun W => W.cell? ⟨w.heap.size, 0, none⟩ = some (.int .i64 k) ∧ W.cell? ⟨w.heap.size, 1, none⟩ = some (.int .i64 n) ∧ W.cell? ⟨w.heap.size, 2, none⟩ = some (.int .i64 ix) ∧ W.cell? ⟨w.heap.size, 3, none⟩ = some (.int .u64 u) ∧ W.cell? ⟨w.heap.size, 4, none⟩ = some (.string s) ∧ W.cell? ⟨w.heap.size, 5, none⟩ = some (.slice (some ⟨b1, o1, none⟩) ml c) ∧ W.cell? ⟨w.heap.size + 1, 0, none⟩ = some (.int .i64 k) ∧ W.cell? ⟨w.heap.size + 1, 1, none⟩ = some (.int .i64 n) ∧ W.cell? ⟨w.heap.size + 1, 2, none⟩ = some (.int .i64 ix) ∧ W.cell? ⟨w.heap.size + 1, 3, none⟩ = some (.int .u64 u2) ∧ W.cell? ⟨w.heap.size + 1, 4, none⟩ = some (.string s2) ∧ W.cell? ⟨w.heap.size + 1, 5, none⟩ = some (.slice (some ⟨b2, o2, none⟩) ml2 d))
        (first | with_reducible exact HS.out _ hdd | with_reducible exact HS.out _ hm4 | with_reducible exact HS.out _ hm5 | with_reducible exact HS.out _ hm6)
        (first
          | (go_at_call 13; (with_reducible refine Calls.mono (hV1.out _ hdd) ?_); rintro e w4 ⟨rfl, hw4⟩; have hm4 := hdd.trans (hw4.mono (HZ.out _ hdd)))
          | (go_at_call 13; (with_reducible refine Calls.mono (hV2.out _ hm4) ?_); rintro e w5 ⟨rfl, hw5⟩; have hm5 := hm4.trans (hw5.mono (HZ.out _ hm4)); have hm6 := hm5.alloc (HZ.out _ hm5) (.cells #[.int .i64 0, .int .i64 0] 31); have hO6 := HO.out _ _ (heap_alloc_new w5 (.cells #[.int .i64 0, .int .i64 0] 31)))
          | (go_at_call 67; (with_reducible refine Calls.mono hO6 ?_); rintro e w6 ⟨rfl, rfl⟩))
      have hlast := hm6
      obtain ⟨p0, p1, p2, p3, p4, p5⟩ := HC.out _ hlast
      obtain ⟨y0, y1, y2, y3, y4, y5⟩ := HY.out _ hlast
      clear hO6
      generalize (w5.alloc (.cells #[.int .i64 0, .int .i64 0] 31)) = w6 at *
      go_wp2_with (first
        | (go_at_call 63; refine Calls.mono (hIA.out _) ?_; rintro e w7 ⟨rfl, hw7⟩; replace hlast := hlast.trans (hw7.mono (HZ.out _ hlast)); clear p0 p1 p2 p3 p4 p5 y0 y1 y2 y3 y4 y5; obtain ⟨p0, p1, p2, p3, p4, p5⟩ := HC.out _ hlast; obtain ⟨y0, y1, y2, y3, y4, y5⟩ := HY.out _ hlast)
        | (go_at_call 46; refine Calls.mono (hCE.out _ hlast) ?_; rintro e w8 ⟨rfl, hw8⟩; replace hlast := hlast.trans (hw8.mono (HZ.out _ hlast)); clear p0 p1 p2 p3 p4 p5 y0 y1 y2 y3 y4 y5; obtain ⟨p0, p1, p2, p3, p4, p5⟩ := HC.out _ hlast; obtain ⟨y0, y1, y2, y3, y4, y5⟩ := HY.out _ hlast))
      clear p0 p1 p2 p3 p4 y0 y1 y2 y3 y4
      go_quiet (fail)
      have hdn := below_dnv (N := nq) hlast
      clear p5 y5 hlast
      generalize w8.drewN nq = wd at *

      have c1 := HT1.out _ (HB.out _ hdn)
      have c2 := HT.out _ (HB.out _ hdn)
      by_cases hxy : x.i ≤ y.i
      · have HR3 := Lib.hid (show R = x.i from by rw [HR2.out, if_pos hxy])
        go_wp2_with fail
        go_quiet (fail)
        go_wp2_with fail
        all_goals
          go_ret2
          exact ⟨by rw [HR3.out]; rfl, below_dnv (HB.out _ hdn)⟩
      · have hxy2 : ¬ x.i ≤ y.i := hxy
        have HR3 := Lib.hid (show R = y.i from by rw [HR2.out, if_neg hxy])
        go_wp2_with fail
        go_quiet (fail)
        go_wp2_with fail
        all_goals
          go_ret2
          exact ⟨by rw [HR3.out]; rfl, below_dnv (HB.out _ hdn)⟩
end Go.Proofs.Ytngfgohchnkidaa
