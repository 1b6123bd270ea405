/-
  THE WALK of the program's Store. Written by gen/genvsto.py.
-/
import Derived.Test.YtngfgohchnkidaaVaSel
import Derived.Test.YtngfgohchnkidaaVaPut
import Derived.Test.YtngfgohchnkidaaVaCat
import Derived.BigQuiet
namespace Go.Proofs.Ytngfgohchnkidaa
open Go.RowKit

def GivesVE (w : World) (x : Va) (er : Int) (e : Ending) (w' : World) : Prop := ∃ v, e = .returned (.tuple #[v, .int .i64 er]) ∧ VaV w' (MidV w.heap.size w'.heap.size) x v ∧ Below w.heap.size w w'
theorem nilV_gives {w w' : World} {er : Int} (h : Below w.heap.size w w') : GivesVE w nilV er (.returned (.tuple #[.agg #[.int .i64 0, .int .i64 0, .int .i64 0, .int .u64 0, .string ⟨#[]⟩, .slice none 0 0], .int .i64 er])) w' := by
  refine ⟨_, rfl, ?_, h⟩
  have hk : nilV.ok := by refine ⟨⟨?_, ?_, ?_⟩, ?_, ?_, fun e he => ?_, ?_⟩ <;> simp [nilV, I64, U64] at *
  exact VaV.mk (x := nilV) (A := none) (c := 0) hk (Nat.le_refl _) (fun _ => rfl) (.inl rfl)
theorem sto_fin {w wf : World} {k n ix : Int} {l : List En} {A9 : Option Addr} {n9 c9 : Nat} (hok : (⟨k, n, ix, 0, .empty, l⟩ : Va).ok) (hn : n9 = l.length) (hc : n9 ≤ c9) (hA : A9 = none → c9 = 0) (hl : EnL wf (MidV w.heap.size wf.heap.size) l A9) (hB : Below w.heap.size w wf) :
    GivesVE w ⟨k, n, ix, 0, .empty, l⟩ 0 (.returned (.tuple #[.agg #[.int .i64 k, .int .i64 n, .int .i64 ix, .int .u64 0, .string ⟨#[]⟩, .slice A9 n9 c9], .int .i64 0])) wf := by
  subst hn
  exact ⟨_, rfl, VaV.mk hok hc hA hl, hB⟩

set_option maxHeartbeats 4000000 in
set_option maxRecDepth 100000 in
theorem vStore_any (x y : Va) (v1 v2 : Value) (i : Int) (w : World) (hx : VaV w (LoV w.heap.size) x v1) (hy : VaV w (LoV w.heap.size) y v2) (hi : U64 i) : Calls Try.prog 29 #[v1, .int .u64 i, v2] w fun e w' => GivesVE w (stoV x i y) (stoE x i y) e w' := by
  have Hx := Lib.hid hx
  have Hy := Lib.hid hy
  obtain ⟨hok, A, c, rfl, hc, hA, hl⟩ := hx
  obtain ⟨hok2, B, d, rfl, _, _, _⟩ := hy
  have hml := hok.2.2.2.2
  obtain ⟨RE, hRE⟩ : ∃ z, z = stoE x i y := ⟨_, rfl⟩
  obtain ⟨RV, hRV⟩ : ∃ z, z = stoV x i y := ⟨_, rfl⟩
  rw [← hRE, ← hRV]
  obtain ⟨k, n, ix, u, s, m⟩ := x
  obtain ⟨k2, n2, ix2, u2, s2, m2⟩ := y
  simp only at hc hl hml
  obtain ⟨ml, hml0⟩ : ∃ z, z = m.length := ⟨_, rfl⟩
  have HML := Lib.hid hml0
  show Calls Try.prog 29 #[vav k n ix u s A m.length c, .int .u64 i, vav k2 n2 ix2 u2 s2 B m2.length d] w _
  rw [← hml0] at hc hml ⊢
  have hB3 : Below w.heap.size w (((w.alloc (.cells #[.int .i64 k, .int .i64 n, .int .i64 ix, .int .u64 u, .string s, .slice A ml c] 35)).alloc (.cells #[.int .i64 k2, .int .i64 n2, .int .i64 ix2, .int .u64 u2, .string s2, .slice B m2.length d] 35)).alloc (.cells #[.int .i64 0, .int .i64 0, .int .i64 0, .int .u64 0, .string ⟨#[]⟩, .slice none 0 0] 35)) := below_alloc3v (Below.refl _ _) (Nat.le_refl _) _ _ _
  have hz3 : (((w.alloc (.cells #[.int .i64 k, .int .i64 n, .int .i64 ix, .int .u64 u, .string s, .slice A ml c] 35)).alloc (.cells #[.int .i64 k2, .int .i64 n2, .int .i64 ix2, .int .u64 u2, .string s2, .slice B m2.length d] 35)).alloc (.cells #[.int .i64 0, .int .i64 0, .int .i64 0, .int .u64 0, .string ⟨#[]⟩, .slice none 0 0] 35)).heap.size = w.heap.size + 3 := by simp
  have h0 : (((w.alloc (.cells #[.int .i64 k, .int .i64 n, .int .i64 ix, .int .u64 u, .string s, .slice A ml c] 35)).alloc (.cells #[.int .i64 k2, .int .i64 n2, .int .i64 ix2, .int .u64 u2, .string s2, .slice B m2.length d] 35)).alloc (.cells #[.int .i64 0, .int .i64 0, .int .i64 0, .int .u64 0, .string ⟨#[]⟩, .slice none 0 0] 35)).heap[w.heap.size]? = some (.cells #[.int .i64 k, .int .i64 n, .int .i64 ix, .int .u64 u, .string s, .slice A ml c] 35 (0, 0)) := (heap_alloc_old _ _ _ (by simp; omega)).trans ((heap_alloc_old _ _ _ (by simp)).trans (heap_alloc_new w _))
  have h1 : (((w.alloc (.cells #[.int .i64 k, .int .i64 n, .int .i64 ix, .int .u64 u, .string s, .slice A ml c] 35)).alloc (.cells #[.int .i64 k2, .int .i64 n2, .int .i64 ix2, .int .u64 u2, .string s2, .slice B m2.length d] 35)).alloc (.cells #[.int .i64 0, .int .i64 0, .int .i64 0, .int .u64 0, .string ⟨#[]⟩, .slice none 0 0] 35)).heap[w.heap.size + 1]? = some (.cells #[.int .i64 k2, .int .i64 n2, .int .i64 ix2, .int .u64 u2, .string s2, .slice B m2.length d] 35 (0, 0)) := (heap_alloc_old _ _ _ (by simp)).trans (heap_alloc_new_at _ _ (by simp))
  have h2 : (((w.alloc (.cells #[.int .i64 k, .int .i64 n, .int .i64 ix, .int .u64 u, .string s, .slice A ml c] 35)).alloc (.cells #[.int .i64 k2, .int .i64 n2, .int .i64 ix2, .int .u64 u2, .string s2, .slice B m2.length d] 35)).alloc (.cells #[.int .i64 0, .int .i64 0, .int .i64 0, .int .u64 0, .string ⟨#[]⟩, .slice none 0 0] 35)).heap[w.heap.size + 2]? = some (.cells #[.int .i64 0, .int .i64 0, .int .i64 0, .int .u64 0, .string ⟨#[]⟩, .slice none 0 0] 35 (0, 0)) := heap_alloc_new_at _ _ (by simp)
  have HC := Lib.hid fun (W : World) (h : Below (w.heap.size + 3) (((w.alloc (.cells #[.int .i64 k, .int .i64 n, .int .i64 ix, .int .u64 u, .string s, .slice A ml c] 35)).alloc (.cells #[.int .i64 k2, .int .i64 n2, .int .i64 ix2, .int .u64 u2, .string s2, .slice B m2.length d] 35)).alloc (.cells #[.int .i64 0, .int .i64 0, .int .i64 0, .int .u64 0, .string ⟨#[]⟩, .slice none 0 0] 35)) W) => (show W.cell? ⟨w.heap.size, 0, none⟩ = some (.int .i64 k) ∧ W.cell? ⟨w.heap.size, 1, none⟩ = some (.int .i64 n) ∧ W.cell? ⟨w.heap.size, 2, none⟩ = some (.int .i64 ix) ∧ W.cell? ⟨w.heap.size, 3, none⟩ = some (.int .u64 u) ∧ W.cell? ⟨w.heap.size, 4, none⟩ = some (.string s) ∧ W.cell? ⟨w.heap.size, 5, none⟩ = some (.slice A ml c) from six ((h.block _ (by omega)).trans h0))
  have HY := Lib.hid fun (W : World) (h : Below (w.heap.size + 3) (((w.alloc (.cells #[.int .i64 k, .int .i64 n, .int .i64 ix, .int .u64 u, .string s, .slice A ml c] 35)).alloc (.cells #[.int .i64 k2, .int .i64 n2, .int .i64 ix2, .int .u64 u2, .string s2, .slice B m2.length d] 35)).alloc (.cells #[.int .i64 0, .int .i64 0, .int .i64 0, .int .u64 0, .string ⟨#[]⟩, .slice none 0 0] 35)) W) => (show W.cell? ⟨w.heap.size + 1, 0, none⟩ = some (.int .i64 k2) ∧ W.cell? ⟨w.heap.size + 1, 1, none⟩ = some (.int .i64 n2) ∧ W.cell? ⟨w.heap.size + 1, 2, none⟩ = some (.int .i64 ix2) ∧ W.cell? ⟨w.heap.size + 1, 3, none⟩ = some (.int .u64 u2) ∧ W.cell? ⟨w.heap.size + 1, 4, none⟩ = some (.string s2) ∧ W.cell? ⟨w.heap.size + 1, 5, none⟩ = some (.slice B m2.length d) from six ((h.block _ (by omega)).trans h1))
  have HR := Lib.hid fun (W : World) (h : Below (w.heap.size + 3) (((w.alloc (.cells #[.int .i64 k, .int .i64 n, .int .i64 ix, .int .u64 u, .string s, .slice A ml c] 35)).alloc (.cells #[.int .i64 k2, .int .i64 n2, .int .i64 ix2, .int .u64 u2, .string s2, .slice B m2.length d] 35)).alloc (.cells #[.int .i64 0, .int .i64 0, .int .i64 0, .int .u64 0, .string ⟨#[]⟩, .slice none 0 0] 35)) W) => (show W.cell? ⟨w.heap.size + 2, 0, none⟩ = some (.int .i64 0) ∧ W.cell? ⟨w.heap.size + 2, 1, none⟩ = some (.int .i64 0) ∧ W.cell? ⟨w.heap.size + 2, 2, none⟩ = some (.int .i64 0) ∧ W.cell? ⟨w.heap.size + 2, 3, none⟩ = some (.int .u64 0) ∧ W.cell? ⟨w.heap.size + 2, 4, none⟩ = some (.string ⟨#[]⟩) ∧ W.cell? ⟨w.heap.size + 2, 5, none⟩ = some (.slice none 0 0) from six ((h.block _ (by omega)).trans h2))
  have HF := Lib.hid fun (W : World) (h : Below (w.heap.size + 3) (((w.alloc (.cells #[.int .i64 k, .int .i64 n, .int .i64 ix, .int .u64 u, .string s, .slice A ml c] 35)).alloc (.cells #[.int .i64 k2, .int .i64 n2, .int .i64 ix2, .int .u64 u2, .string s2, .slice B m2.length d] 35)).alloc (.cells #[.int .i64 0, .int .i64 0, .int .i64 0, .int .u64 0, .string ⟨#[]⟩, .slice none 0 0] 35)) W) (j : Nat) => (show W.frozen? ⟨w.heap.size + 2, j, none⟩ = false from blk_frozen ((h.block _ (by omega)).trans h2) j)
  have HB := Lib.hid fun (W : World) (h : Below (w.heap.size + 3) (((w.alloc (.cells #[.int .i64 k, .int .i64 n, .int .i64 ix, .int .u64 u, .string s, .slice A ml c] 35)).alloc (.cells #[.int .i64 k2, .int .i64 n2, .int .i64 ix2, .int .u64 u2, .string s2, .slice B m2.length d] 35)).alloc (.cells #[.int .i64 0, .int .i64 0, .int .i64 0, .int .u64 0, .string ⟨#[]⟩, .slice none 0 0] 35)) W) => (show Below w.heap.size w W from hB3.trans (h.mono (by omega)))
  have HZ := Lib.hid fun (W : World) (h : Below (w.heap.size + 3) (((w.alloc (.cells #[.int .i64 k, .int .i64 n, .int .i64 ix, .int .u64 u, .string s, .slice A ml c] 35)).alloc (.cells #[.int .i64 k2, .int .i64 n2, .int .i64 ix2, .int .u64 u2, .string s2, .slice B m2.length d] 35)).alloc (.cells #[.int .i64 0, .int .i64 0, .int .i64 0, .int .u64 0, .string ⟨#[]⟩, .slice none 0 0] 35)) W) => (show w.heap.size + 3 ≤ W.heap.size from hz3 ▸ h.size)
  have HL := Lib.hid fun (W : World) (h : Below (w.heap.size + 3) (((w.alloc (.cells #[.int .i64 k, .int .i64 n, .int .i64 ix, .int .u64 u, .string s, .slice A ml c] 35)).alloc (.cells #[.int .i64 k2, .int .i64 n2, .int .i64 ix2, .int .u64 u2, .string s2, .slice B m2.length d] 35)).alloc (.cells #[.int .i64 0, .int .i64 0, .int .i64 0, .int .u64 0, .string ⟨#[]⟩, .slice none 0 0] 35)) W) => (show EnL W (LoV W.heap.size) m A from hl.call (HB.out W h))
  have hV1 := Lib.hid fun (W : World) (h : Below (w.heap.size + 3) (((w.alloc (.cells #[.int .i64 k, .int .i64 n, .int .i64 ix, .int .u64 u, .string s, .slice A ml c] 35)).alloc (.cells #[.int .i64 k2, .int .i64 n2, .int .i64 ix2, .int .u64 u2, .string s2, .slice B m2.length d] 35)).alloc (.cells #[.int .i64 0, .int .i64 0, .int .i64 0, .int .u64 0, .string ⟨#[]⟩, .slice none 0 0] 35)) W) => vValid_any ⟨k, n, ix, u, s, m⟩ _ W (Hx.out.call (HB.out W h))
  have hV2 := Lib.hid fun (W : World) (h : Below (w.heap.size + 3) (((w.alloc (.cells #[.int .i64 k, .int .i64 n, .int .i64 ix, .int .u64 u, .string s, .slice A ml c] 35)).alloc (.cells #[.int .i64 k2, .int .i64 n2, .int .i64 ix2, .int .u64 u2, .string s2, .slice B m2.length d] 35)).alloc (.cells #[.int .i64 0, .int .i64 0, .int .i64 0, .int .u64 0, .string ⟨#[]⟩, .slice none 0 0] 35)) W) => vValid_any ⟨k2, n2, ix2, u2, s2, m2⟩ _ W (Hy.out.call (HB.out W h))
  obtain ⟨E1, hE1⟩ : ∃ z, z = valE ⟨k, n, ix, u, s, m⟩ := ⟨_, rfl⟩
  obtain ⟨E2, hE2⟩ : ∃ z, z = valE ⟨k2, n2, ix2, u2, s2, m2⟩ := ⟨_, rfl⟩
  rw [← hE1] at hV1
  rw [← hE2] at hV2
  unfold vav at hV1 hV2 ⊢
  simp only at hV1 hV2
  rw [← hml0] at hV1
  clear hml0
  have HS := Lib.hid fun (W : World) (h : Below (w.heap.size + 3) (((w.alloc (.cells #[.int .i64 k, .int .i64 n, .int .i64 ix, .int .u64 u, .string s, .slice A ml c] 35)).alloc (.cells #[.int .i64 k2, .int .i64 n2, .int .i64 ix2, .int .u64 u2, .string s2, .slice B m2.length d] 35)).alloc (.cells #[.int .i64 0, .int .i64 0, .int .i64 0, .int .u64 0, .string ⟨#[]⟩, .slice none 0 0] 35)) W) => (show W.cell? ⟨w.heap.size, 0, none⟩ = some (.int .i64 k) ∧ W.cell? ⟨w.heap.size, 1, none⟩ = some (.int .i64 n) ∧ W.cell? ⟨w.heap.size, 2, none⟩ = some (.int .i64 ix) ∧ W.cell? ⟨w.heap.size, 3, none⟩ = some (.int .u64 u) ∧ W.cell? ⟨w.heap.size, 4, none⟩ = some (.string s) ∧ W.cell? ⟨w.heap.size, 5, none⟩ = some (.slice A ml c) ∧ W.cell? ⟨w.heap.size + 1, 0, none⟩ = some (.int .i64 k2) ∧ W.cell? ⟨w.heap.size + 1, 1, none⟩ = some (.int .i64 n2) ∧ W.cell? ⟨w.heap.size + 1, 2, none⟩ = some (.int .i64 ix2) ∧ W.cell? ⟨w.heap.size + 1, 3, none⟩ = some (.int .u64 u2) ∧ W.cell? ⟨w.heap.size + 1, 4, none⟩ = some (.string s2) ∧ W.cell? ⟨w.heap.size + 1, 5, none⟩ = some (.slice B m2.length d) from by
    obtain ⟨a0, a1, a2, a3, a4, a5⟩ := HC.out W h
    obtain ⟨b0, b1, b2, b3, b4, b5⟩ := HY.out W h
    exact ⟨a0, a1, a2, a3, a4, a5, b0, b1, b2, b3, b4, b5⟩)
  have hd : Below (w.heap.size + 3) (((w.alloc (.cells #[.int .i64 k, .int .i64 n, .int .i64 ix, .int .u64 u, .string s, .slice A ml c] 35)).alloc (.cells #[.int .i64 k2, .int .i64 n2, .int .i64 ix2, .int .u64 u2, .string s2, .slice B m2.length d] 35)).alloc (.cells #[.int .i64 0, .int .i64 0, .int .i64 0, .int .u64 0, .string ⟨#[]⟩, .slice none 0 0] 35)) (((w.alloc (.cells #[.int .i64 k, .int .i64 n, .int .i64 ix, .int .u64 u, .string s, .slice A ml c] 35)).alloc (.cells #[.int .i64 k2, .int .i64 n2, .int .i64 ix2, .int .u64 u2, .string s2, .slice B m2.length d] 35)).alloc (.cells #[.int .i64 0, .int .i64 0, .int .i64 0, .int .u64 0, .string ⟨#[]⟩, .slice none 0 0] 35)).drew := (Below.refl _ _).drew
  obtain ⟨EO, hEO⟩ : ∃ z, z = if E1 ≠ 0 then E1 else E2 := ⟨_, rfl⟩
  have HO := Lib.hid fun (W : World) (g : Nat) (h : W.heap[g]? = some (.cells #[.int .i64 E1, .int .i64 E2] 31 (0, 0))) => (show Calls Try.prog 67 #[.slice (some ⟨g, 0, none⟩) 2 2] W fun e w' => e = .returned (.int .i64 EO) ∧ w' = W from by
    rw [hEO]
    exact cOrErr_any E1 E2 g 2 W (by rw [cell_of_row W g 0 _ _ _ h]; rfl) (by rw [cell_of_row W g 1 _ _ _ h]; rfl))
  replace hl := Lib.hid hl
  replace hB3 := Lib.hid hB3
  replace h0 := Lib.hid h0
  replace h1 := Lib.hid h1
  replace h2 := Lib.hid h2
  replace hA := Lib.hid hA
  by_cases hz1 : E1 = 0
  · by_cases hz2 : E2 = 0
    · have hEOz : EO = 0 := by rw [hEO, if_neg (by simpa using hz1), hz2]
      clear hEO
      subst hEOz
      have hM := Lib.hid fun W => visElement_any k2 n2 ix2 k n ix W
      by_cases hmy : mayE k2 n2 k n = true
      · have hka : isArrK k = true := by
          unfold mayE at hmy
          unfold isArrK
          by_cases h2 : k = 2
          · simp [h2]
          · by_cases h3 : k = 3
            · simp [h3]
            · simp [h2, h3] at hmy
        rw [hmy] at hM
        obtain ⟨hs, hk2, hu0, hs0, hen⟩ := val_arr (x := ⟨k, n, ix, u, s, m⟩) (hE1 ▸ hz1) hka
        simp only at hs hk2 hen
        have hG := Lib.hid fun W => vgreatest_any ix W (sort_el hk2 hs).2
        by_cases hgr : grI ix < i
        · have hd9 : decide (grI ix < i) = true := decide_eq_true hgr
          have hE := Lib.hid (show RE = 5 from by rw [hRE]; unfold stoE; rw [← hE1, ← hE2]; simp [hz1, hz2, hmy, hgr])
          have hR := Lib.hid (show RV = nilV from by rw [hRV]; unfold stoV; rw [← hRE, hE.out]; rfl)
          subst hz1 hz2
          clear hRE hRV hgr hs hk2 hen hu0 hs0 hka hmy hE1 hE2 hok hok2
          go_enter Try.func29, Try.ntmps29
          go_wp2_with fail
          go_region_held3 (fun W => W.cell? ⟨w.heap.size, 0, none⟩ = some (.int .i64 k) ∧ W.cell? ⟨w.heap.size, 1, none⟩ = some (.int .i64 n) ∧ W.cell? ⟨w.heap.size, 2, none⟩ = some (.int .i64 ix) ∧ W.cell? ⟨w.heap.size, 3, none⟩ = some (.int .u64 u) ∧ W.cell? ⟨w.heap.size, 4, none⟩ = some (.string s) ∧ W.cell? ⟨w.heap.size, 5, none⟩ = some (.slice A ml c) ∧ W.cell? ⟨w.heap.size + 1, 0, none⟩ = some (.int .i64 k2) ∧ W.cell? ⟨w.heap.size + 1, 1, none⟩ = some (.int .i64 n2) ∧ W.cell? ⟨w.heap.size + 1, 2, none⟩ = some (.int .i64 ix2) ∧ W.cell? ⟨w.heap.size + 1, 3, none⟩ = some (.int .u64 u2) ∧ W.cell? ⟨w.heap.size + 1, 4, none⟩ = some (.string s2) ∧ W.cell? ⟨w.heap.size + 1, 5, none⟩ = some (.slice B m2.length d))
            (first | with_reducible exact HS.out _ hd | with_reducible exact HS.out _ hm4 | with_reducible exact HS.out _ hm5 | with_reducible exact HS.out _ hm6)
            (first
              | (go_at_call 13; (with_reducible refine Calls.mono (hV1.out _ hd) ?_); rintro e w4 ⟨rfl, hw4⟩; have hm4 := hd.trans (hw4.mono (HZ.out _ hd)))
              | (go_at_call 13; (with_reducible refine Calls.mono (hV2.out _ hm4) ?_); rintro e w5 ⟨rfl, hw5⟩; have hm5 := hm4.trans (hw5.mono (HZ.out _ hm4)); have hm6 := hm5.alloc (HZ.out _ hm5) (.cells #[.int .i64 0, .int .i64 0] 31); have hO6 := HO.out _ _ (heap_alloc_new w5 (.cells #[.int .i64 0, .int .i64 0] 31)))
              | (go_at_call 67; (with_reducible refine Calls.mono hO6 ?_); rintro e w6 ⟨rfl, rfl⟩))
          have hlast := hm6
          obtain ⟨p0, p1, p2, p3, p4, p5⟩ := HC.out _ hlast
          obtain ⟨y0, y1, y2, y3, y4, y5⟩ := HY.out _ hlast
          obtain ⟨q0, q1, q2, q3, q4, q5⟩ := HR.out _ hlast
          have hf := HF.out _ hlast
          generalize (w5.alloc (.cells #[.int .i64 0, .int .i64 0] 31)) = w6 at *
          go_wp2_with (first
            | (go_at_call 68; refine Calls.mono (hM.out _) ?_; rintro e w7 ⟨rfl, hw7⟩; replace hlast := hlast.trans (hw7.mono (HZ.out _ hlast)); clear p0 p1 p2 p3 p4 p5 y0 y1 y2 y3 y4 y5 q0 q1 q2 q3 q4 q5 hf; obtain ⟨p0, p1, p2, p3, p4, p5⟩ := HC.out _ hlast; obtain ⟨y0, y1, y2, y3, y4, y5⟩ := HY.out _ hlast; obtain ⟨q0, q1, q2, q3, q4, q5⟩ := HR.out _ hlast; have hf := HF.out _ hlast)
            | (go_at_call 42; refine Calls.mono (hG.out _) ?_; rintro e w8 ⟨rfl, rfl⟩))
          refine bodyPost_ret (v := .tuple #[.agg #[.int .i64 0, .int .i64 0, .int .i64 0, .int .u64 0, .string ⟨#[]⟩, .slice none 0 0], .int .i64 5]) (by simp [results, Try.results29, go_sem, q0, q1, q2, q3, q4, q5]) rfl ?_
          rw [hE.out, hR.out]
          exact nilV_gives (set6_below (HB.out _ hlast) (Nat.le_add_right _ 2) _ _ _ _ _ _)

        · have hd9 : decide (grI ix < i) = false := decide_eq_false hgr
          have hE := Lib.hid (show RE = 0 from by rw [hRE]; unfold stoE; rw [← hE1, ← hE2]; simp [hz1, hz2, hmy, hgr])
          have hR := Lib.hid (show RV = ⟨k, n, ix, 0, .empty, putE i u2 s2 m⟩ from by rw [hRV]; unfold stoV; rw [← hRE, hE.out]; rfl)
          have hsrt := Lib.hid (ents_srt hen)
          have hFd := Lib.hid fun (W : World) (h : Below (w.heap.size + 3) (((w.alloc (.cells #[.int .i64 k, .int .i64 n, .int .i64 ix, .int .u64 u, .string s, .slice A ml c] 35)).alloc (.cells #[.int .i64 k2, .int .i64 n2, .int .i64 ix2, .int .u64 u2, .string s2, .slice B m2.length d] 35)).alloc (.cells #[.int .i64 0, .int .i64 0, .int .i64 0, .int .u64 0, .string ⟨#[]⟩, .slice none 0 0] 35)) W) => (HML.out ▸ vfind_any i m A c W hsrt.out (HL.out W h) (HML.out ▸ hml) : Calls Try.prog 64 #[.slice A ml c, .int .u64 i] W fun e w' => e = .returned (.tuple #[.int .i64 (posE i m : Nat), .bool (hasE i m)]) ∧ Below W.heap.size W w')
          have Hok := Lib.hid (put_ok (i := i) hk2 hs hen hgr (may_el i (hE2.symm.trans hz2) hmy) hok.1 hok.2.2.2.1 hi hok2.2.1 hok2.2.2.1)
          try simp only at Hok
          have hIE := Lib.hid fun W => visEmpty_any ⟨i, u2, s2⟩ W
          unfold En.val at hIE
          obtain ⟨P, hP⟩ : ∃ P, P = posE i m := ⟨_, rfl⟩
          obtain ⟨F, hF⟩ : ∃ F, F = hasE i m := ⟨_, rfl⟩
          have hPl : posE i m ≤ ml := HML.out ▸ posE_le i m
          have hFl : F = true → P < ml := fun hf => by
            by_cases h : P < ml
            · exact h
            · rw [hF, hasE_end (by rw [← hP, ← HML.out]; exact h)] at hf; cases hf
          have HP := Lib.hid (show putE i u2 s2 m = m.take P ++ newE i u2 s2 ++ m.drop (if F then P + 1 else P) from by rw [hP, hF]; rfl)
          rw [← hP, ← hF] at hFd
          rw [← hP] at hPl
          subst hz1 hz2
          clear hRE hRV hgr hs hk2 hen hu0 hs0 hka hmy hE1 hE2 hok hok2 hP hF
          have hcs := hc
          by_cases hm0 : ml = 0
          · subst hm0
            obtain rfl : P = 0 := by omega
            cases F with
            | true => have := hFl rfl; omega
            | false =>
              cases A with
              | none =>
                have hc0 : c = 0 := hA.out rfl
                subst hc0
                have HPt := Lib.hid (show putE i u2 s2 m = m.take 0 ++ newE i u2 s2 ++ m.drop 0 from by rw [HP.out]; rfl)
                clear HP
                go_enter Try.func29, Try.ntmps29
                go_wp2_with fail
                go_region_held3 (fun W => W.cell? ⟨w.heap.size, 0, none⟩ = some (.int .i64 k) ∧ W.cell? ⟨w.heap.size, 1, none⟩ = some (.int .i64 n) ∧ W.cell? ⟨w.heap.size, 2, none⟩ = some (.int .i64 ix) ∧ W.cell? ⟨w.heap.size, 3, none⟩ = some (.int .u64 u) ∧ W.cell? ⟨w.heap.size, 4, none⟩ = some (.string s) ∧ W.cell? ⟨w.heap.size, 5, none⟩ = some (.slice none 0 0) ∧ W.cell? ⟨w.heap.size + 1, 0, none⟩ = some (.int .i64 k2) ∧ W.cell? ⟨w.heap.size + 1, 1, none⟩ = some (.int .i64 n2) ∧ W.cell? ⟨w.heap.size + 1, 2, none⟩ = some (.int .i64 ix2) ∧ W.cell? ⟨w.heap.size + 1, 3, none⟩ = some (.int .u64 u2) ∧ W.cell? ⟨w.heap.size + 1, 4, none⟩ = some (.string s2) ∧ W.cell? ⟨w.heap.size + 1, 5, none⟩ = some (.slice B m2.length d))
                  (first | with_reducible exact HS.out _ hd | with_reducible exact HS.out _ hm4 | with_reducible exact HS.out _ hm5 | with_reducible exact HS.out _ hm6)
                  (first
                    | (go_at_call 13; (with_reducible refine Calls.mono (hV1.out _ hd) ?_); rintro e w4 ⟨rfl, hw4⟩; have hm4 := hd.trans (hw4.mono (HZ.out _ hd)))
                    | (go_at_call 13; (with_reducible refine Calls.mono (hV2.out _ hm4) ?_); rintro e w5 ⟨rfl, hw5⟩; have hm5 := hm4.trans (hw5.mono (HZ.out _ hm4)); have hm6 := hm5.alloc (HZ.out _ hm5) (.cells #[.int .i64 0, .int .i64 0] 31); have hO6 := HO.out _ _ (heap_alloc_new w5 (.cells #[.int .i64 0, .int .i64 0] 31)))
                    | (go_at_call 67; (with_reducible refine Calls.mono hO6 ?_); rintro e w6 ⟨rfl, rfl⟩))
                have hlast := hm6
                obtain ⟨p0, p1, p2, p3, p4, p5⟩ := HC.out _ hlast
                obtain ⟨y0, y1, y2, y3, y4, y5⟩ := HY.out _ hlast
                obtain ⟨q0, q1, q2, q3, q4, q5⟩ := HR.out _ hlast
                have hf := HF.out _ hlast
                generalize (w5.alloc (.cells #[.int .i64 0, .int .i64 0] 31)) = w6 at *
                go_wp2_with (first
                  | (go_at_call 68; refine Calls.mono (hM.out _) ?_; rintro e w7 ⟨rfl, hw7⟩; replace hlast := hlast.trans (hw7.mono (HZ.out _ hlast)); clear p0 p1 p2 p3 p4 p5 y0 y1 y2 y3 y4 y5 q0 q1 q2 q3 q4 q5 hf; obtain ⟨p0, p1, p2, p3, p4, p5⟩ := HC.out _ hlast; obtain ⟨y0, y1, y2, y3, y4, y5⟩ := HY.out _ hlast; obtain ⟨q0, q1, q2, q3, q4, q5⟩ := HR.out _ hlast; have hf := HF.out _ hlast)
                  | (go_at_call 42; refine Calls.mono (hG.out _) ?_; rintro e w8 ⟨rfl, rfl⟩)
                  | (go_at_call 64; refine Calls.mono (hFd.out _ hlast) ?_; rintro e w9 ⟨rfl, hw9⟩; replace hlast := hlast.trans (hw9.mono (HZ.out _ hlast)); clear p0 p1 p2 p3 p4 p5 y0 y1 y2 y3 y4 y5 q0 q1 q2 q3 q4 q5 hf; obtain ⟨p0, p1, p2, p3, p4, p5⟩ := HC.out _ hlast; obtain ⟨y0, y1, y2, y3, y4, y5⟩ := HY.out _ hlast; obtain ⟨q0, q1, q2, q3, q4, q5⟩ := HR.out _ hlast; have hf := HF.out _ hlast))
                clear p0 p1 p2 p3 p4 y0 y1 y2 y3 y4 y5 q0 q1 q2 q3 q4 q5 hf
                go_quiet (fail)
                have hdn := below_dnv (N := nq) hlast
                clear p5 hlast
                generalize w9.drewN nq = wd at *
                obtain ⟨p0, p1, p2, _, _, p5⟩ := HC.out _ hdn
                obtain ⟨_, _, _, y3, y4, _⟩ := HY.out _ hdn
                obtain ⟨r0, r1, r2⟩ := three (heap_alloc_new wd (.cells #[.int .u64 i, .int .u64 u2, .string s2] 85))
                have hxd := hdn.alloc (HZ.out _ hdn) (.cells #[.int .u64 i, .int .u64 u2, .string s2] 85)
                by_cases hem : (u2 == 0 && s2.size == 0) = true
                · have hIE2 := hIE
                  rw [hem] at hIE2
                  have hnew : newE i u2 s2 = ([] : List En) := by unfold newE; rw [if_pos hem]
                  have HP2 := HPt.out
                  rw [hnew] at HP2
                  replace HP2 := Lib.hid HP2
                  clear hem hnew
                  go_wp2_with (go_at_call 69; refine Calls.mono (hIE2.out _) ?_; rintro e wa ⟨rfl, hwa⟩; have hin0 := hxd.trans (hwa.mono (HZ.out _ hxd)))
                  have hin := hin0
                  have hdr := hin.drew
                  have hal := (hin.alloc (HZ.out _ hin) (.cells #[.slice none 0 0, .slice none 0 0, .slice none 0 0] 33)).drew
                  have hCat := vConcat_eq (m.take 0) ([] : List En) (m.drop 0) 0 0 0 (by have := HML.out; simp; try omega) rfl (by have := HML.out; simp; omega) none none none 0 0 0 wa.heap.size 3 (wa.alloc (.cells #[.slice none 0 0, .slice none 0 0, .slice none 0 0] 33)).drew (heap_alloc_new_at wa (.cells #[.slice none 0 0, .slice none 0 0, .slice none 0 0] 33) (by simp))
                    (.inl (by simp)) (.inl rfl) (.inl (by have := HML.out; exact List.drop_eq_nil_of_le (by omega))) ⟨Nat.le_refl _, fun _ => rfl⟩ ⟨Nat.le_refl _, fun _ => rfl⟩ ⟨Nat.le_refl _, fun _ => rfl⟩ (by omega)
                  have HS3 := Lib.hid fun (W : World) (h : Below (w.heap.size + 3) _ W) => (show W.cell? ⟨w.heap.size, 0, none⟩ = some (.int .i64 k) ∧ W.cell? ⟨w.heap.size, 1, none⟩ = some (.int .i64 n) ∧ W.cell? ⟨w.heap.size, 2, none⟩ = some (.int .i64 ix) from ⟨(HC.out W h).1, (HC.out W h).2.1, (HC.out W h).2.2.1⟩)
                  have hne : w.heap.size ≠ w.heap.size + 2 := by omega
                  clear p0 p1 p2 p5 y3 y4 r0 r1 r2
                  go_region_held3 (fun W => W.cell? ⟨w.heap.size, 0, none⟩ = some (.int .i64 k) ∧ W.cell? ⟨w.heap.size, 1, none⟩ = some (.int .i64 n) ∧ W.cell? ⟨w.heap.size, 2, none⟩ = some (.int .i64 ix))
                    (first | with_reducible exact HS3.out _ hdr | with_reducible exact HS3.out _ hal | with_reducible exact HS3.out _ hq | with_reducible exact HS4 _ _ _ _ _ _)
                    (first
                      | (go_at_call 70; (with_reducible refine Calls.mono hCat ?_); rintro e wq ⟨⟨A9, n9, c9, rfl, h9⟩, hwq⟩; have hq := hal.trans (hwq.mono (HZ.out _ hal)); have hf := HF.out _ hq; obtain ⟨q0, q1, q2, q3, q4, q5⟩ := HR.out _ hq; have HS4 := fun c0 c1 c2 c3 c4 c5 => (show (((((((wq.setCell ⟨w.heap.size + 2, 0, none⟩ c0).setCell ⟨w.heap.size + 2, 1, none⟩ c1).setCell ⟨w.heap.size + 2, 2, none⟩ c2).setCell ⟨w.heap.size + 2, 3, none⟩ c3).setCell ⟨w.heap.size + 2, 4, none⟩ c4).setCell ⟨w.heap.size + 2, 5, none⟩ c5).cell? ⟨w.heap.size, 0, none⟩ = some (.int .i64 k)) ∧ (((((((wq.setCell ⟨w.heap.size + 2, 0, none⟩ c0).setCell ⟨w.heap.size + 2, 1, none⟩ c1).setCell ⟨w.heap.size + 2, 2, none⟩ c2).setCell ⟨w.heap.size + 2, 3, none⟩ c3).setCell ⟨w.heap.size + 2, 4, none⟩ c4).setCell ⟨w.heap.size + 2, 5, none⟩ c5).cell? ⟨w.heap.size, 1, none⟩ = some (.int .i64 n)) ∧ (((((((wq.setCell ⟨w.heap.size + 2, 0, none⟩ c0).setCell ⟨w.heap.size + 2, 1, none⟩ c1).setCell ⟨w.heap.size + 2, 2, none⟩ c2).setCell ⟨w.heap.size + 2, 3, none⟩ c3).setCell ⟨w.heap.size + 2, 4, none⟩ c4).setCell ⟨w.heap.size + 2, 5, none⟩ c5).cell? ⟨w.heap.size, 2, none⟩ = some (.int .i64 ix)) from ⟨(World.cell?_of_block (set6_heap c0 c1 c2 c3 c4 c5 hne)).trans (HS3.out _ hq).1, (World.cell?_of_block (set6_heap c0 c1 c2 c3 c4 c5 hne)).trans (HS3.out _ hq).2.1, (World.cell?_of_block (set6_heap c0 c1 c2 c3 c4 c5 hne)).trans (HS3.out _ hq).2.2⟩)))
                  go_wp2_with fail
                  refine bodyPost_ret (v := .tuple #[.agg #[.int .i64 k, .int .i64 n, .int .i64 ix, .int .u64 0, .string ⟨#[]⟩, .slice A9 n9 c9], .int .i64 0]) (by simp [results, Try.results29, go_sem, q0, q1, q2, q3, q4, q5]) rfl ?_
                  rw [hE.out, hR.out]
                  obtain ⟨g1, g2, g3, g4⟩ := h9.out
                  have hPut := Hok.out
                  rw [HP2.out] at hPut ⊢
                  refine sto_fin hPut g1 g2 g3 (g4.to (fun b hb => ⟨⟨?_, ?_⟩, set6_heap _ _ _ _ _ _ ?_⟩)) (set6_below (HB.out _ hq) (Nat.le_add_right _ 2) _ _ _ _ _ _)
                  · have h1 := hb.1; have h2 := HZ.out _ hal; omega
                  · rw [set6_size]; exact hb.2
                  · have h1 := hb.1; have h2 := HZ.out _ hal; omega
                · have hemf : (u2 == 0 && s2.size == 0) = false := by simpa using hem
                  have hIE2 := hIE
                  rw [hemf] at hIE2
                  have hnew : newE i u2 s2 = [(⟨i, u2, s2⟩ : En)] := by unfold newE; rw [if_neg hem]
                  have HP2 := HPt.out
                  rw [hnew] at HP2
                  replace HP2 := Lib.hid HP2
                  clear hem hnew hemf
                  go_wp2_with (go_at_call 69; refine Calls.mono (hIE2.out _) ?_; rintro e wa ⟨rfl, hwa⟩; have hin0 := hxd.trans (hwa.mono (HZ.out _ hxd)); obtain ⟨t0, t1, t2⟩ := three ((hwa.block wd.heap.size (by simp)).trans (heap_alloc_new wd (.cells #[.int .u64 i, .int .u64 u2, .string s2] 85))))
                  have hin := hin0.alloc (HZ.out _ hin0) (.cells #[.int .u64 i, .int .u64 u2, .string s2] 85)
                  have hdr := hin.drew
                  have hal := (hin.alloc (HZ.out _ hin) (.cells #[.slice none 0 0, .slice (some ⟨wa.heap.size, 0, none⟩) 1 1, .slice none 0 0] 33)).drew
                  have hCat := vConcat_eq (m.take 0) [(⟨i, u2, s2⟩ : En)] (m.drop 0) 0 1 0 (by have := HML.out; simp; try omega) rfl (by have := HML.out; simp; omega) none (some ⟨wa.heap.size, 0, none⟩) none 0 1 0 (wa.heap.size + 1) 3 ((wa.alloc (.cells #[.int .u64 i, .int .u64 u2, .string s2] 85)).alloc (.cells #[.slice none 0 0, .slice (some ⟨wa.heap.size, 0, none⟩) 1 1, .slice none 0 0] 33)).drew (heap_alloc_new_at (wa.alloc (.cells #[.int .u64 i, .int .u64 u2, .string s2] 85)) (.cells #[.slice none 0 0, .slice (some ⟨wa.heap.size, 0, none⟩) 1 1, .slice none 0 0] 33) (by simp))
                    (.inl (by simp)) (enl_one ((Below.heap_alloc (wa.alloc (.cells #[.int .u64 i, .int .u64 u2, .string s2] 85)) (.cells #[.slice none 0 0, .slice (some ⟨wa.heap.size, 0, none⟩) 1 1, .slice none 0 0] 33) _ (by simp)).trans (heap_alloc_new wa (.cells #[.int .u64 i, .int .u64 u2, .string s2] 85))) (by show wa.heap.size < _; simp; omega)) (.inl (by have := HML.out; exact List.drop_eq_nil_of_le (by omega))) ⟨Nat.le_refl _, fun _ => rfl⟩ ⟨Nat.le_refl _, fun h => by cases h⟩ ⟨Nat.le_refl _, fun _ => rfl⟩ (by omega)
                  have HS3 := Lib.hid fun (W : World) (h : Below (w.heap.size + 3) _ W) => (show W.cell? ⟨w.heap.size, 0, none⟩ = some (.int .i64 k) ∧ W.cell? ⟨w.heap.size, 1, none⟩ = some (.int .i64 n) ∧ W.cell? ⟨w.heap.size, 2, none⟩ = some (.int .i64 ix) from ⟨(HC.out W h).1, (HC.out W h).2.1, (HC.out W h).2.2.1⟩)
                  have hne : w.heap.size ≠ w.heap.size + 2 := by omega
                  clear p0 p1 p2 p5 y3 y4 r0 r1 r2 t0 t1 t2
                  go_region_held3 (fun W => W.cell? ⟨w.heap.size, 0, none⟩ = some (.int .i64 k) ∧ W.cell? ⟨w.heap.size, 1, none⟩ = some (.int .i64 n) ∧ W.cell? ⟨w.heap.size, 2, none⟩ = some (.int .i64 ix))
                    (first | with_reducible exact HS3.out _ hdr | with_reducible exact HS3.out _ hal | with_reducible exact HS3.out _ hq | with_reducible exact HS4 _ _ _ _ _ _)
                    (first
                      | (go_at_call 70; (with_reducible refine Calls.mono hCat ?_); rintro e wq ⟨⟨A9, n9, c9, rfl, h9⟩, hwq⟩; have hq := hal.trans (hwq.mono (HZ.out _ hal)); have hf := HF.out _ hq; obtain ⟨q0, q1, q2, q3, q4, q5⟩ := HR.out _ hq; have HS4 := fun c0 c1 c2 c3 c4 c5 => (show (((((((wq.setCell ⟨w.heap.size + 2, 0, none⟩ c0).setCell ⟨w.heap.size + 2, 1, none⟩ c1).setCell ⟨w.heap.size + 2, 2, none⟩ c2).setCell ⟨w.heap.size + 2, 3, none⟩ c3).setCell ⟨w.heap.size + 2, 4, none⟩ c4).setCell ⟨w.heap.size + 2, 5, none⟩ c5).cell? ⟨w.heap.size, 0, none⟩ = some (.int .i64 k)) ∧ (((((((wq.setCell ⟨w.heap.size + 2, 0, none⟩ c0).setCell ⟨w.heap.size + 2, 1, none⟩ c1).setCell ⟨w.heap.size + 2, 2, none⟩ c2).setCell ⟨w.heap.size + 2, 3, none⟩ c3).setCell ⟨w.heap.size + 2, 4, none⟩ c4).setCell ⟨w.heap.size + 2, 5, none⟩ c5).cell? ⟨w.heap.size, 1, none⟩ = some (.int .i64 n)) ∧ (((((((wq.setCell ⟨w.heap.size + 2, 0, none⟩ c0).setCell ⟨w.heap.size + 2, 1, none⟩ c1).setCell ⟨w.heap.size + 2, 2, none⟩ c2).setCell ⟨w.heap.size + 2, 3, none⟩ c3).setCell ⟨w.heap.size + 2, 4, none⟩ c4).setCell ⟨w.heap.size + 2, 5, none⟩ c5).cell? ⟨w.heap.size, 2, none⟩ = some (.int .i64 ix)) from ⟨(World.cell?_of_block (set6_heap c0 c1 c2 c3 c4 c5 hne)).trans (HS3.out _ hq).1, (World.cell?_of_block (set6_heap c0 c1 c2 c3 c4 c5 hne)).trans (HS3.out _ hq).2.1, (World.cell?_of_block (set6_heap c0 c1 c2 c3 c4 c5 hne)).trans (HS3.out _ hq).2.2⟩)))
                  go_wp2_with fail
                  refine bodyPost_ret (v := .tuple #[.agg #[.int .i64 k, .int .i64 n, .int .i64 ix, .int .u64 0, .string ⟨#[]⟩, .slice A9 n9 c9], .int .i64 0]) (by simp [results, Try.results29, go_sem, q0, q1, q2, q3, q4, q5]) rfl ?_
                  rw [hE.out, hR.out]
                  obtain ⟨g1, g2, g3, g4⟩ := h9.out
                  have hPut := Hok.out
                  rw [HP2.out] at hPut ⊢
                  refine sto_fin hPut g1 g2 g3 (g4.to (fun b hb => ⟨⟨?_, ?_⟩, set6_heap _ _ _ _ _ _ ?_⟩)) (set6_below (HB.out _ hq) (Nat.le_add_right _ 2) _ _ _ _ _ _)
                  · have h1 := hb.1; have h2 := HZ.out _ hal; omega
                  · rw [set6_size]; exact hb.2
                  · have h1 := hb.1; have h2 := HZ.out _ hal; omega

              | some ad =>
                obtain ⟨b1, o1, o2⟩ := ad
                by_cases hc1 : c = 0
                · subst hc1
                  have HPt := Lib.hid (show putE i u2 s2 m = m.take 0 ++ newE i u2 s2 ++ m.drop 0 from by rw [HP.out]; rfl)
                  clear HP
                  go_enter Try.func29, Try.ntmps29
                  go_wp2_with fail
                  go_region_held3 (fun W => W.cell? ⟨w.heap.size, 0, none⟩ = some (.int .i64 k) ∧ W.cell? ⟨w.heap.size, 1, none⟩ = some (.int .i64 n) ∧ W.cell? ⟨w.heap.size, 2, none⟩ = some (.int .i64 ix) ∧ W.cell? ⟨w.heap.size, 3, none⟩ = some (.int .u64 u) ∧ W.cell? ⟨w.heap.size, 4, none⟩ = some (.string s) ∧ W.cell? ⟨w.heap.size, 5, none⟩ = some (.slice (some ⟨b1, o1, o2⟩) 0 0) ∧ W.cell? ⟨w.heap.size + 1, 0, none⟩ = some (.int .i64 k2) ∧ W.cell? ⟨w.heap.size + 1, 1, none⟩ = some (.int .i64 n2) ∧ W.cell? ⟨w.heap.size + 1, 2, none⟩ = some (.int .i64 ix2) ∧ W.cell? ⟨w.heap.size + 1, 3, none⟩ = some (.int .u64 u2) ∧ W.cell? ⟨w.heap.size + 1, 4, none⟩ = some (.string s2) ∧ W.cell? ⟨w.heap.size + 1, 5, none⟩ = some (.slice B m2.length d))
                    (first | with_reducible exact HS.out _ hd | with_reducible exact HS.out _ hm4 | with_reducible exact HS.out _ hm5 | with_reducible exact HS.out _ hm6)
                    (first
                      | (go_at_call 13; (with_reducible refine Calls.mono (hV1.out _ hd) ?_); rintro e w4 ⟨rfl, hw4⟩; have hm4 := hd.trans (hw4.mono (HZ.out _ hd)))
                      | (go_at_call 13; (with_reducible refine Calls.mono (hV2.out _ hm4) ?_); rintro e w5 ⟨rfl, hw5⟩; have hm5 := hm4.trans (hw5.mono (HZ.out _ hm4)); have hm6 := hm5.alloc (HZ.out _ hm5) (.cells #[.int .i64 0, .int .i64 0] 31); have hO6 := HO.out _ _ (heap_alloc_new w5 (.cells #[.int .i64 0, .int .i64 0] 31)))
                      | (go_at_call 67; (with_reducible refine Calls.mono hO6 ?_); rintro e w6 ⟨rfl, rfl⟩))
                  have hlast := hm6
                  obtain ⟨p0, p1, p2, p3, p4, p5⟩ := HC.out _ hlast
                  obtain ⟨y0, y1, y2, y3, y4, y5⟩ := HY.out _ hlast
                  obtain ⟨q0, q1, q2, q3, q4, q5⟩ := HR.out _ hlast
                  have hf := HF.out _ hlast
                  generalize (w5.alloc (.cells #[.int .i64 0, .int .i64 0] 31)) = w6 at *
                  go_wp2_with (first
                    | (go_at_call 68; refine Calls.mono (hM.out _) ?_; rintro e w7 ⟨rfl, hw7⟩; replace hlast := hlast.trans (hw7.mono (HZ.out _ hlast)); clear p0 p1 p2 p3 p4 p5 y0 y1 y2 y3 y4 y5 q0 q1 q2 q3 q4 q5 hf; obtain ⟨p0, p1, p2, p3, p4, p5⟩ := HC.out _ hlast; obtain ⟨y0, y1, y2, y3, y4, y5⟩ := HY.out _ hlast; obtain ⟨q0, q1, q2, q3, q4, q5⟩ := HR.out _ hlast; have hf := HF.out _ hlast)
                    | (go_at_call 42; refine Calls.mono (hG.out _) ?_; rintro e w8 ⟨rfl, rfl⟩)
                    | (go_at_call 64; refine Calls.mono (hFd.out _ hlast) ?_; rintro e w9 ⟨rfl, hw9⟩; replace hlast := hlast.trans (hw9.mono (HZ.out _ hlast)); clear p0 p1 p2 p3 p4 p5 y0 y1 y2 y3 y4 y5 q0 q1 q2 q3 q4 q5 hf; obtain ⟨p0, p1, p2, p3, p4, p5⟩ := HC.out _ hlast; obtain ⟨y0, y1, y2, y3, y4, y5⟩ := HY.out _ hlast; obtain ⟨q0, q1, q2, q3, q4, q5⟩ := HR.out _ hlast; have hf := HF.out _ hlast))
                  clear p0 p1 p2 p3 p4 y0 y1 y2 y3 y4 y5 q0 q1 q2 q3 q4 q5 hf
                  go_quiet (fail)
                  have hdn := below_dnv (N := nq) hlast
                  clear p5 hlast
                  generalize w9.drewN nq = wd at *
                  obtain ⟨p0, p1, p2, _, _, p5⟩ := HC.out _ hdn
                  obtain ⟨_, _, _, y3, y4, _⟩ := HY.out _ hdn
                  obtain ⟨r0, r1, r2⟩ := three (heap_alloc_new wd (.cells #[.int .u64 i, .int .u64 u2, .string s2] 85))
                  have hxd := hdn.alloc (HZ.out _ hdn) (.cells #[.int .u64 i, .int .u64 u2, .string s2] 85)
                  by_cases hem : (u2 == 0 && s2.size == 0) = true
                  · have hIE2 := hIE
                    rw [hem] at hIE2
                    have hnew : newE i u2 s2 = ([] : List En) := by unfold newE; rw [if_pos hem]
                    have HP2 := HPt.out
                    rw [hnew] at HP2
                    replace HP2 := Lib.hid HP2
                    clear hem hnew
                    go_wp2_with (go_at_call 69; refine Calls.mono (hIE2.out _) ?_; rintro e wa ⟨rfl, hwa⟩; have hin0 := hxd.trans (hwa.mono (HZ.out _ hxd)))
                    have hin := hin0
                    have hdr := hin.drew
                    have hal := (hin.alloc (HZ.out _ hin) (.cells #[.slice (some ⟨b1, o1, o2⟩) 0 0, .slice none 0 0, .slice (some ⟨b1, o1, o2⟩) 0 0] 33)).drew
                    have hCat := vConcat_eq (m.take 0) ([] : List En) (m.drop 0) 0 0 0 (by have := HML.out; simp; try omega) rfl (by have := HML.out; simp; omega) (some ⟨b1, o1, o2⟩) none (some ⟨b1, o1, o2⟩) 0 0 0 wa.heap.size 3 (wa.alloc (.cells #[.slice (some ⟨b1, o1, o2⟩) 0 0, .slice none 0 0, .slice (some ⟨b1, o1, o2⟩) 0 0] 33)).drew (heap_alloc_new_at wa (.cells #[.slice (some ⟨b1, o1, o2⟩) 0 0, .slice none 0 0, .slice (some ⟨b1, o1, o2⟩) 0 0] 33) (by simp))
                      (.inl (by simp)) (.inl rfl) (.inl (by have := HML.out; exact List.drop_eq_nil_of_le (by omega))) ⟨Nat.le_refl _, fun _ => rfl⟩ ⟨Nat.le_refl _, fun _ => rfl⟩ ⟨Nat.le_refl _, fun _ => rfl⟩ (by omega)
                    have HS3 := Lib.hid fun (W : World) (h : Below (w.heap.size + 3) _ W) => (show W.cell? ⟨w.heap.size, 0, none⟩ = some (.int .i64 k) ∧ W.cell? ⟨w.heap.size, 1, none⟩ = some (.int .i64 n) ∧ W.cell? ⟨w.heap.size, 2, none⟩ = some (.int .i64 ix) from ⟨(HC.out W h).1, (HC.out W h).2.1, (HC.out W h).2.2.1⟩)
                    have hne : w.heap.size ≠ w.heap.size + 2 := by omega
                    clear p0 p1 p2 p5 y3 y4 r0 r1 r2
                    go_region_held3 (fun W => W.cell? ⟨w.heap.size, 0, none⟩ = some (.int .i64 k) ∧ W.cell? ⟨w.heap.size, 1, none⟩ = some (.int .i64 n) ∧ W.cell? ⟨w.heap.size, 2, none⟩ = some (.int .i64 ix))
                      (first | with_reducible exact HS3.out _ hdr | with_reducible exact HS3.out _ hal | with_reducible exact HS3.out _ hq | with_reducible exact HS4 _ _ _ _ _ _)
                      (first
                        | (go_at_call 70; (with_reducible refine Calls.mono hCat ?_); rintro e wq ⟨⟨A9, n9, c9, rfl, h9⟩, hwq⟩; have hq := hal.trans (hwq.mono (HZ.out _ hal)); have hf := HF.out _ hq; obtain ⟨q0, q1, q2, q3, q4, q5⟩ := HR.out _ hq; have HS4 := fun c0 c1 c2 c3 c4 c5 => (show (((((((wq.setCell ⟨w.heap.size + 2, 0, none⟩ c0).setCell ⟨w.heap.size + 2, 1, none⟩ c1).setCell ⟨w.heap.size + 2, 2, none⟩ c2).setCell ⟨w.heap.size + 2, 3, none⟩ c3).setCell ⟨w.heap.size + 2, 4, none⟩ c4).setCell ⟨w.heap.size + 2, 5, none⟩ c5).cell? ⟨w.heap.size, 0, none⟩ = some (.int .i64 k)) ∧ (((((((wq.setCell ⟨w.heap.size + 2, 0, none⟩ c0).setCell ⟨w.heap.size + 2, 1, none⟩ c1).setCell ⟨w.heap.size + 2, 2, none⟩ c2).setCell ⟨w.heap.size + 2, 3, none⟩ c3).setCell ⟨w.heap.size + 2, 4, none⟩ c4).setCell ⟨w.heap.size + 2, 5, none⟩ c5).cell? ⟨w.heap.size, 1, none⟩ = some (.int .i64 n)) ∧ (((((((wq.setCell ⟨w.heap.size + 2, 0, none⟩ c0).setCell ⟨w.heap.size + 2, 1, none⟩ c1).setCell ⟨w.heap.size + 2, 2, none⟩ c2).setCell ⟨w.heap.size + 2, 3, none⟩ c3).setCell ⟨w.heap.size + 2, 4, none⟩ c4).setCell ⟨w.heap.size + 2, 5, none⟩ c5).cell? ⟨w.heap.size, 2, none⟩ = some (.int .i64 ix)) from ⟨(World.cell?_of_block (set6_heap c0 c1 c2 c3 c4 c5 hne)).trans (HS3.out _ hq).1, (World.cell?_of_block (set6_heap c0 c1 c2 c3 c4 c5 hne)).trans (HS3.out _ hq).2.1, (World.cell?_of_block (set6_heap c0 c1 c2 c3 c4 c5 hne)).trans (HS3.out _ hq).2.2⟩)))
                    go_wp2_with fail
                    refine bodyPost_ret (v := .tuple #[.agg #[.int .i64 k, .int .i64 n, .int .i64 ix, .int .u64 0, .string ⟨#[]⟩, .slice A9 n9 c9], .int .i64 0]) (by simp [results, Try.results29, go_sem, q0, q1, q2, q3, q4, q5]) rfl ?_
                    rw [hE.out, hR.out]
                    obtain ⟨g1, g2, g3, g4⟩ := h9.out
                    have hPut := Hok.out
                    rw [HP2.out] at hPut ⊢
                    refine sto_fin hPut g1 g2 g3 (g4.to (fun b hb => ⟨⟨?_, ?_⟩, set6_heap _ _ _ _ _ _ ?_⟩)) (set6_below (HB.out _ hq) (Nat.le_add_right _ 2) _ _ _ _ _ _)
                    · have h1 := hb.1; have h2 := HZ.out _ hal; omega
                    · rw [set6_size]; exact hb.2
                    · have h1 := hb.1; have h2 := HZ.out _ hal; omega
                  · have hemf : (u2 == 0 && s2.size == 0) = false := by simpa using hem
                    have hIE2 := hIE
                    rw [hemf] at hIE2
                    have hnew : newE i u2 s2 = [(⟨i, u2, s2⟩ : En)] := by unfold newE; rw [if_neg hem]
                    have HP2 := HPt.out
                    rw [hnew] at HP2
                    replace HP2 := Lib.hid HP2
                    clear hem hnew hemf
                    go_wp2_with (go_at_call 69; refine Calls.mono (hIE2.out _) ?_; rintro e wa ⟨rfl, hwa⟩; have hin0 := hxd.trans (hwa.mono (HZ.out _ hxd)); obtain ⟨t0, t1, t2⟩ := three ((hwa.block wd.heap.size (by simp)).trans (heap_alloc_new wd (.cells #[.int .u64 i, .int .u64 u2, .string s2] 85))))
                    have hin := hin0.alloc (HZ.out _ hin0) (.cells #[.int .u64 i, .int .u64 u2, .string s2] 85)
                    have hdr := hin.drew
                    have hal := (hin.alloc (HZ.out _ hin) (.cells #[.slice (some ⟨b1, o1, o2⟩) 0 0, .slice (some ⟨wa.heap.size, 0, none⟩) 1 1, .slice (some ⟨b1, o1, o2⟩) 0 0] 33)).drew
                    have hCat := vConcat_eq (m.take 0) [(⟨i, u2, s2⟩ : En)] (m.drop 0) 0 1 0 (by have := HML.out; simp; try omega) rfl (by have := HML.out; simp; omega) (some ⟨b1, o1, o2⟩) (some ⟨wa.heap.size, 0, none⟩) (some ⟨b1, o1, o2⟩) 0 1 0 (wa.heap.size + 1) 3 ((wa.alloc (.cells #[.int .u64 i, .int .u64 u2, .string s2] 85)).alloc (.cells #[.slice (some ⟨b1, o1, o2⟩) 0 0, .slice (some ⟨wa.heap.size, 0, none⟩) 1 1, .slice (some ⟨b1, o1, o2⟩) 0 0] 33)).drew (heap_alloc_new_at (wa.alloc (.cells #[.int .u64 i, .int .u64 u2, .string s2] 85)) (.cells #[.slice (some ⟨b1, o1, o2⟩) 0 0, .slice (some ⟨wa.heap.size, 0, none⟩) 1 1, .slice (some ⟨b1, o1, o2⟩) 0 0] 33) (by simp))
                      (.inl (by simp)) (enl_one ((Below.heap_alloc (wa.alloc (.cells #[.int .u64 i, .int .u64 u2, .string s2] 85)) (.cells #[.slice (some ⟨b1, o1, o2⟩) 0 0, .slice (some ⟨wa.heap.size, 0, none⟩) 1 1, .slice (some ⟨b1, o1, o2⟩) 0 0] 33) _ (by simp)).trans (heap_alloc_new wa (.cells #[.int .u64 i, .int .u64 u2, .string s2] 85))) (by show wa.heap.size < _; simp; omega)) (.inl (by have := HML.out; exact List.drop_eq_nil_of_le (by omega))) ⟨Nat.le_refl _, fun _ => rfl⟩ ⟨Nat.le_refl _, fun h => by cases h⟩ ⟨Nat.le_refl _, fun _ => rfl⟩ (by omega)
                    have HS3 := Lib.hid fun (W : World) (h : Below (w.heap.size + 3) _ W) => (show W.cell? ⟨w.heap.size, 0, none⟩ = some (.int .i64 k) ∧ W.cell? ⟨w.heap.size, 1, none⟩ = some (.int .i64 n) ∧ W.cell? ⟨w.heap.size, 2, none⟩ = some (.int .i64 ix) from ⟨(HC.out W h).1, (HC.out W h).2.1, (HC.out W h).2.2.1⟩)
                    have hne : w.heap.size ≠ w.heap.size + 2 := by omega
                    clear p0 p1 p2 p5 y3 y4 r0 r1 r2 t0 t1 t2
                    go_region_held3 (fun W => W.cell? ⟨w.heap.size, 0, none⟩ = some (.int .i64 k) ∧ W.cell? ⟨w.heap.size, 1, none⟩ = some (.int .i64 n) ∧ W.cell? ⟨w.heap.size, 2, none⟩ = some (.int .i64 ix))
                      (first | with_reducible exact HS3.out _ hdr | with_reducible exact HS3.out _ hal | with_reducible exact HS3.out _ hq | with_reducible exact HS4 _ _ _ _ _ _)
                      (first
                        | (go_at_call 70; (with_reducible refine Calls.mono hCat ?_); rintro e wq ⟨⟨A9, n9, c9, rfl, h9⟩, hwq⟩; have hq := hal.trans (hwq.mono (HZ.out _ hal)); have hf := HF.out _ hq; obtain ⟨q0, q1, q2, q3, q4, q5⟩ := HR.out _ hq; have HS4 := fun c0 c1 c2 c3 c4 c5 => (show (((((((wq.setCell ⟨w.heap.size + 2, 0, none⟩ c0).setCell ⟨w.heap.size + 2, 1, none⟩ c1).setCell ⟨w.heap.size + 2, 2, none⟩ c2).setCell ⟨w.heap.size + 2, 3, none⟩ c3).setCell ⟨w.heap.size + 2, 4, none⟩ c4).setCell ⟨w.heap.size + 2, 5, none⟩ c5).cell? ⟨w.heap.size, 0, none⟩ = some (.int .i64 k)) ∧ (((((((wq.setCell ⟨w.heap.size + 2, 0, none⟩ c0).setCell ⟨w.heap.size + 2, 1, none⟩ c1).setCell ⟨w.heap.size + 2, 2, none⟩ c2).setCell ⟨w.heap.size + 2, 3, none⟩ c3).setCell ⟨w.heap.size + 2, 4, none⟩ c4).setCell ⟨w.heap.size + 2, 5, none⟩ c5).cell? ⟨w.heap.size, 1, none⟩ = some (.int .i64 n)) ∧ (((((((wq.setCell ⟨w.heap.size + 2, 0, none⟩ c0).setCell ⟨w.heap.size + 2, 1, none⟩ c1).setCell ⟨w.heap.size + 2, 2, none⟩ c2).setCell ⟨w.heap.size + 2, 3, none⟩ c3).setCell ⟨w.heap.size + 2, 4, none⟩ c4).setCell ⟨w.heap.size + 2, 5, none⟩ c5).cell? ⟨w.heap.size, 2, none⟩ = some (.int .i64 ix)) from ⟨(World.cell?_of_block (set6_heap c0 c1 c2 c3 c4 c5 hne)).trans (HS3.out _ hq).1, (World.cell?_of_block (set6_heap c0 c1 c2 c3 c4 c5 hne)).trans (HS3.out _ hq).2.1, (World.cell?_of_block (set6_heap c0 c1 c2 c3 c4 c5 hne)).trans (HS3.out _ hq).2.2⟩)))
                    go_wp2_with fail
                    refine bodyPost_ret (v := .tuple #[.agg #[.int .i64 k, .int .i64 n, .int .i64 ix, .int .u64 0, .string ⟨#[]⟩, .slice A9 n9 c9], .int .i64 0]) (by simp [results, Try.results29, go_sem, q0, q1, q2, q3, q4, q5]) rfl ?_
                    rw [hE.out, hR.out]
                    obtain ⟨g1, g2, g3, g4⟩ := h9.out
                    have hPut := Hok.out
                    rw [HP2.out] at hPut ⊢
                    refine sto_fin hPut g1 g2 g3 (g4.to (fun b hb => ⟨⟨?_, ?_⟩, set6_heap _ _ _ _ _ _ ?_⟩)) (set6_below (HB.out _ hq) (Nat.le_add_right _ 2) _ _ _ _ _ _)
                    · have h1 := hb.1; have h2 := HZ.out _ hal; omega
                    · rw [set6_size]; exact hb.2
                    · have h1 := hb.1; have h2 := HZ.out _ hal; omega

                · have hc2 : (0 : Int) < (c : Int) := by omega
                  have HPt := Lib.hid (show putE i u2 s2 m = m.take 0 ++ newE i u2 s2 ++ m.drop 0 from by rw [HP.out]; rfl)
                  clear HP
                  go_enter Try.func29, Try.ntmps29
                  go_wp2_with fail
                  go_region_held3 (fun W => W.cell? ⟨w.heap.size, 0, none⟩ = some (.int .i64 k) ∧ W.cell? ⟨w.heap.size, 1, none⟩ = some (.int .i64 n) ∧ W.cell? ⟨w.heap.size, 2, none⟩ = some (.int .i64 ix) ∧ W.cell? ⟨w.heap.size, 3, none⟩ = some (.int .u64 u) ∧ W.cell? ⟨w.heap.size, 4, none⟩ = some (.string s) ∧ W.cell? ⟨w.heap.size, 5, none⟩ = some (.slice (some ⟨b1, o1, o2⟩) 0 c) ∧ W.cell? ⟨w.heap.size + 1, 0, none⟩ = some (.int .i64 k2) ∧ W.cell? ⟨w.heap.size + 1, 1, none⟩ = some (.int .i64 n2) ∧ W.cell? ⟨w.heap.size + 1, 2, none⟩ = some (.int .i64 ix2) ∧ W.cell? ⟨w.heap.size + 1, 3, none⟩ = some (.int .u64 u2) ∧ W.cell? ⟨w.heap.size + 1, 4, none⟩ = some (.string s2) ∧ W.cell? ⟨w.heap.size + 1, 5, none⟩ = some (.slice B m2.length d))
                    (first | with_reducible exact HS.out _ hd | with_reducible exact HS.out _ hm4 | with_reducible exact HS.out _ hm5 | with_reducible exact HS.out _ hm6)
                    (first
                      | (go_at_call 13; (with_reducible refine Calls.mono (hV1.out _ hd) ?_); rintro e w4 ⟨rfl, hw4⟩; have hm4 := hd.trans (hw4.mono (HZ.out _ hd)))
                      | (go_at_call 13; (with_reducible refine Calls.mono (hV2.out _ hm4) ?_); rintro e w5 ⟨rfl, hw5⟩; have hm5 := hm4.trans (hw5.mono (HZ.out _ hm4)); have hm6 := hm5.alloc (HZ.out _ hm5) (.cells #[.int .i64 0, .int .i64 0] 31); have hO6 := HO.out _ _ (heap_alloc_new w5 (.cells #[.int .i64 0, .int .i64 0] 31)))
                      | (go_at_call 67; (with_reducible refine Calls.mono hO6 ?_); rintro e w6 ⟨rfl, rfl⟩))
                  have hlast := hm6
                  obtain ⟨p0, p1, p2, p3, p4, p5⟩ := HC.out _ hlast
                  obtain ⟨y0, y1, y2, y3, y4, y5⟩ := HY.out _ hlast
                  obtain ⟨q0, q1, q2, q3, q4, q5⟩ := HR.out _ hlast
                  have hf := HF.out _ hlast
                  generalize (w5.alloc (.cells #[.int .i64 0, .int .i64 0] 31)) = w6 at *
                  go_wp2_with (first
                    | (go_at_call 68; refine Calls.mono (hM.out _) ?_; rintro e w7 ⟨rfl, hw7⟩; replace hlast := hlast.trans (hw7.mono (HZ.out _ hlast)); clear p0 p1 p2 p3 p4 p5 y0 y1 y2 y3 y4 y5 q0 q1 q2 q3 q4 q5 hf; obtain ⟨p0, p1, p2, p3, p4, p5⟩ := HC.out _ hlast; obtain ⟨y0, y1, y2, y3, y4, y5⟩ := HY.out _ hlast; obtain ⟨q0, q1, q2, q3, q4, q5⟩ := HR.out _ hlast; have hf := HF.out _ hlast)
                    | (go_at_call 42; refine Calls.mono (hG.out _) ?_; rintro e w8 ⟨rfl, rfl⟩)
                    | (go_at_call 64; refine Calls.mono (hFd.out _ hlast) ?_; rintro e w9 ⟨rfl, hw9⟩; replace hlast := hlast.trans (hw9.mono (HZ.out _ hlast)); clear p0 p1 p2 p3 p4 p5 y0 y1 y2 y3 y4 y5 q0 q1 q2 q3 q4 q5 hf; obtain ⟨p0, p1, p2, p3, p4, p5⟩ := HC.out _ hlast; obtain ⟨y0, y1, y2, y3, y4, y5⟩ := HY.out _ hlast; obtain ⟨q0, q1, q2, q3, q4, q5⟩ := HR.out _ hlast; have hf := HF.out _ hlast))
                  clear p0 p1 p2 p3 p4 y0 y1 y2 y3 y4 y5 q0 q1 q2 q3 q4 q5 hf
                  go_quiet (fail)
                  have hdn := below_dnv (N := nq) hlast
                  clear p5 hlast
                  generalize w9.drewN nq = wd at *
                  obtain ⟨p0, p1, p2, _, _, p5⟩ := HC.out _ hdn
                  obtain ⟨_, _, _, y3, y4, _⟩ := HY.out _ hdn
                  obtain ⟨r0, r1, r2⟩ := three (heap_alloc_new wd (.cells #[.int .u64 i, .int .u64 u2, .string s2] 85))
                  have hxd := hdn.alloc (HZ.out _ hdn) (.cells #[.int .u64 i, .int .u64 u2, .string s2] 85)
                  by_cases hem : (u2 == 0 && s2.size == 0) = true
                  · have hIE2 := hIE
                    rw [hem] at hIE2
                    have hnew : newE i u2 s2 = ([] : List En) := by unfold newE; rw [if_pos hem]
                    have HP2 := HPt.out
                    rw [hnew] at HP2
                    replace HP2 := Lib.hid HP2
                    clear hem hnew
                    go_wp2_with (go_at_call 69; refine Calls.mono (hIE2.out _) ?_; rintro e wa ⟨rfl, hwa⟩; have hin0 := hxd.trans (hwa.mono (HZ.out _ hxd)))
                    have hin := hin0
                    have hdr := hin.drew
                    have hal := (hin.alloc (HZ.out _ hin) (.cells #[.slice (some ⟨b1, o1, o2⟩) 0 c, .slice none 0 0, .slice (some ⟨b1, o1, o2⟩) 0 c] 33)).drew
                    have hCat := vConcat_eq (m.take 0) ([] : List En) (m.drop 0) 0 0 0 (by have := HML.out; simp; try omega) rfl (by have := HML.out; simp; omega) (some ⟨b1, o1, o2⟩) none (some ⟨b1, o1, o2⟩) c 0 c wa.heap.size 3 (wa.alloc (.cells #[.slice (some ⟨b1, o1, o2⟩) 0 c, .slice none 0 0, .slice (some ⟨b1, o1, o2⟩) 0 c] 33)).drew (heap_alloc_new_at wa (.cells #[.slice (some ⟨b1, o1, o2⟩) 0 c, .slice none 0 0, .slice (some ⟨b1, o1, o2⟩) 0 c] 33) (by simp))
                      (.inl (by simp)) (.inl rfl) (.inl (by have := HML.out; exact List.drop_eq_nil_of_le (by omega))) ⟨Nat.zero_le _, fun h => by cases h⟩ ⟨Nat.le_refl _, fun _ => rfl⟩ ⟨Nat.zero_le _, fun h => by cases h⟩ (by omega)
                    have HS3 := Lib.hid fun (W : World) (h : Below (w.heap.size + 3) _ W) => (show W.cell? ⟨w.heap.size, 0, none⟩ = some (.int .i64 k) ∧ W.cell? ⟨w.heap.size, 1, none⟩ = some (.int .i64 n) ∧ W.cell? ⟨w.heap.size, 2, none⟩ = some (.int .i64 ix) from ⟨(HC.out W h).1, (HC.out W h).2.1, (HC.out W h).2.2.1⟩)
                    have hne : w.heap.size ≠ w.heap.size + 2 := by omega
                    clear p0 p1 p2 p5 y3 y4 r0 r1 r2
                    go_region_held3 (fun W => W.cell? ⟨w.heap.size, 0, none⟩ = some (.int .i64 k) ∧ W.cell? ⟨w.heap.size, 1, none⟩ = some (.int .i64 n) ∧ W.cell? ⟨w.heap.size, 2, none⟩ = some (.int .i64 ix))
                      (first | with_reducible exact HS3.out _ hdr | with_reducible exact HS3.out _ hal | with_reducible exact HS3.out _ hq | with_reducible exact HS4 _ _ _ _ _ _)
                      (first
                        | (go_at_call 70; (with_reducible refine Calls.mono hCat ?_); rintro e wq ⟨⟨A9, n9, c9, rfl, h9⟩, hwq⟩; have hq := hal.trans (hwq.mono (HZ.out _ hal)); have hf := HF.out _ hq; obtain ⟨q0, q1, q2, q3, q4, q5⟩ := HR.out _ hq; have HS4 := fun c0 c1 c2 c3 c4 c5 => (show (((((((wq.setCell ⟨w.heap.size + 2, 0, none⟩ c0).setCell ⟨w.heap.size + 2, 1, none⟩ c1).setCell ⟨w.heap.size + 2, 2, none⟩ c2).setCell ⟨w.heap.size + 2, 3, none⟩ c3).setCell ⟨w.heap.size + 2, 4, none⟩ c4).setCell ⟨w.heap.size + 2, 5, none⟩ c5).cell? ⟨w.heap.size, 0, none⟩ = some (.int .i64 k)) ∧ (((((((wq.setCell ⟨w.heap.size + 2, 0, none⟩ c0).setCell ⟨w.heap.size + 2, 1, none⟩ c1).setCell ⟨w.heap.size + 2, 2, none⟩ c2).setCell ⟨w.heap.size + 2, 3, none⟩ c3).setCell ⟨w.heap.size + 2, 4, none⟩ c4).setCell ⟨w.heap.size + 2, 5, none⟩ c5).cell? ⟨w.heap.size, 1, none⟩ = some (.int .i64 n)) ∧ (((((((wq.setCell ⟨w.heap.size + 2, 0, none⟩ c0).setCell ⟨w.heap.size + 2, 1, none⟩ c1).setCell ⟨w.heap.size + 2, 2, none⟩ c2).setCell ⟨w.heap.size + 2, 3, none⟩ c3).setCell ⟨w.heap.size + 2, 4, none⟩ c4).setCell ⟨w.heap.size + 2, 5, none⟩ c5).cell? ⟨w.heap.size, 2, none⟩ = some (.int .i64 ix)) from ⟨(World.cell?_of_block (set6_heap c0 c1 c2 c3 c4 c5 hne)).trans (HS3.out _ hq).1, (World.cell?_of_block (set6_heap c0 c1 c2 c3 c4 c5 hne)).trans (HS3.out _ hq).2.1, (World.cell?_of_block (set6_heap c0 c1 c2 c3 c4 c5 hne)).trans (HS3.out _ hq).2.2⟩)))
                    go_wp2_with fail
                    refine bodyPost_ret (v := .tuple #[.agg #[.int .i64 k, .int .i64 n, .int .i64 ix, .int .u64 0, .string ⟨#[]⟩, .slice A9 n9 c9], .int .i64 0]) (by simp [results, Try.results29, go_sem, q0, q1, q2, q3, q4, q5]) rfl ?_
                    rw [hE.out, hR.out]
                    obtain ⟨g1, g2, g3, g4⟩ := h9.out
                    have hPut := Hok.out
                    rw [HP2.out] at hPut ⊢
                    refine sto_fin hPut g1 g2 g3 (g4.to (fun b hb => ⟨⟨?_, ?_⟩, set6_heap _ _ _ _ _ _ ?_⟩)) (set6_below (HB.out _ hq) (Nat.le_add_right _ 2) _ _ _ _ _ _)
                    · have h1 := hb.1; have h2 := HZ.out _ hal; omega
                    · rw [set6_size]; exact hb.2
                    · have h1 := hb.1; have h2 := HZ.out _ hal; omega
                  · have hemf : (u2 == 0 && s2.size == 0) = false := by simpa using hem
                    have hIE2 := hIE
                    rw [hemf] at hIE2
                    have hnew : newE i u2 s2 = [(⟨i, u2, s2⟩ : En)] := by unfold newE; rw [if_neg hem]
                    have HP2 := HPt.out
                    rw [hnew] at HP2
                    replace HP2 := Lib.hid HP2
                    clear hem hnew hemf
                    go_wp2_with (go_at_call 69; refine Calls.mono (hIE2.out _) ?_; rintro e wa ⟨rfl, hwa⟩; have hin0 := hxd.trans (hwa.mono (HZ.out _ hxd)); obtain ⟨t0, t1, t2⟩ := three ((hwa.block wd.heap.size (by simp)).trans (heap_alloc_new wd (.cells #[.int .u64 i, .int .u64 u2, .string s2] 85))))
                    have hin := hin0.alloc (HZ.out _ hin0) (.cells #[.int .u64 i, .int .u64 u2, .string s2] 85)
                    have hdr := hin.drew
                    have hal := (hin.alloc (HZ.out _ hin) (.cells #[.slice (some ⟨b1, o1, o2⟩) 0 c, .slice (some ⟨wa.heap.size, 0, none⟩) 1 1, .slice (some ⟨b1, o1, o2⟩) 0 c] 33)).drew
                    have hCat := vConcat_eq (m.take 0) [(⟨i, u2, s2⟩ : En)] (m.drop 0) 0 1 0 (by have := HML.out; simp; try omega) rfl (by have := HML.out; simp; omega) (some ⟨b1, o1, o2⟩) (some ⟨wa.heap.size, 0, none⟩) (some ⟨b1, o1, o2⟩) c 1 c (wa.heap.size + 1) 3 ((wa.alloc (.cells #[.int .u64 i, .int .u64 u2, .string s2] 85)).alloc (.cells #[.slice (some ⟨b1, o1, o2⟩) 0 c, .slice (some ⟨wa.heap.size, 0, none⟩) 1 1, .slice (some ⟨b1, o1, o2⟩) 0 c] 33)).drew (heap_alloc_new_at (wa.alloc (.cells #[.int .u64 i, .int .u64 u2, .string s2] 85)) (.cells #[.slice (some ⟨b1, o1, o2⟩) 0 c, .slice (some ⟨wa.heap.size, 0, none⟩) 1 1, .slice (some ⟨b1, o1, o2⟩) 0 c] 33) (by simp))
                      (.inl (by simp)) (enl_one ((Below.heap_alloc (wa.alloc (.cells #[.int .u64 i, .int .u64 u2, .string s2] 85)) (.cells #[.slice (some ⟨b1, o1, o2⟩) 0 c, .slice (some ⟨wa.heap.size, 0, none⟩) 1 1, .slice (some ⟨b1, o1, o2⟩) 0 c] 33) _ (by simp)).trans (heap_alloc_new wa (.cells #[.int .u64 i, .int .u64 u2, .string s2] 85))) (by show wa.heap.size < _; simp; omega)) (.inl (by have := HML.out; exact List.drop_eq_nil_of_le (by omega))) ⟨Nat.zero_le _, fun h => by cases h⟩ ⟨Nat.le_refl _, fun h => by cases h⟩ ⟨Nat.zero_le _, fun h => by cases h⟩ (by omega)
                    have HS3 := Lib.hid fun (W : World) (h : Below (w.heap.size + 3) _ W) => (show W.cell? ⟨w.heap.size, 0, none⟩ = some (.int .i64 k) ∧ W.cell? ⟨w.heap.size, 1, none⟩ = some (.int .i64 n) ∧ W.cell? ⟨w.heap.size, 2, none⟩ = some (.int .i64 ix) from ⟨(HC.out W h).1, (HC.out W h).2.1, (HC.out W h).2.2.1⟩)
                    have hne : w.heap.size ≠ w.heap.size + 2 := by omega
                    clear p0 p1 p2 p5 y3 y4 r0 r1 r2 t0 t1 t2
                    go_region_held3 (fun W => W.cell? ⟨w.heap.size, 0, none⟩ = some (.int .i64 k) ∧ W.cell? ⟨w.heap.size, 1, none⟩ = some (.int .i64 n) ∧ W.cell? ⟨w.heap.size, 2, none⟩ = some (.int .i64 ix))
                      (first | with_reducible exact HS3.out _ hdr | with_reducible exact HS3.out _ hal | with_reducible exact HS3.out _ hq | with_reducible exact HS4 _ _ _ _ _ _)
                      (first
                        | (go_at_call 70; (with_reducible refine Calls.mono hCat ?_); rintro e wq ⟨⟨A9, n9, c9, rfl, h9⟩, hwq⟩; have hq := hal.trans (hwq.mono (HZ.out _ hal)); have hf := HF.out _ hq; obtain ⟨q0, q1, q2, q3, q4, q5⟩ := HR.out _ hq; have HS4 := fun c0 c1 c2 c3 c4 c5 => (show (((((((wq.setCell ⟨w.heap.size + 2, 0, none⟩ c0).setCell ⟨w.heap.size + 2, 1, none⟩ c1).setCell ⟨w.heap.size + 2, 2, none⟩ c2).setCell ⟨w.heap.size + 2, 3, none⟩ c3).setCell ⟨w.heap.size + 2, 4, none⟩ c4).setCell ⟨w.heap.size + 2, 5, none⟩ c5).cell? ⟨w.heap.size, 0, none⟩ = some (.int .i64 k)) ∧ (((((((wq.setCell ⟨w.heap.size + 2, 0, none⟩ c0).setCell ⟨w.heap.size + 2, 1, none⟩ c1).setCell ⟨w.heap.size + 2, 2, none⟩ c2).setCell ⟨w.heap.size + 2, 3, none⟩ c3).setCell ⟨w.heap.size + 2, 4, none⟩ c4).setCell ⟨w.heap.size + 2, 5, none⟩ c5).cell? ⟨w.heap.size, 1, none⟩ = some (.int .i64 n)) ∧ (((((((wq.setCell ⟨w.heap.size + 2, 0, none⟩ c0).setCell ⟨w.heap.size + 2, 1, none⟩ c1).setCell ⟨w.heap.size + 2, 2, none⟩ c2).setCell ⟨w.heap.size + 2, 3, none⟩ c3).setCell ⟨w.heap.size + 2, 4, none⟩ c4).setCell ⟨w.heap.size + 2, 5, none⟩ c5).cell? ⟨w.heap.size, 2, none⟩ = some (.int .i64 ix)) from ⟨(World.cell?_of_block (set6_heap c0 c1 c2 c3 c4 c5 hne)).trans (HS3.out _ hq).1, (World.cell?_of_block (set6_heap c0 c1 c2 c3 c4 c5 hne)).trans (HS3.out _ hq).2.1, (World.cell?_of_block (set6_heap c0 c1 c2 c3 c4 c5 hne)).trans (HS3.out _ hq).2.2⟩)))
                    go_wp2_with fail
                    refine bodyPost_ret (v := .tuple #[.agg #[.int .i64 k, .int .i64 n, .int .i64 ix, .int .u64 0, .string ⟨#[]⟩, .slice A9 n9 c9], .int .i64 0]) (by simp [results, Try.results29, go_sem, q0, q1, q2, q3, q4, q5]) rfl ?_
                    rw [hE.out, hR.out]
                    obtain ⟨g1, g2, g3, g4⟩ := h9.out
                    have hPut := Hok.out
                    rw [HP2.out] at hPut ⊢
                    refine sto_fin hPut g1 g2 g3 (g4.to (fun b hb => ⟨⟨?_, ?_⟩, set6_heap _ _ _ _ _ _ ?_⟩)) (set6_below (HB.out _ hq) (Nat.le_add_right _ 2) _ _ _ _ _ _)
                    · have h1 := hb.1; have h2 := HZ.out _ hal; omega
                    · rw [set6_size]; exact hb.2
                    · have h1 := hb.1; have h2 := HZ.out _ hal; omega

          · obtain ⟨b1, o1, rfl, hb1⟩ := hl.out.addr (by have := HML.out; omega)
            have hP1 : (P : Int) ≤ (ml : Int) := by omega
            have hP0 : (0 : Int) ≤ (P : Int) := by omega
            have hPc : (P : Int) ≤ (c : Int) := by omega
            have hmc : (ml : Int) ≤ (c : Int) := by omega
            cases F with
            | true =>
              have hFl2 := hFl rfl
              by_cases hc1 : c - P = 1
              · have hr1 : ml - P - 1 = 0 := by omega
                have HPt := Lib.hid (show putE i u2 s2 m = m.take P ++ newE i u2 s2 ++ m.drop (P + 1) from by rw [HP.out]; rfl)
                clear HP
                go_enter Try.func29, Try.ntmps29
                go_wp2_with fail
                go_region_held3 (fun W => W.cell? ⟨w.heap.size, 0, none⟩ = some (.int .i64 k) ∧ W.cell? ⟨w.heap.size, 1, none⟩ = some (.int .i64 n) ∧ W.cell? ⟨w.heap.size, 2, none⟩ = some (.int .i64 ix) ∧ W.cell? ⟨w.heap.size, 3, none⟩ = some (.int .u64 u) ∧ W.cell? ⟨w.heap.size, 4, none⟩ = some (.string s) ∧ W.cell? ⟨w.heap.size, 5, none⟩ = some (.slice (some ⟨b1, o1, none⟩) ml c) ∧ W.cell? ⟨w.heap.size + 1, 0, none⟩ = some (.int .i64 k2) ∧ W.cell? ⟨w.heap.size + 1, 1, none⟩ = some (.int .i64 n2) ∧ W.cell? ⟨w.heap.size + 1, 2, none⟩ = some (.int .i64 ix2) ∧ W.cell? ⟨w.heap.size + 1, 3, none⟩ = some (.int .u64 u2) ∧ W.cell? ⟨w.heap.size + 1, 4, none⟩ = some (.string s2) ∧ W.cell? ⟨w.heap.size + 1, 5, none⟩ = some (.slice B m2.length d))
                  (first | with_reducible exact HS.out _ hd | with_reducible exact HS.out _ hm4 | with_reducible exact HS.out _ hm5 | with_reducible exact HS.out _ hm6)
                  (first
                    | (go_at_call 13; (with_reducible refine Calls.mono (hV1.out _ hd) ?_); rintro e w4 ⟨rfl, hw4⟩; have hm4 := hd.trans (hw4.mono (HZ.out _ hd)))
                    | (go_at_call 13; (with_reducible refine Calls.mono (hV2.out _ hm4) ?_); rintro e w5 ⟨rfl, hw5⟩; have hm5 := hm4.trans (hw5.mono (HZ.out _ hm4)); have hm6 := hm5.alloc (HZ.out _ hm5) (.cells #[.int .i64 0, .int .i64 0] 31); have hO6 := HO.out _ _ (heap_alloc_new w5 (.cells #[.int .i64 0, .int .i64 0] 31)))
                    | (go_at_call 67; (with_reducible refine Calls.mono hO6 ?_); rintro e w6 ⟨rfl, rfl⟩))
                have hlast := hm6
                obtain ⟨p0, p1, p2, p3, p4, p5⟩ := HC.out _ hlast
                obtain ⟨y0, y1, y2, y3, y4, y5⟩ := HY.out _ hlast
                obtain ⟨q0, q1, q2, q3, q4, q5⟩ := HR.out _ hlast
                have hf := HF.out _ hlast
                generalize (w5.alloc (.cells #[.int .i64 0, .int .i64 0] 31)) = w6 at *
                go_wp2_with (first
                  | (go_at_call 68; refine Calls.mono (hM.out _) ?_; rintro e w7 ⟨rfl, hw7⟩; replace hlast := hlast.trans (hw7.mono (HZ.out _ hlast)); clear p0 p1 p2 p3 p4 p5 y0 y1 y2 y3 y4 y5 q0 q1 q2 q3 q4 q5 hf; obtain ⟨p0, p1, p2, p3, p4, p5⟩ := HC.out _ hlast; obtain ⟨y0, y1, y2, y3, y4, y5⟩ := HY.out _ hlast; obtain ⟨q0, q1, q2, q3, q4, q5⟩ := HR.out _ hlast; have hf := HF.out _ hlast)
                  | (go_at_call 42; refine Calls.mono (hG.out _) ?_; rintro e w8 ⟨rfl, rfl⟩)
                  | (go_at_call 64; refine Calls.mono (hFd.out _ hlast) ?_; rintro e w9 ⟨rfl, hw9⟩; replace hlast := hlast.trans (hw9.mono (HZ.out _ hlast)); clear p0 p1 p2 p3 p4 p5 y0 y1 y2 y3 y4 y5 q0 q1 q2 q3 q4 q5 hf; obtain ⟨p0, p1, p2, p3, p4, p5⟩ := HC.out _ hlast; obtain ⟨y0, y1, y2, y3, y4, y5⟩ := HY.out _ hlast; obtain ⟨q0, q1, q2, q3, q4, q5⟩ := HR.out _ hlast; have hf := HF.out _ hlast))
                clear p0 p1 p2 p3 p4 y0 y1 y2 y3 y4 y5 q0 q1 q2 q3 q4 q5 hf
                go_quiet (fail)
                have hdn := below_dnv (N := nq) hlast
                clear p5 hlast
                generalize w9.drewN nq = wd at *
                obtain ⟨p0, p1, p2, _, _, p5⟩ := HC.out _ hdn
                obtain ⟨_, _, _, y3, y4, _⟩ := HY.out _ hdn
                obtain ⟨r0, r1, r2⟩ := three (heap_alloc_new wd (.cells #[.int .u64 i, .int .u64 u2, .string s2] 85))
                have hxd := hdn.alloc (HZ.out _ hdn) (.cells #[.int .u64 i, .int .u64 u2, .string s2] 85)
                by_cases hem : (u2 == 0 && s2.size == 0) = true
                · have hIE2 := hIE
                  rw [hem] at hIE2
                  have hnew : newE i u2 s2 = ([] : List En) := by unfold newE; rw [if_pos hem]
                  have HP2 := HPt.out
                  rw [hnew] at HP2
                  replace HP2 := Lib.hid HP2
                  clear hem hnew
                  go_wp2_with (go_at_call 69; refine Calls.mono (hIE2.out _) ?_; rintro e wa ⟨rfl, hwa⟩; have hin0 := hxd.trans (hwa.mono (HZ.out _ hxd)))
                  have hin := hin0
                  have hdr := hin.drew
                  have hal := (hin.alloc (HZ.out _ hin) (.cells #[.slice (some ⟨b1, o1, none⟩) P c, .slice none 0 0, .slice (some ⟨b1, o1 + P * 3, none⟩) 0 0] 33)).drew
                  have hCat := vConcat_eq (m.take P) ([] : List En) (m.drop (P + 1)) P 0 0 (by have := HML.out; simp; omega) rfl (by have := HML.out; simp; omega) (some ⟨b1, o1, none⟩) none (some ⟨b1, o1 + P * 3, none⟩) c 0 0 wa.heap.size 3 (wa.alloc (.cells #[.slice (some ⟨b1, o1, none⟩) P c, .slice none 0 0, .slice (some ⟨b1, o1 + P * 3, none⟩) 0 0] 33)).drew (heap_alloc_new_at wa (.cells #[.slice (some ⟨b1, o1, none⟩) P c, .slice none 0 0, .slice (some ⟨b1, o1 + P * 3, none⟩) 0 0] 33) (by simp))
                    ((HL.out _ hal).take P) (.inl rfl) (.inl (by have := HML.out; exact List.drop_eq_nil_of_le (by omega))) ⟨by omega, fun h => by cases h⟩ ⟨Nat.le_refl _, fun _ => rfl⟩ ⟨Nat.le_refl _, fun _ => rfl⟩ (by omega)
                  have HS3 := Lib.hid fun (W : World) (h : Below (w.heap.size + 3) _ W) => (show W.cell? ⟨w.heap.size, 0, none⟩ = some (.int .i64 k) ∧ W.cell? ⟨w.heap.size, 1, none⟩ = some (.int .i64 n) ∧ W.cell? ⟨w.heap.size, 2, none⟩ = some (.int .i64 ix) from ⟨(HC.out W h).1, (HC.out W h).2.1, (HC.out W h).2.2.1⟩)
                  have hne : w.heap.size ≠ w.heap.size + 2 := by omega
                  clear p0 p1 p2 p5 y3 y4 r0 r1 r2
                  go_region_held3 (fun W => W.cell? ⟨w.heap.size, 0, none⟩ = some (.int .i64 k) ∧ W.cell? ⟨w.heap.size, 1, none⟩ = some (.int .i64 n) ∧ W.cell? ⟨w.heap.size, 2, none⟩ = some (.int .i64 ix))
                    (first | with_reducible exact HS3.out _ hdr | with_reducible exact HS3.out _ hal | with_reducible exact HS3.out _ hq | with_reducible exact HS4 _ _ _ _ _ _)
                    (first
                      | (go_at_call 70; (with_reducible refine Calls.mono hCat ?_); rintro e wq ⟨⟨A9, n9, c9, rfl, h9⟩, hwq⟩; have hq := hal.trans (hwq.mono (HZ.out _ hal)); have hf := HF.out _ hq; obtain ⟨q0, q1, q2, q3, q4, q5⟩ := HR.out _ hq; have HS4 := fun c0 c1 c2 c3 c4 c5 => (show (((((((wq.setCell ⟨w.heap.size + 2, 0, none⟩ c0).setCell ⟨w.heap.size + 2, 1, none⟩ c1).setCell ⟨w.heap.size + 2, 2, none⟩ c2).setCell ⟨w.heap.size + 2, 3, none⟩ c3).setCell ⟨w.heap.size + 2, 4, none⟩ c4).setCell ⟨w.heap.size + 2, 5, none⟩ c5).cell? ⟨w.heap.size, 0, none⟩ = some (.int .i64 k)) ∧ (((((((wq.setCell ⟨w.heap.size + 2, 0, none⟩ c0).setCell ⟨w.heap.size + 2, 1, none⟩ c1).setCell ⟨w.heap.size + 2, 2, none⟩ c2).setCell ⟨w.heap.size + 2, 3, none⟩ c3).setCell ⟨w.heap.size + 2, 4, none⟩ c4).setCell ⟨w.heap.size + 2, 5, none⟩ c5).cell? ⟨w.heap.size, 1, none⟩ = some (.int .i64 n)) ∧ (((((((wq.setCell ⟨w.heap.size + 2, 0, none⟩ c0).setCell ⟨w.heap.size + 2, 1, none⟩ c1).setCell ⟨w.heap.size + 2, 2, none⟩ c2).setCell ⟨w.heap.size + 2, 3, none⟩ c3).setCell ⟨w.heap.size + 2, 4, none⟩ c4).setCell ⟨w.heap.size + 2, 5, none⟩ c5).cell? ⟨w.heap.size, 2, none⟩ = some (.int .i64 ix)) from ⟨(World.cell?_of_block (set6_heap c0 c1 c2 c3 c4 c5 hne)).trans (HS3.out _ hq).1, (World.cell?_of_block (set6_heap c0 c1 c2 c3 c4 c5 hne)).trans (HS3.out _ hq).2.1, (World.cell?_of_block (set6_heap c0 c1 c2 c3 c4 c5 hne)).trans (HS3.out _ hq).2.2⟩)))
                  go_wp2_with fail
                  refine bodyPost_ret (v := .tuple #[.agg #[.int .i64 k, .int .i64 n, .int .i64 ix, .int .u64 0, .string ⟨#[]⟩, .slice A9 n9 c9], .int .i64 0]) (by simp [results, Try.results29, go_sem, q0, q1, q2, q3, q4, q5]) rfl ?_
                  rw [hE.out, hR.out]
                  obtain ⟨g1, g2, g3, g4⟩ := h9.out
                  have hPut := Hok.out
                  rw [HP2.out] at hPut ⊢
                  refine sto_fin hPut g1 g2 g3 (g4.to (fun b hb => ⟨⟨?_, ?_⟩, set6_heap _ _ _ _ _ _ ?_⟩)) (set6_below (HB.out _ hq) (Nat.le_add_right _ 2) _ _ _ _ _ _)
                  · have h1 := hb.1; have h2 := HZ.out _ hal; omega
                  · rw [set6_size]; exact hb.2
                  · have h1 := hb.1; have h2 := HZ.out _ hal; omega
                · have hemf : (u2 == 0 && s2.size == 0) = false := by simpa using hem
                  have hIE2 := hIE
                  rw [hemf] at hIE2
                  have hnew : newE i u2 s2 = [(⟨i, u2, s2⟩ : En)] := by unfold newE; rw [if_neg hem]
                  have HP2 := HPt.out
                  rw [hnew] at HP2
                  replace HP2 := Lib.hid HP2
                  clear hem hnew hemf
                  go_wp2_with (go_at_call 69; refine Calls.mono (hIE2.out _) ?_; rintro e wa ⟨rfl, hwa⟩; have hin0 := hxd.trans (hwa.mono (HZ.out _ hxd)); obtain ⟨t0, t1, t2⟩ := three ((hwa.block wd.heap.size (by simp)).trans (heap_alloc_new wd (.cells #[.int .u64 i, .int .u64 u2, .string s2] 85))))
                  have hin := hin0.alloc (HZ.out _ hin0) (.cells #[.int .u64 i, .int .u64 u2, .string s2] 85)
                  have hdr := hin.drew
                  have hal := (hin.alloc (HZ.out _ hin) (.cells #[.slice (some ⟨b1, o1, none⟩) P c, .slice (some ⟨wa.heap.size, 0, none⟩) 1 1, .slice (some ⟨b1, o1 + P * 3, none⟩) 0 0] 33)).drew
                  have hCat := vConcat_eq (m.take P) [(⟨i, u2, s2⟩ : En)] (m.drop (P + 1)) P 1 0 (by have := HML.out; simp; omega) rfl (by have := HML.out; simp; omega) (some ⟨b1, o1, none⟩) (some ⟨wa.heap.size, 0, none⟩) (some ⟨b1, o1 + P * 3, none⟩) c 1 0 (wa.heap.size + 1) 3 ((wa.alloc (.cells #[.int .u64 i, .int .u64 u2, .string s2] 85)).alloc (.cells #[.slice (some ⟨b1, o1, none⟩) P c, .slice (some ⟨wa.heap.size, 0, none⟩) 1 1, .slice (some ⟨b1, o1 + P * 3, none⟩) 0 0] 33)).drew (heap_alloc_new_at (wa.alloc (.cells #[.int .u64 i, .int .u64 u2, .string s2] 85)) (.cells #[.slice (some ⟨b1, o1, none⟩) P c, .slice (some ⟨wa.heap.size, 0, none⟩) 1 1, .slice (some ⟨b1, o1 + P * 3, none⟩) 0 0] 33) (by simp))
                    ((HL.out _ hal).take P) (enl_one ((Below.heap_alloc (wa.alloc (.cells #[.int .u64 i, .int .u64 u2, .string s2] 85)) (.cells #[.slice (some ⟨b1, o1, none⟩) P c, .slice (some ⟨wa.heap.size, 0, none⟩) 1 1, .slice (some ⟨b1, o1 + P * 3, none⟩) 0 0] 33) _ (by simp)).trans (heap_alloc_new wa (.cells #[.int .u64 i, .int .u64 u2, .string s2] 85))) (by show wa.heap.size < _; simp; omega)) (.inl (by have := HML.out; exact List.drop_eq_nil_of_le (by omega))) ⟨by omega, fun h => by cases h⟩ ⟨Nat.le_refl _, fun h => by cases h⟩ ⟨Nat.le_refl _, fun _ => rfl⟩ (by omega)
                  have HS3 := Lib.hid fun (W : World) (h : Below (w.heap.size + 3) _ W) => (show W.cell? ⟨w.heap.size, 0, none⟩ = some (.int .i64 k) ∧ W.cell? ⟨w.heap.size, 1, none⟩ = some (.int .i64 n) ∧ W.cell? ⟨w.heap.size, 2, none⟩ = some (.int .i64 ix) from ⟨(HC.out W h).1, (HC.out W h).2.1, (HC.out W h).2.2.1⟩)
                  have hne : w.heap.size ≠ w.heap.size + 2 := by omega
                  clear p0 p1 p2 p5 y3 y4 r0 r1 r2 t0 t1 t2
                  go_region_held3 (fun W => W.cell? ⟨w.heap.size, 0, none⟩ = some (.int .i64 k) ∧ W.cell? ⟨w.heap.size, 1, none⟩ = some (.int .i64 n) ∧ W.cell? ⟨w.heap.size, 2, none⟩ = some (.int .i64 ix))
                    (first | with_reducible exact HS3.out _ hdr | with_reducible exact HS3.out _ hal | with_reducible exact HS3.out _ hq | with_reducible exact HS4 _ _ _ _ _ _)
                    (first
                      | (go_at_call 70; (with_reducible refine Calls.mono hCat ?_); rintro e wq ⟨⟨A9, n9, c9, rfl, h9⟩, hwq⟩; have hq := hal.trans (hwq.mono (HZ.out _ hal)); have hf := HF.out _ hq; obtain ⟨q0, q1, q2, q3, q4, q5⟩ := HR.out _ hq; have HS4 := fun c0 c1 c2 c3 c4 c5 => (show (((((((wq.setCell ⟨w.heap.size + 2, 0, none⟩ c0).setCell ⟨w.heap.size + 2, 1, none⟩ c1).setCell ⟨w.heap.size + 2, 2, none⟩ c2).setCell ⟨w.heap.size + 2, 3, none⟩ c3).setCell ⟨w.heap.size + 2, 4, none⟩ c4).setCell ⟨w.heap.size + 2, 5, none⟩ c5).cell? ⟨w.heap.size, 0, none⟩ = some (.int .i64 k)) ∧ (((((((wq.setCell ⟨w.heap.size + 2, 0, none⟩ c0).setCell ⟨w.heap.size + 2, 1, none⟩ c1).setCell ⟨w.heap.size + 2, 2, none⟩ c2).setCell ⟨w.heap.size + 2, 3, none⟩ c3).setCell ⟨w.heap.size + 2, 4, none⟩ c4).setCell ⟨w.heap.size + 2, 5, none⟩ c5).cell? ⟨w.heap.size, 1, none⟩ = some (.int .i64 n)) ∧ (((((((wq.setCell ⟨w.heap.size + 2, 0, none⟩ c0).setCell ⟨w.heap.size + 2, 1, none⟩ c1).setCell ⟨w.heap.size + 2, 2, none⟩ c2).setCell ⟨w.heap.size + 2, 3, none⟩ c3).setCell ⟨w.heap.size + 2, 4, none⟩ c4).setCell ⟨w.heap.size + 2, 5, none⟩ c5).cell? ⟨w.heap.size, 2, none⟩ = some (.int .i64 ix)) from ⟨(World.cell?_of_block (set6_heap c0 c1 c2 c3 c4 c5 hne)).trans (HS3.out _ hq).1, (World.cell?_of_block (set6_heap c0 c1 c2 c3 c4 c5 hne)).trans (HS3.out _ hq).2.1, (World.cell?_of_block (set6_heap c0 c1 c2 c3 c4 c5 hne)).trans (HS3.out _ hq).2.2⟩)))
                  go_wp2_with fail
                  refine bodyPost_ret (v := .tuple #[.agg #[.int .i64 k, .int .i64 n, .int .i64 ix, .int .u64 0, .string ⟨#[]⟩, .slice A9 n9 c9], .int .i64 0]) (by simp [results, Try.results29, go_sem, q0, q1, q2, q3, q4, q5]) rfl ?_
                  rw [hE.out, hR.out]
                  obtain ⟨g1, g2, g3, g4⟩ := h9.out
                  have hPut := Hok.out
                  rw [HP2.out] at hPut ⊢
                  refine sto_fin hPut g1 g2 g3 (g4.to (fun b hb => ⟨⟨?_, ?_⟩, set6_heap _ _ _ _ _ _ ?_⟩)) (set6_below (HB.out _ hq) (Nat.le_add_right _ 2) _ _ _ _ _ _)
                  · have h1 := hb.1; have h2 := HZ.out _ hal; omega
                  · rw [set6_size]; exact hb.2
                  · have h1 := hb.1; have h2 := HZ.out _ hal; omega

              · have hc2 : ¬ (c : Int) - (P : Int) = 1 := by omega
                have HPt := Lib.hid (show putE i u2 s2 m = m.take P ++ newE i u2 s2 ++ m.drop (P + 1) from by rw [HP.out]; rfl)
                clear HP
                go_enter Try.func29, Try.ntmps29
                go_wp2_with fail
                go_region_held3 (fun W => W.cell? ⟨w.heap.size, 0, none⟩ = some (.int .i64 k) ∧ W.cell? ⟨w.heap.size, 1, none⟩ = some (.int .i64 n) ∧ W.cell? ⟨w.heap.size, 2, none⟩ = some (.int .i64 ix) ∧ W.cell? ⟨w.heap.size, 3, none⟩ = some (.int .u64 u) ∧ W.cell? ⟨w.heap.size, 4, none⟩ = some (.string s) ∧ W.cell? ⟨w.heap.size, 5, none⟩ = some (.slice (some ⟨b1, o1, none⟩) ml c) ∧ W.cell? ⟨w.heap.size + 1, 0, none⟩ = some (.int .i64 k2) ∧ W.cell? ⟨w.heap.size + 1, 1, none⟩ = some (.int .i64 n2) ∧ W.cell? ⟨w.heap.size + 1, 2, none⟩ = some (.int .i64 ix2) ∧ W.cell? ⟨w.heap.size + 1, 3, none⟩ = some (.int .u64 u2) ∧ W.cell? ⟨w.heap.size + 1, 4, none⟩ = some (.string s2) ∧ W.cell? ⟨w.heap.size + 1, 5, none⟩ = some (.slice B m2.length d))
                  (first | with_reducible exact HS.out _ hd | with_reducible exact HS.out _ hm4 | with_reducible exact HS.out _ hm5 | with_reducible exact HS.out _ hm6)
                  (first
                    | (go_at_call 13; (with_reducible refine Calls.mono (hV1.out _ hd) ?_); rintro e w4 ⟨rfl, hw4⟩; have hm4 := hd.trans (hw4.mono (HZ.out _ hd)))
                    | (go_at_call 13; (with_reducible refine Calls.mono (hV2.out _ hm4) ?_); rintro e w5 ⟨rfl, hw5⟩; have hm5 := hm4.trans (hw5.mono (HZ.out _ hm4)); have hm6 := hm5.alloc (HZ.out _ hm5) (.cells #[.int .i64 0, .int .i64 0] 31); have hO6 := HO.out _ _ (heap_alloc_new w5 (.cells #[.int .i64 0, .int .i64 0] 31)))
                    | (go_at_call 67; (with_reducible refine Calls.mono hO6 ?_); rintro e w6 ⟨rfl, rfl⟩))
                have hlast := hm6
                obtain ⟨p0, p1, p2, p3, p4, p5⟩ := HC.out _ hlast
                obtain ⟨y0, y1, y2, y3, y4, y5⟩ := HY.out _ hlast
                obtain ⟨q0, q1, q2, q3, q4, q5⟩ := HR.out _ hlast
                have hf := HF.out _ hlast
                generalize (w5.alloc (.cells #[.int .i64 0, .int .i64 0] 31)) = w6 at *
                go_wp2_with (first
                  | (go_at_call 68; refine Calls.mono (hM.out _) ?_; rintro e w7 ⟨rfl, hw7⟩; replace hlast := hlast.trans (hw7.mono (HZ.out _ hlast)); clear p0 p1 p2 p3 p4 p5 y0 y1 y2 y3 y4 y5 q0 q1 q2 q3 q4 q5 hf; obtain ⟨p0, p1, p2, p3, p4, p5⟩ := HC.out _ hlast; obtain ⟨y0, y1, y2, y3, y4, y5⟩ := HY.out _ hlast; obtain ⟨q0, q1, q2, q3, q4, q5⟩ := HR.out _ hlast; have hf := HF.out _ hlast)
                  | (go_at_call 42; refine Calls.mono (hG.out _) ?_; rintro e w8 ⟨rfl, rfl⟩)
                  | (go_at_call 64; refine Calls.mono (hFd.out _ hlast) ?_; rintro e w9 ⟨rfl, hw9⟩; replace hlast := hlast.trans (hw9.mono (HZ.out _ hlast)); clear p0 p1 p2 p3 p4 p5 y0 y1 y2 y3 y4 y5 q0 q1 q2 q3 q4 q5 hf; obtain ⟨p0, p1, p2, p3, p4, p5⟩ := HC.out _ hlast; obtain ⟨y0, y1, y2, y3, y4, y5⟩ := HY.out _ hlast; obtain ⟨q0, q1, q2, q3, q4, q5⟩ := HR.out _ hlast; have hf := HF.out _ hlast))
                clear p0 p1 p2 p3 p4 y0 y1 y2 y3 y4 y5 q0 q1 q2 q3 q4 q5 hf
                go_quiet (fail)
                have hdn := below_dnv (N := nq) hlast
                clear p5 hlast
                generalize w9.drewN nq = wd at *
                obtain ⟨p0, p1, p2, _, _, p5⟩ := HC.out _ hdn
                obtain ⟨_, _, _, y3, y4, _⟩ := HY.out _ hdn
                obtain ⟨r0, r1, r2⟩ := three (heap_alloc_new wd (.cells #[.int .u64 i, .int .u64 u2, .string s2] 85))
                have hxd := hdn.alloc (HZ.out _ hdn) (.cells #[.int .u64 i, .int .u64 u2, .string s2] 85)
                by_cases hem : (u2 == 0 && s2.size == 0) = true
                · have hIE2 := hIE
                  rw [hem] at hIE2
                  have hnew : newE i u2 s2 = ([] : List En) := by unfold newE; rw [if_pos hem]
                  have HP2 := HPt.out
                  rw [hnew] at HP2
                  replace HP2 := Lib.hid HP2
                  clear hem hnew
                  go_wp2_with (go_at_call 69; refine Calls.mono (hIE2.out _) ?_; rintro e wa ⟨rfl, hwa⟩; have hin0 := hxd.trans (hwa.mono (HZ.out _ hxd)))
                  have hin := hin0
                  have hdr := hin.drew
                  have hal := (hin.alloc (HZ.out _ hin) (.cells #[.slice (some ⟨b1, o1, none⟩) P c, .slice none 0 0, .slice (some ⟨b1, o1 + P * 3 + 3, none⟩) (ml - P - 1) (c - P - 1)] 33)).drew
                  have hCat := vConcat_eq (m.take P) ([] : List En) (m.drop (P + 1)) P 0 (ml - P - 1) (by have := HML.out; simp; omega) rfl (by have := HML.out; simp; omega) (some ⟨b1, o1, none⟩) none (some ⟨b1, o1 + P * 3 + 3, none⟩) c 0 (c - P - 1) wa.heap.size 3 (wa.alloc (.cells #[.slice (some ⟨b1, o1, none⟩) P c, .slice none 0 0, .slice (some ⟨b1, o1 + P * 3 + 3, none⟩) (ml - P - 1) (c - P - 1)] 33)).drew (heap_alloc_new_at wa (.cells #[.slice (some ⟨b1, o1, none⟩) P c, .slice none 0 0, .slice (some ⟨b1, o1 + P * 3 + 3, none⟩) (ml - P - 1) (c - P - 1)] 33) (by simp))
                    ((HL.out _ hal).take P) (.inl rfl) (by have := (HL.out _ hal).drop (P + 1); rwa [show o1 + (P + 1) * 3 = o1 + P * 3 + 3 by omega] at this) ⟨by omega, fun h => by cases h⟩ ⟨Nat.le_refl _, fun _ => rfl⟩ ⟨by omega, fun h => by cases h⟩ (by omega)
                  have HS3 := Lib.hid fun (W : World) (h : Below (w.heap.size + 3) _ W) => (show W.cell? ⟨w.heap.size, 0, none⟩ = some (.int .i64 k) ∧ W.cell? ⟨w.heap.size, 1, none⟩ = some (.int .i64 n) ∧ W.cell? ⟨w.heap.size, 2, none⟩ = some (.int .i64 ix) from ⟨(HC.out W h).1, (HC.out W h).2.1, (HC.out W h).2.2.1⟩)
                  have hne : w.heap.size ≠ w.heap.size + 2 := by omega
                  clear p0 p1 p2 p5 y3 y4 r0 r1 r2
                  go_region_held3 (fun W => W.cell? ⟨w.heap.size, 0, none⟩ = some (.int .i64 k) ∧ W.cell? ⟨w.heap.size, 1, none⟩ = some (.int .i64 n) ∧ W.cell? ⟨w.heap.size, 2, none⟩ = some (.int .i64 ix))
                    (first | with_reducible exact HS3.out _ hdr | with_reducible exact HS3.out _ hal | with_reducible exact HS3.out _ hq | with_reducible exact HS4 _ _ _ _ _ _)
                    (first
                      | (go_at_call 70; (with_reducible refine Calls.mono hCat ?_); rintro e wq ⟨⟨A9, n9, c9, rfl, h9⟩, hwq⟩; have hq := hal.trans (hwq.mono (HZ.out _ hal)); have hf := HF.out _ hq; obtain ⟨q0, q1, q2, q3, q4, q5⟩ := HR.out _ hq; have HS4 := fun c0 c1 c2 c3 c4 c5 => (show (((((((wq.setCell ⟨w.heap.size + 2, 0, none⟩ c0).setCell ⟨w.heap.size + 2, 1, none⟩ c1).setCell ⟨w.heap.size + 2, 2, none⟩ c2).setCell ⟨w.heap.size + 2, 3, none⟩ c3).setCell ⟨w.heap.size + 2, 4, none⟩ c4).setCell ⟨w.heap.size + 2, 5, none⟩ c5).cell? ⟨w.heap.size, 0, none⟩ = some (.int .i64 k)) ∧ (((((((wq.setCell ⟨w.heap.size + 2, 0, none⟩ c0).setCell ⟨w.heap.size + 2, 1, none⟩ c1).setCell ⟨w.heap.size + 2, 2, none⟩ c2).setCell ⟨w.heap.size + 2, 3, none⟩ c3).setCell ⟨w.heap.size + 2, 4, none⟩ c4).setCell ⟨w.heap.size + 2, 5, none⟩ c5).cell? ⟨w.heap.size, 1, none⟩ = some (.int .i64 n)) ∧ (((((((wq.setCell ⟨w.heap.size + 2, 0, none⟩ c0).setCell ⟨w.heap.size + 2, 1, none⟩ c1).setCell ⟨w.heap.size + 2, 2, none⟩ c2).setCell ⟨w.heap.size + 2, 3, none⟩ c3).setCell ⟨w.heap.size + 2, 4, none⟩ c4).setCell ⟨w.heap.size + 2, 5, none⟩ c5).cell? ⟨w.heap.size, 2, none⟩ = some (.int .i64 ix)) from ⟨(World.cell?_of_block (set6_heap c0 c1 c2 c3 c4 c5 hne)).trans (HS3.out _ hq).1, (World.cell?_of_block (set6_heap c0 c1 c2 c3 c4 c5 hne)).trans (HS3.out _ hq).2.1, (World.cell?_of_block (set6_heap c0 c1 c2 c3 c4 c5 hne)).trans (HS3.out _ hq).2.2⟩)))
                  go_wp2_with fail
                  refine bodyPost_ret (v := .tuple #[.agg #[.int .i64 k, .int .i64 n, .int .i64 ix, .int .u64 0, .string ⟨#[]⟩, .slice A9 n9 c9], .int .i64 0]) (by simp [results, Try.results29, go_sem, q0, q1, q2, q3, q4, q5]) rfl ?_
                  rw [hE.out, hR.out]
                  obtain ⟨g1, g2, g3, g4⟩ := h9.out
                  have hPut := Hok.out
                  rw [HP2.out] at hPut ⊢
                  refine sto_fin hPut g1 g2 g3 (g4.to (fun b hb => ⟨⟨?_, ?_⟩, set6_heap _ _ _ _ _ _ ?_⟩)) (set6_below (HB.out _ hq) (Nat.le_add_right _ 2) _ _ _ _ _ _)
                  · have h1 := hb.1; have h2 := HZ.out _ hal; omega
                  · rw [set6_size]; exact hb.2
                  · have h1 := hb.1; have h2 := HZ.out _ hal; omega
                · have hemf : (u2 == 0 && s2.size == 0) = false := by simpa using hem
                  have hIE2 := hIE
                  rw [hemf] at hIE2
                  have hnew : newE i u2 s2 = [(⟨i, u2, s2⟩ : En)] := by unfold newE; rw [if_neg hem]
                  have HP2 := HPt.out
                  rw [hnew] at HP2
                  replace HP2 := Lib.hid HP2
                  clear hem hnew hemf
                  go_wp2_with (go_at_call 69; refine Calls.mono (hIE2.out _) ?_; rintro e wa ⟨rfl, hwa⟩; have hin0 := hxd.trans (hwa.mono (HZ.out _ hxd)); obtain ⟨t0, t1, t2⟩ := three ((hwa.block wd.heap.size (by simp)).trans (heap_alloc_new wd (.cells #[.int .u64 i, .int .u64 u2, .string s2] 85))))
                  have hin := hin0.alloc (HZ.out _ hin0) (.cells #[.int .u64 i, .int .u64 u2, .string s2] 85)
                  have hdr := hin.drew
                  have hal := (hin.alloc (HZ.out _ hin) (.cells #[.slice (some ⟨b1, o1, none⟩) P c, .slice (some ⟨wa.heap.size, 0, none⟩) 1 1, .slice (some ⟨b1, o1 + P * 3 + 3, none⟩) (ml - P - 1) (c - P - 1)] 33)).drew
                  have hCat := vConcat_eq (m.take P) [(⟨i, u2, s2⟩ : En)] (m.drop (P + 1)) P 1 (ml - P - 1) (by have := HML.out; simp; omega) rfl (by have := HML.out; simp; omega) (some ⟨b1, o1, none⟩) (some ⟨wa.heap.size, 0, none⟩) (some ⟨b1, o1 + P * 3 + 3, none⟩) c 1 (c - P - 1) (wa.heap.size + 1) 3 ((wa.alloc (.cells #[.int .u64 i, .int .u64 u2, .string s2] 85)).alloc (.cells #[.slice (some ⟨b1, o1, none⟩) P c, .slice (some ⟨wa.heap.size, 0, none⟩) 1 1, .slice (some ⟨b1, o1 + P * 3 + 3, none⟩) (ml - P - 1) (c - P - 1)] 33)).drew (heap_alloc_new_at (wa.alloc (.cells #[.int .u64 i, .int .u64 u2, .string s2] 85)) (.cells #[.slice (some ⟨b1, o1, none⟩) P c, .slice (some ⟨wa.heap.size, 0, none⟩) 1 1, .slice (some ⟨b1, o1 + P * 3 + 3, none⟩) (ml - P - 1) (c - P - 1)] 33) (by simp))
                    ((HL.out _ hal).take P) (enl_one ((Below.heap_alloc (wa.alloc (.cells #[.int .u64 i, .int .u64 u2, .string s2] 85)) (.cells #[.slice (some ⟨b1, o1, none⟩) P c, .slice (some ⟨wa.heap.size, 0, none⟩) 1 1, .slice (some ⟨b1, o1 + P * 3 + 3, none⟩) (ml - P - 1) (c - P - 1)] 33) _ (by simp)).trans (heap_alloc_new wa (.cells #[.int .u64 i, .int .u64 u2, .string s2] 85))) (by show wa.heap.size < _; simp; omega)) (by have := (HL.out _ hal).drop (P + 1); rwa [show o1 + (P + 1) * 3 = o1 + P * 3 + 3 by omega] at this) ⟨by omega, fun h => by cases h⟩ ⟨Nat.le_refl _, fun h => by cases h⟩ ⟨by omega, fun h => by cases h⟩ (by omega)
                  have HS3 := Lib.hid fun (W : World) (h : Below (w.heap.size + 3) _ W) => (show W.cell? ⟨w.heap.size, 0, none⟩ = some (.int .i64 k) ∧ W.cell? ⟨w.heap.size, 1, none⟩ = some (.int .i64 n) ∧ W.cell? ⟨w.heap.size, 2, none⟩ = some (.int .i64 ix) from ⟨(HC.out W h).1, (HC.out W h).2.1, (HC.out W h).2.2.1⟩)
                  have hne : w.heap.size ≠ w.heap.size + 2 := by omega
                  clear p0 p1 p2 p5 y3 y4 r0 r1 r2 t0 t1 t2
                  go_region_held3 (fun W => W.cell? ⟨w.heap.size, 0, none⟩ = some (.int .i64 k) ∧ W.cell? ⟨w.heap.size, 1, none⟩ = some (.int .i64 n) ∧ W.cell? ⟨w.heap.size, 2, none⟩ = some (.int .i64 ix))
                    (first | with_reducible exact HS3.out _ hdr | with_reducible exact HS3.out _ hal | with_reducible exact HS3.out _ hq | with_reducible exact HS4 _ _ _ _ _ _)
                    (first
                      | (go_at_call 70; (with_reducible refine Calls.mono hCat ?_); rintro e wq ⟨⟨A9, n9, c9, rfl, h9⟩, hwq⟩; have hq := hal.trans (hwq.mono (HZ.out _ hal)); have hf := HF.out _ hq; obtain ⟨q0, q1, q2, q3, q4, q5⟩ := HR.out _ hq; have HS4 := fun c0 c1 c2 c3 c4 c5 => (show (((((((wq.setCell ⟨w.heap.size + 2, 0, none⟩ c0).setCell ⟨w.heap.size + 2, 1, none⟩ c1).setCell ⟨w.heap.size + 2, 2, none⟩ c2).setCell ⟨w.heap.size + 2, 3, none⟩ c3).setCell ⟨w.heap.size + 2, 4, none⟩ c4).setCell ⟨w.heap.size + 2, 5, none⟩ c5).cell? ⟨w.heap.size, 0, none⟩ = some (.int .i64 k)) ∧ (((((((wq.setCell ⟨w.heap.size + 2, 0, none⟩ c0).setCell ⟨w.heap.size + 2, 1, none⟩ c1).setCell ⟨w.heap.size + 2, 2, none⟩ c2).setCell ⟨w.heap.size + 2, 3, none⟩ c3).setCell ⟨w.heap.size + 2, 4, none⟩ c4).setCell ⟨w.heap.size + 2, 5, none⟩ c5).cell? ⟨w.heap.size, 1, none⟩ = some (.int .i64 n)) ∧ (((((((wq.setCell ⟨w.heap.size + 2, 0, none⟩ c0).setCell ⟨w.heap.size + 2, 1, none⟩ c1).setCell ⟨w.heap.size + 2, 2, none⟩ c2).setCell ⟨w.heap.size + 2, 3, none⟩ c3).setCell ⟨w.heap.size + 2, 4, none⟩ c4).setCell ⟨w.heap.size + 2, 5, none⟩ c5).cell? ⟨w.heap.size, 2, none⟩ = some (.int .i64 ix)) from ⟨(World.cell?_of_block (set6_heap c0 c1 c2 c3 c4 c5 hne)).trans (HS3.out _ hq).1, (World.cell?_of_block (set6_heap c0 c1 c2 c3 c4 c5 hne)).trans (HS3.out _ hq).2.1, (World.cell?_of_block (set6_heap c0 c1 c2 c3 c4 c5 hne)).trans (HS3.out _ hq).2.2⟩)))
                  go_wp2_with fail
                  refine bodyPost_ret (v := .tuple #[.agg #[.int .i64 k, .int .i64 n, .int .i64 ix, .int .u64 0, .string ⟨#[]⟩, .slice A9 n9 c9], .int .i64 0]) (by simp [results, Try.results29, go_sem, q0, q1, q2, q3, q4, q5]) rfl ?_
                  rw [hE.out, hR.out]
                  obtain ⟨g1, g2, g3, g4⟩ := h9.out
                  have hPut := Hok.out
                  rw [HP2.out] at hPut ⊢
                  refine sto_fin hPut g1 g2 g3 (g4.to (fun b hb => ⟨⟨?_, ?_⟩, set6_heap _ _ _ _ _ _ ?_⟩)) (set6_below (HB.out _ hq) (Nat.le_add_right _ 2) _ _ _ _ _ _)
                  · have h1 := hb.1; have h2 := HZ.out _ hal; omega
                  · rw [set6_size]; exact hb.2
                  · have h1 := hb.1; have h2 := HZ.out _ hal; omega

            | false =>
              by_cases hc1 : c = P
              · have hr1 : ml = P := by omega
                subst hc1
                subst hr1
                have HPt := Lib.hid (show putE i u2 s2 m = m.take ml ++ newE i u2 s2 ++ m.drop ml from by rw [HP.out]; rfl)
                clear HP
                go_enter Try.func29, Try.ntmps29
                go_wp2_with fail
                go_region_held3 (fun W => W.cell? ⟨w.heap.size, 0, none⟩ = some (.int .i64 k) ∧ W.cell? ⟨w.heap.size, 1, none⟩ = some (.int .i64 n) ∧ W.cell? ⟨w.heap.size, 2, none⟩ = some (.int .i64 ix) ∧ W.cell? ⟨w.heap.size, 3, none⟩ = some (.int .u64 u) ∧ W.cell? ⟨w.heap.size, 4, none⟩ = some (.string s) ∧ W.cell? ⟨w.heap.size, 5, none⟩ = some (.slice (some ⟨b1, o1, none⟩) ml ml) ∧ W.cell? ⟨w.heap.size + 1, 0, none⟩ = some (.int .i64 k2) ∧ W.cell? ⟨w.heap.size + 1, 1, none⟩ = some (.int .i64 n2) ∧ W.cell? ⟨w.heap.size + 1, 2, none⟩ = some (.int .i64 ix2) ∧ W.cell? ⟨w.heap.size + 1, 3, none⟩ = some (.int .u64 u2) ∧ W.cell? ⟨w.heap.size + 1, 4, none⟩ = some (.string s2) ∧ W.cell? ⟨w.heap.size + 1, 5, none⟩ = some (.slice B m2.length d))
                  (first | with_reducible exact HS.out _ hd | with_reducible exact HS.out _ hm4 | with_reducible exact HS.out _ hm5 | with_reducible exact HS.out _ hm6)
                  (first
                    | (go_at_call 13; (with_reducible refine Calls.mono (hV1.out _ hd) ?_); rintro e w4 ⟨rfl, hw4⟩; have hm4 := hd.trans (hw4.mono (HZ.out _ hd)))
                    | (go_at_call 13; (with_reducible refine Calls.mono (hV2.out _ hm4) ?_); rintro e w5 ⟨rfl, hw5⟩; have hm5 := hm4.trans (hw5.mono (HZ.out _ hm4)); have hm6 := hm5.alloc (HZ.out _ hm5) (.cells #[.int .i64 0, .int .i64 0] 31); have hO6 := HO.out _ _ (heap_alloc_new w5 (.cells #[.int .i64 0, .int .i64 0] 31)))
                    | (go_at_call 67; (with_reducible refine Calls.mono hO6 ?_); rintro e w6 ⟨rfl, rfl⟩))
                have hlast := hm6
                obtain ⟨p0, p1, p2, p3, p4, p5⟩ := HC.out _ hlast
                obtain ⟨y0, y1, y2, y3, y4, y5⟩ := HY.out _ hlast
                obtain ⟨q0, q1, q2, q3, q4, q5⟩ := HR.out _ hlast
                have hf := HF.out _ hlast
                generalize (w5.alloc (.cells #[.int .i64 0, .int .i64 0] 31)) = w6 at *
                go_wp2_with (first
                  | (go_at_call 68; refine Calls.mono (hM.out _) ?_; rintro e w7 ⟨rfl, hw7⟩; replace hlast := hlast.trans (hw7.mono (HZ.out _ hlast)); clear p0 p1 p2 p3 p4 p5 y0 y1 y2 y3 y4 y5 q0 q1 q2 q3 q4 q5 hf; obtain ⟨p0, p1, p2, p3, p4, p5⟩ := HC.out _ hlast; obtain ⟨y0, y1, y2, y3, y4, y5⟩ := HY.out _ hlast; obtain ⟨q0, q1, q2, q3, q4, q5⟩ := HR.out _ hlast; have hf := HF.out _ hlast)
                  | (go_at_call 42; refine Calls.mono (hG.out _) ?_; rintro e w8 ⟨rfl, rfl⟩)
                  | (go_at_call 64; refine Calls.mono (hFd.out _ hlast) ?_; rintro e w9 ⟨rfl, hw9⟩; replace hlast := hlast.trans (hw9.mono (HZ.out _ hlast)); clear p0 p1 p2 p3 p4 p5 y0 y1 y2 y3 y4 y5 q0 q1 q2 q3 q4 q5 hf; obtain ⟨p0, p1, p2, p3, p4, p5⟩ := HC.out _ hlast; obtain ⟨y0, y1, y2, y3, y4, y5⟩ := HY.out _ hlast; obtain ⟨q0, q1, q2, q3, q4, q5⟩ := HR.out _ hlast; have hf := HF.out _ hlast))
                clear p0 p1 p2 p3 p4 y0 y1 y2 y3 y4 y5 q0 q1 q2 q3 q4 q5 hf
                go_quiet (fail)
                have hdn := below_dnv (N := nq) hlast
                clear p5 hlast
                generalize w9.drewN nq = wd at *
                obtain ⟨p0, p1, p2, _, _, p5⟩ := HC.out _ hdn
                obtain ⟨_, _, _, y3, y4, _⟩ := HY.out _ hdn
                obtain ⟨r0, r1, r2⟩ := three (heap_alloc_new wd (.cells #[.int .u64 i, .int .u64 u2, .string s2] 85))
                have hxd := hdn.alloc (HZ.out _ hdn) (.cells #[.int .u64 i, .int .u64 u2, .string s2] 85)
                by_cases hem : (u2 == 0 && s2.size == 0) = true
                · have hIE2 := hIE
                  rw [hem] at hIE2
                  have hnew : newE i u2 s2 = ([] : List En) := by unfold newE; rw [if_pos hem]
                  have HP2 := HPt.out
                  rw [hnew] at HP2
                  replace HP2 := Lib.hid HP2
                  clear hem hnew
                  go_wp2_with (go_at_call 69; refine Calls.mono (hIE2.out _) ?_; rintro e wa ⟨rfl, hwa⟩; have hin0 := hxd.trans (hwa.mono (HZ.out _ hxd)))
                  have hin := hin0
                  have hdr := hin.drew
                  have hal := (hin.alloc (HZ.out _ hin) (.cells #[.slice (some ⟨b1, o1, none⟩) ml ml, .slice none 0 0, .slice (some ⟨b1, o1, none⟩) 0 0] 33)).drew
                  have hCat := vConcat_eq (m.take ml) ([] : List En) (m.drop ml) ml 0 0 (by have := HML.out; simp; omega) rfl (by have := HML.out; simp; omega) (some ⟨b1, o1, none⟩) none (some ⟨b1, o1, none⟩) ml 0 0 wa.heap.size 3 (wa.alloc (.cells #[.slice (some ⟨b1, o1, none⟩) ml ml, .slice none 0 0, .slice (some ⟨b1, o1, none⟩) 0 0] 33)).drew (heap_alloc_new_at wa (.cells #[.slice (some ⟨b1, o1, none⟩) ml ml, .slice none 0 0, .slice (some ⟨b1, o1, none⟩) 0 0] 33) (by simp))
                    ((HL.out _ hal).take ml) (.inl rfl) (.inl (by have := HML.out; exact List.drop_eq_nil_of_le (by omega))) ⟨by omega, fun h => by cases h⟩ ⟨Nat.le_refl _, fun _ => rfl⟩ ⟨Nat.le_refl _, fun _ => rfl⟩ (by omega)
                  have HS3 := Lib.hid fun (W : World) (h : Below (w.heap.size + 3) _ W) => (show W.cell? ⟨w.heap.size, 0, none⟩ = some (.int .i64 k) ∧ W.cell? ⟨w.heap.size, 1, none⟩ = some (.int .i64 n) ∧ W.cell? ⟨w.heap.size, 2, none⟩ = some (.int .i64 ix) from ⟨(HC.out W h).1, (HC.out W h).2.1, (HC.out W h).2.2.1⟩)
                  have hne : w.heap.size ≠ w.heap.size + 2 := by omega
                  clear p0 p1 p2 p5 y3 y4 r0 r1 r2
                  go_region_held3 (fun W => W.cell? ⟨w.heap.size, 0, none⟩ = some (.int .i64 k) ∧ W.cell? ⟨w.heap.size, 1, none⟩ = some (.int .i64 n) ∧ W.cell? ⟨w.heap.size, 2, none⟩ = some (.int .i64 ix))
                    (first | with_reducible exact HS3.out _ hdr | with_reducible exact HS3.out _ hal | with_reducible exact HS3.out _ hq | with_reducible exact HS4 _ _ _ _ _ _)
                    (first
                      | (go_at_call 70; (with_reducible refine Calls.mono hCat ?_); rintro e wq ⟨⟨A9, n9, c9, rfl, h9⟩, hwq⟩; have hq := hal.trans (hwq.mono (HZ.out _ hal)); have hf := HF.out _ hq; obtain ⟨q0, q1, q2, q3, q4, q5⟩ := HR.out _ hq; have HS4 := fun c0 c1 c2 c3 c4 c5 => (show (((((((wq.setCell ⟨w.heap.size + 2, 0, none⟩ c0).setCell ⟨w.heap.size + 2, 1, none⟩ c1).setCell ⟨w.heap.size + 2, 2, none⟩ c2).setCell ⟨w.heap.size + 2, 3, none⟩ c3).setCell ⟨w.heap.size + 2, 4, none⟩ c4).setCell ⟨w.heap.size + 2, 5, none⟩ c5).cell? ⟨w.heap.size, 0, none⟩ = some (.int .i64 k)) ∧ (((((((wq.setCell ⟨w.heap.size + 2, 0, none⟩ c0).setCell ⟨w.heap.size + 2, 1, none⟩ c1).setCell ⟨w.heap.size + 2, 2, none⟩ c2).setCell ⟨w.heap.size + 2, 3, none⟩ c3).setCell ⟨w.heap.size + 2, 4, none⟩ c4).setCell ⟨w.heap.size + 2, 5, none⟩ c5).cell? ⟨w.heap.size, 1, none⟩ = some (.int .i64 n)) ∧ (((((((wq.setCell ⟨w.heap.size + 2, 0, none⟩ c0).setCell ⟨w.heap.size + 2, 1, none⟩ c1).setCell ⟨w.heap.size + 2, 2, none⟩ c2).setCell ⟨w.heap.size + 2, 3, none⟩ c3).setCell ⟨w.heap.size + 2, 4, none⟩ c4).setCell ⟨w.heap.size + 2, 5, none⟩ c5).cell? ⟨w.heap.size, 2, none⟩ = some (.int .i64 ix)) from ⟨(World.cell?_of_block (set6_heap c0 c1 c2 c3 c4 c5 hne)).trans (HS3.out _ hq).1, (World.cell?_of_block (set6_heap c0 c1 c2 c3 c4 c5 hne)).trans (HS3.out _ hq).2.1, (World.cell?_of_block (set6_heap c0 c1 c2 c3 c4 c5 hne)).trans (HS3.out _ hq).2.2⟩)))
                  go_wp2_with fail
                  refine bodyPost_ret (v := .tuple #[.agg #[.int .i64 k, .int .i64 n, .int .i64 ix, .int .u64 0, .string ⟨#[]⟩, .slice A9 n9 c9], .int .i64 0]) (by simp [results, Try.results29, go_sem, q0, q1, q2, q3, q4, q5]) rfl ?_
                  rw [hE.out, hR.out]
                  obtain ⟨g1, g2, g3, g4⟩ := h9.out
                  have hPut := Hok.out
                  rw [HP2.out] at hPut ⊢
                  refine sto_fin hPut g1 g2 g3 (g4.to (fun b hb => ⟨⟨?_, ?_⟩, set6_heap _ _ _ _ _ _ ?_⟩)) (set6_below (HB.out _ hq) (Nat.le_add_right _ 2) _ _ _ _ _ _)
                  · have h1 := hb.1; have h2 := HZ.out _ hal; omega
                  · rw [set6_size]; exact hb.2
                  · have h1 := hb.1; have h2 := HZ.out _ hal; omega
                · have hemf : (u2 == 0 && s2.size == 0) = false := by simpa using hem
                  have hIE2 := hIE
                  rw [hemf] at hIE2
                  have hnew : newE i u2 s2 = [(⟨i, u2, s2⟩ : En)] := by unfold newE; rw [if_neg hem]
                  have HP2 := HPt.out
                  rw [hnew] at HP2
                  replace HP2 := Lib.hid HP2
                  clear hem hnew hemf
                  go_wp2_with (go_at_call 69; refine Calls.mono (hIE2.out _) ?_; rintro e wa ⟨rfl, hwa⟩; have hin0 := hxd.trans (hwa.mono (HZ.out _ hxd)); obtain ⟨t0, t1, t2⟩ := three ((hwa.block wd.heap.size (by simp)).trans (heap_alloc_new wd (.cells #[.int .u64 i, .int .u64 u2, .string s2] 85))))
                  have hin := hin0.alloc (HZ.out _ hin0) (.cells #[.int .u64 i, .int .u64 u2, .string s2] 85)
                  have hdr := hin.drew
                  have hal := (hin.alloc (HZ.out _ hin) (.cells #[.slice (some ⟨b1, o1, none⟩) ml ml, .slice (some ⟨wa.heap.size, 0, none⟩) 1 1, .slice (some ⟨b1, o1, none⟩) 0 0] 33)).drew
                  have hCat := vConcat_eq (m.take ml) [(⟨i, u2, s2⟩ : En)] (m.drop ml) ml 1 0 (by have := HML.out; simp; omega) rfl (by have := HML.out; simp; omega) (some ⟨b1, o1, none⟩) (some ⟨wa.heap.size, 0, none⟩) (some ⟨b1, o1, none⟩) ml 1 0 (wa.heap.size + 1) 3 ((wa.alloc (.cells #[.int .u64 i, .int .u64 u2, .string s2] 85)).alloc (.cells #[.slice (some ⟨b1, o1, none⟩) ml ml, .slice (some ⟨wa.heap.size, 0, none⟩) 1 1, .slice (some ⟨b1, o1, none⟩) 0 0] 33)).drew (heap_alloc_new_at (wa.alloc (.cells #[.int .u64 i, .int .u64 u2, .string s2] 85)) (.cells #[.slice (some ⟨b1, o1, none⟩) ml ml, .slice (some ⟨wa.heap.size, 0, none⟩) 1 1, .slice (some ⟨b1, o1, none⟩) 0 0] 33) (by simp))
                    ((HL.out _ hal).take ml) (enl_one ((Below.heap_alloc (wa.alloc (.cells #[.int .u64 i, .int .u64 u2, .string s2] 85)) (.cells #[.slice (some ⟨b1, o1, none⟩) ml ml, .slice (some ⟨wa.heap.size, 0, none⟩) 1 1, .slice (some ⟨b1, o1, none⟩) 0 0] 33) _ (by simp)).trans (heap_alloc_new wa (.cells #[.int .u64 i, .int .u64 u2, .string s2] 85))) (by show wa.heap.size < _; simp; omega)) (.inl (by have := HML.out; exact List.drop_eq_nil_of_le (by omega))) ⟨by omega, fun h => by cases h⟩ ⟨Nat.le_refl _, fun h => by cases h⟩ ⟨Nat.le_refl _, fun _ => rfl⟩ (by omega)
                  have HS3 := Lib.hid fun (W : World) (h : Below (w.heap.size + 3) _ W) => (show W.cell? ⟨w.heap.size, 0, none⟩ = some (.int .i64 k) ∧ W.cell? ⟨w.heap.size, 1, none⟩ = some (.int .i64 n) ∧ W.cell? ⟨w.heap.size, 2, none⟩ = some (.int .i64 ix) from ⟨(HC.out W h).1, (HC.out W h).2.1, (HC.out W h).2.2.1⟩)
                  have hne : w.heap.size ≠ w.heap.size + 2 := by omega
                  clear p0 p1 p2 p5 y3 y4 r0 r1 r2 t0 t1 t2
                  go_region_held3 (fun W => W.cell? ⟨w.heap.size, 0, none⟩ = some (.int .i64 k) ∧ W.cell? ⟨w.heap.size, 1, none⟩ = some (.int .i64 n) ∧ W.cell? ⟨w.heap.size, 2, none⟩ = some (.int .i64 ix))
                    (first | with_reducible exact HS3.out _ hdr | with_reducible exact HS3.out _ hal | with_reducible exact HS3.out _ hq | with_reducible exact HS4 _ _ _ _ _ _)
                    (first
                      | (go_at_call 70; (with_reducible refine Calls.mono hCat ?_); rintro e wq ⟨⟨A9, n9, c9, rfl, h9⟩, hwq⟩; have hq := hal.trans (hwq.mono (HZ.out _ hal)); have hf := HF.out _ hq; obtain ⟨q0, q1, q2, q3, q4, q5⟩ := HR.out _ hq; have HS4 := fun c0 c1 c2 c3 c4 c5 => (show (((((((wq.setCell ⟨w.heap.size + 2, 0, none⟩ c0).setCell ⟨w.heap.size + 2, 1, none⟩ c1).setCell ⟨w.heap.size + 2, 2, none⟩ c2).setCell ⟨w.heap.size + 2, 3, none⟩ c3).setCell ⟨w.heap.size + 2, 4, none⟩ c4).setCell ⟨w.heap.size + 2, 5, none⟩ c5).cell? ⟨w.heap.size, 0, none⟩ = some (.int .i64 k)) ∧ (((((((wq.setCell ⟨w.heap.size + 2, 0, none⟩ c0).setCell ⟨w.heap.size + 2, 1, none⟩ c1).setCell ⟨w.heap.size + 2, 2, none⟩ c2).setCell ⟨w.heap.size + 2, 3, none⟩ c3).setCell ⟨w.heap.size + 2, 4, none⟩ c4).setCell ⟨w.heap.size + 2, 5, none⟩ c5).cell? ⟨w.heap.size, 1, none⟩ = some (.int .i64 n)) ∧ (((((((wq.setCell ⟨w.heap.size + 2, 0, none⟩ c0).setCell ⟨w.heap.size + 2, 1, none⟩ c1).setCell ⟨w.heap.size + 2, 2, none⟩ c2).setCell ⟨w.heap.size + 2, 3, none⟩ c3).setCell ⟨w.heap.size + 2, 4, none⟩ c4).setCell ⟨w.heap.size + 2, 5, none⟩ c5).cell? ⟨w.heap.size, 2, none⟩ = some (.int .i64 ix)) from ⟨(World.cell?_of_block (set6_heap c0 c1 c2 c3 c4 c5 hne)).trans (HS3.out _ hq).1, (World.cell?_of_block (set6_heap c0 c1 c2 c3 c4 c5 hne)).trans (HS3.out _ hq).2.1, (World.cell?_of_block (set6_heap c0 c1 c2 c3 c4 c5 hne)).trans (HS3.out _ hq).2.2⟩)))
                  go_wp2_with fail
                  refine bodyPost_ret (v := .tuple #[.agg #[.int .i64 k, .int .i64 n, .int .i64 ix, .int .u64 0, .string ⟨#[]⟩, .slice A9 n9 c9], .int .i64 0]) (by simp [results, Try.results29, go_sem, q0, q1, q2, q3, q4, q5]) rfl ?_
                  rw [hE.out, hR.out]
                  obtain ⟨g1, g2, g3, g4⟩ := h9.out
                  have hPut := Hok.out
                  rw [HP2.out] at hPut ⊢
                  refine sto_fin hPut g1 g2 g3 (g4.to (fun b hb => ⟨⟨?_, ?_⟩, set6_heap _ _ _ _ _ _ ?_⟩)) (set6_below (HB.out _ hq) (Nat.le_add_right _ 2) _ _ _ _ _ _)
                  · have h1 := hb.1; have h2 := HZ.out _ hal; omega
                  · rw [set6_size]; exact hb.2
                  · have h1 := hb.1; have h2 := HZ.out _ hal; omega

              · have hc2 : ¬ (c : Int) = (P : Int) := by omega
                have HPt := Lib.hid (show putE i u2 s2 m = m.take P ++ newE i u2 s2 ++ m.drop P from by rw [HP.out]; rfl)
                clear HP
                go_enter Try.func29, Try.ntmps29
                go_wp2_with fail
                go_region_held3 (fun W => W.cell? ⟨w.heap.size, 0, none⟩ = some (.int .i64 k) ∧ W.cell? ⟨w.heap.size, 1, none⟩ = some (.int .i64 n) ∧ W.cell? ⟨w.heap.size, 2, none⟩ = some (.int .i64 ix) ∧ W.cell? ⟨w.heap.size, 3, none⟩ = some (.int .u64 u) ∧ W.cell? ⟨w.heap.size, 4, none⟩ = some (.string s) ∧ W.cell? ⟨w.heap.size, 5, none⟩ = some (.slice (some ⟨b1, o1, none⟩) ml c) ∧ W.cell? ⟨w.heap.size + 1, 0, none⟩ = some (.int .i64 k2) ∧ W.cell? ⟨w.heap.size + 1, 1, none⟩ = some (.int .i64 n2) ∧ W.cell? ⟨w.heap.size + 1, 2, none⟩ = some (.int .i64 ix2) ∧ W.cell? ⟨w.heap.size + 1, 3, none⟩ = some (.int .u64 u2) ∧ W.cell? ⟨w.heap.size + 1, 4, none⟩ = some (.string s2) ∧ W.cell? ⟨w.heap.size + 1, 5, none⟩ = some (.slice B m2.length d))
                  (first | with_reducible exact HS.out _ hd | with_reducible exact HS.out _ hm4 | with_reducible exact HS.out _ hm5 | with_reducible exact HS.out _ hm6)
                  (first
                    | (go_at_call 13; (with_reducible refine Calls.mono (hV1.out _ hd) ?_); rintro e w4 ⟨rfl, hw4⟩; have hm4 := hd.trans (hw4.mono (HZ.out _ hd)))
                    | (go_at_call 13; (with_reducible refine Calls.mono (hV2.out _ hm4) ?_); rintro e w5 ⟨rfl, hw5⟩; have hm5 := hm4.trans (hw5.mono (HZ.out _ hm4)); have hm6 := hm5.alloc (HZ.out _ hm5) (.cells #[.int .i64 0, .int .i64 0] 31); have hO6 := HO.out _ _ (heap_alloc_new w5 (.cells #[.int .i64 0, .int .i64 0] 31)))
                    | (go_at_call 67; (with_reducible refine Calls.mono hO6 ?_); rintro e w6 ⟨rfl, rfl⟩))
                have hlast := hm6
                obtain ⟨p0, p1, p2, p3, p4, p5⟩ := HC.out _ hlast
                obtain ⟨y0, y1, y2, y3, y4, y5⟩ := HY.out _ hlast
                obtain ⟨q0, q1, q2, q3, q4, q5⟩ := HR.out _ hlast
                have hf := HF.out _ hlast
                generalize (w5.alloc (.cells #[.int .i64 0, .int .i64 0] 31)) = w6 at *
                go_wp2_with (first
                  | (go_at_call 68; refine Calls.mono (hM.out _) ?_; rintro e w7 ⟨rfl, hw7⟩; replace hlast := hlast.trans (hw7.mono (HZ.out _ hlast)); clear p0 p1 p2 p3 p4 p5 y0 y1 y2 y3 y4 y5 q0 q1 q2 q3 q4 q5 hf; obtain ⟨p0, p1, p2, p3, p4, p5⟩ := HC.out _ hlast; obtain ⟨y0, y1, y2, y3, y4, y5⟩ := HY.out _ hlast; obtain ⟨q0, q1, q2, q3, q4, q5⟩ := HR.out _ hlast; have hf := HF.out _ hlast)
                  | (go_at_call 42; refine Calls.mono (hG.out _) ?_; rintro e w8 ⟨rfl, rfl⟩)
                  | (go_at_call 64; refine Calls.mono (hFd.out _ hlast) ?_; rintro e w9 ⟨rfl, hw9⟩; replace hlast := hlast.trans (hw9.mono (HZ.out _ hlast)); clear p0 p1 p2 p3 p4 p5 y0 y1 y2 y3 y4 y5 q0 q1 q2 q3 q4 q5 hf; obtain ⟨p0, p1, p2, p3, p4, p5⟩ := HC.out _ hlast; obtain ⟨y0, y1, y2, y3, y4, y5⟩ := HY.out _ hlast; obtain ⟨q0, q1, q2, q3, q4, q5⟩ := HR.out _ hlast; have hf := HF.out _ hlast))
                clear p0 p1 p2 p3 p4 y0 y1 y2 y3 y4 y5 q0 q1 q2 q3 q4 q5 hf
                go_quiet (fail)
                have hdn := below_dnv (N := nq) hlast
                clear p5 hlast
                generalize w9.drewN nq = wd at *
                obtain ⟨p0, p1, p2, _, _, p5⟩ := HC.out _ hdn
                obtain ⟨_, _, _, y3, y4, _⟩ := HY.out _ hdn
                obtain ⟨r0, r1, r2⟩ := three (heap_alloc_new wd (.cells #[.int .u64 i, .int .u64 u2, .string s2] 85))
                have hxd := hdn.alloc (HZ.out _ hdn) (.cells #[.int .u64 i, .int .u64 u2, .string s2] 85)
                by_cases hem : (u2 == 0 && s2.size == 0) = true
                · have hIE2 := hIE
                  rw [hem] at hIE2
                  have hnew : newE i u2 s2 = ([] : List En) := by unfold newE; rw [if_pos hem]
                  have HP2 := HPt.out
                  rw [hnew] at HP2
                  replace HP2 := Lib.hid HP2
                  clear hem hnew
                  go_wp2_with (go_at_call 69; refine Calls.mono (hIE2.out _) ?_; rintro e wa ⟨rfl, hwa⟩; have hin0 := hxd.trans (hwa.mono (HZ.out _ hxd)))
                  have hin := hin0
                  have hdr := hin.drew
                  have hal := (hin.alloc (HZ.out _ hin) (.cells #[.slice (some ⟨b1, o1, none⟩) P c, .slice none 0 0, .slice (some ⟨b1, o1 + P * 3, none⟩) (ml - P) (c - P)] 33)).drew
                  have hCat := vConcat_eq (m.take P) ([] : List En) (m.drop P) P 0 (ml - P) (by have := HML.out; simp; omega) rfl (by rw [List.length_drop]; have := HML.out; omega) (some ⟨b1, o1, none⟩) none (some ⟨b1, o1 + P * 3, none⟩) c 0 (c - P) wa.heap.size 3 (wa.alloc (.cells #[.slice (some ⟨b1, o1, none⟩) P c, .slice none 0 0, .slice (some ⟨b1, o1 + P * 3, none⟩) (ml - P) (c - P)] 33)).drew (heap_alloc_new_at wa (.cells #[.slice (some ⟨b1, o1, none⟩) P c, .slice none 0 0, .slice (some ⟨b1, o1 + P * 3, none⟩) (ml - P) (c - P)] 33) (by simp))
                    ((HL.out _ hal).take P) (.inl rfl) ((HL.out _ hal).drop P) ⟨by omega, fun h => by cases h⟩ ⟨Nat.le_refl _, fun _ => rfl⟩ ⟨by omega, fun h => by cases h⟩ (by omega)
                  have HS3 := Lib.hid fun (W : World) (h : Below (w.heap.size + 3) _ W) => (show W.cell? ⟨w.heap.size, 0, none⟩ = some (.int .i64 k) ∧ W.cell? ⟨w.heap.size, 1, none⟩ = some (.int .i64 n) ∧ W.cell? ⟨w.heap.size, 2, none⟩ = some (.int .i64 ix) from ⟨(HC.out W h).1, (HC.out W h).2.1, (HC.out W h).2.2.1⟩)
                  have hne : w.heap.size ≠ w.heap.size + 2 := by omega
                  clear p0 p1 p2 p5 y3 y4 r0 r1 r2
                  go_region_held3 (fun W => W.cell? ⟨w.heap.size, 0, none⟩ = some (.int .i64 k) ∧ W.cell? ⟨w.heap.size, 1, none⟩ = some (.int .i64 n) ∧ W.cell? ⟨w.heap.size, 2, none⟩ = some (.int .i64 ix))
                    (first | with_reducible exact HS3.out _ hdr | with_reducible exact HS3.out _ hal | with_reducible exact HS3.out _ hq | with_reducible exact HS4 _ _ _ _ _ _)
                    (first
                      | (go_at_call 70; (with_reducible refine Calls.mono hCat ?_); rintro e wq ⟨⟨A9, n9, c9, rfl, h9⟩, hwq⟩; have hq := hal.trans (hwq.mono (HZ.out _ hal)); have hf := HF.out _ hq; obtain ⟨q0, q1, q2, q3, q4, q5⟩ := HR.out _ hq; have HS4 := fun c0 c1 c2 c3 c4 c5 => (show (((((((wq.setCell ⟨w.heap.size + 2, 0, none⟩ c0).setCell ⟨w.heap.size + 2, 1, none⟩ c1).setCell ⟨w.heap.size + 2, 2, none⟩ c2).setCell ⟨w.heap.size + 2, 3, none⟩ c3).setCell ⟨w.heap.size + 2, 4, none⟩ c4).setCell ⟨w.heap.size + 2, 5, none⟩ c5).cell? ⟨w.heap.size, 0, none⟩ = some (.int .i64 k)) ∧ (((((((wq.setCell ⟨w.heap.size + 2, 0, none⟩ c0).setCell ⟨w.heap.size + 2, 1, none⟩ c1).setCell ⟨w.heap.size + 2, 2, none⟩ c2).setCell ⟨w.heap.size + 2, 3, none⟩ c3).setCell ⟨w.heap.size + 2, 4, none⟩ c4).setCell ⟨w.heap.size + 2, 5, none⟩ c5).cell? ⟨w.heap.size, 1, none⟩ = some (.int .i64 n)) ∧ (((((((wq.setCell ⟨w.heap.size + 2, 0, none⟩ c0).setCell ⟨w.heap.size + 2, 1, none⟩ c1).setCell ⟨w.heap.size + 2, 2, none⟩ c2).setCell ⟨w.heap.size + 2, 3, none⟩ c3).setCell ⟨w.heap.size + 2, 4, none⟩ c4).setCell ⟨w.heap.size + 2, 5, none⟩ c5).cell? ⟨w.heap.size, 2, none⟩ = some (.int .i64 ix)) from ⟨(World.cell?_of_block (set6_heap c0 c1 c2 c3 c4 c5 hne)).trans (HS3.out _ hq).1, (World.cell?_of_block (set6_heap c0 c1 c2 c3 c4 c5 hne)).trans (HS3.out _ hq).2.1, (World.cell?_of_block (set6_heap c0 c1 c2 c3 c4 c5 hne)).trans (HS3.out _ hq).2.2⟩)))
                  go_wp2_with fail
                  refine bodyPost_ret (v := .tuple #[.agg #[.int .i64 k, .int .i64 n, .int .i64 ix, .int .u64 0, .string ⟨#[]⟩, .slice A9 n9 c9], .int .i64 0]) (by simp [results, Try.results29, go_sem, q0, q1, q2, q3, q4, q5]) rfl ?_
                  rw [hE.out, hR.out]
                  obtain ⟨g1, g2, g3, g4⟩ := h9.out
                  have hPut := Hok.out
                  rw [HP2.out] at hPut ⊢
                  refine sto_fin hPut g1 g2 g3 (g4.to (fun b hb => ⟨⟨?_, ?_⟩, set6_heap _ _ _ _ _ _ ?_⟩)) (set6_below (HB.out _ hq) (Nat.le_add_right _ 2) _ _ _ _ _ _)
                  · have h1 := hb.1; have h2 := HZ.out _ hal; omega
                  · rw [set6_size]; exact hb.2
                  · have h1 := hb.1; have h2 := HZ.out _ hal; omega
                · have hemf : (u2 == 0 && s2.size == 0) = false := by simpa using hem
                  have hIE2 := hIE
                  rw [hemf] at hIE2
                  have hnew : newE i u2 s2 = [(⟨i, u2, s2⟩ : En)] := by unfold newE; rw [if_neg hem]
                  have HP2 := HPt.out
                  rw [hnew] at HP2
                  replace HP2 := Lib.hid HP2
                  clear hem hnew hemf
                  go_wp2_with (go_at_call 69; refine Calls.mono (hIE2.out _) ?_; rintro e wa ⟨rfl, hwa⟩; have hin0 := hxd.trans (hwa.mono (HZ.out _ hxd)); obtain ⟨t0, t1, t2⟩ := three ((hwa.block wd.heap.size (by simp)).trans (heap_alloc_new wd (.cells #[.int .u64 i, .int .u64 u2, .string s2] 85))))
                  have hin := hin0.alloc (HZ.out _ hin0) (.cells #[.int .u64 i, .int .u64 u2, .string s2] 85)
                  have hdr := hin.drew
                  have hal := (hin.alloc (HZ.out _ hin) (.cells #[.slice (some ⟨b1, o1, none⟩) P c, .slice (some ⟨wa.heap.size, 0, none⟩) 1 1, .slice (some ⟨b1, o1 + P * 3, none⟩) (ml - P) (c - P)] 33)).drew
                  have hCat := vConcat_eq (m.take P) [(⟨i, u2, s2⟩ : En)] (m.drop P) P 1 (ml - P) (by have := HML.out; simp; omega) rfl (by rw [List.length_drop]; have := HML.out; omega) (some ⟨b1, o1, none⟩) (some ⟨wa.heap.size, 0, none⟩) (some ⟨b1, o1 + P * 3, none⟩) c 1 (c - P) (wa.heap.size + 1) 3 ((wa.alloc (.cells #[.int .u64 i, .int .u64 u2, .string s2] 85)).alloc (.cells #[.slice (some ⟨b1, o1, none⟩) P c, .slice (some ⟨wa.heap.size, 0, none⟩) 1 1, .slice (some ⟨b1, o1 + P * 3, none⟩) (ml - P) (c - P)] 33)).drew (heap_alloc_new_at (wa.alloc (.cells #[.int .u64 i, .int .u64 u2, .string s2] 85)) (.cells #[.slice (some ⟨b1, o1, none⟩) P c, .slice (some ⟨wa.heap.size, 0, none⟩) 1 1, .slice (some ⟨b1, o1 + P * 3, none⟩) (ml - P) (c - P)] 33) (by simp))
                    ((HL.out _ hal).take P) (enl_one ((Below.heap_alloc (wa.alloc (.cells #[.int .u64 i, .int .u64 u2, .string s2] 85)) (.cells #[.slice (some ⟨b1, o1, none⟩) P c, .slice (some ⟨wa.heap.size, 0, none⟩) 1 1, .slice (some ⟨b1, o1 + P * 3, none⟩) (ml - P) (c - P)] 33) _ (by simp)).trans (heap_alloc_new wa (.cells #[.int .u64 i, .int .u64 u2, .string s2] 85))) (by show wa.heap.size < _; simp; omega)) ((HL.out _ hal).drop P) ⟨by omega, fun h => by cases h⟩ ⟨Nat.le_refl _, fun h => by cases h⟩ ⟨by omega, fun h => by cases h⟩ (by omega)
                  have HS3 := Lib.hid fun (W : World) (h : Below (w.heap.size + 3) _ W) => (show W.cell? ⟨w.heap.size, 0, none⟩ = some (.int .i64 k) ∧ W.cell? ⟨w.heap.size, 1, none⟩ = some (.int .i64 n) ∧ W.cell? ⟨w.heap.size, 2, none⟩ = some (.int .i64 ix) from ⟨(HC.out W h).1, (HC.out W h).2.1, (HC.out W h).2.2.1⟩)
                  have hne : w.heap.size ≠ w.heap.size + 2 := by omega
                  clear p0 p1 p2 p5 y3 y4 r0 r1 r2 t0 t1 t2
                  go_region_held3 (fun W => W.cell? ⟨w.heap.size, 0, none⟩ = some (.int .i64 k) ∧ W.cell? ⟨w.heap.size, 1, none⟩ = some (.int .i64 n) ∧ W.cell? ⟨w.heap.size, 2, none⟩ = some (.int .i64 ix))
                    (first | with_reducible exact HS3.out _ hdr | with_reducible exact HS3.out _ hal | with_reducible exact HS3.out _ hq | with_reducible exact HS4 _ _ _ _ _ _)
                    (first
                      | (go_at_call 70; (with_reducible refine Calls.mono hCat ?_); rintro e wq ⟨⟨A9, n9, c9, rfl, h9⟩, hwq⟩; have hq := hal.trans (hwq.mono (HZ.out _ hal)); have hf := HF.out _ hq; obtain ⟨q0, q1, q2, q3, q4, q5⟩ := HR.out _ hq; have HS4 := fun c0 c1 c2 c3 c4 c5 => (show (((((((wq.setCell ⟨w.heap.size + 2, 0, none⟩ c0).setCell ⟨w.heap.size + 2, 1, none⟩ c1).setCell ⟨w.heap.size + 2, 2, none⟩ c2).setCell ⟨w.heap.size + 2, 3, none⟩ c3).setCell ⟨w.heap.size + 2, 4, none⟩ c4).setCell ⟨w.heap.size + 2, 5, none⟩ c5).cell? ⟨w.heap.size, 0, none⟩ = some (.int .i64 k)) ∧ (((((((wq.setCell ⟨w.heap.size + 2, 0, none⟩ c0).setCell ⟨w.heap.size + 2, 1, none⟩ c1).setCell ⟨w.heap.size + 2, 2, none⟩ c2).setCell ⟨w.heap.size + 2, 3, none⟩ c3).setCell ⟨w.heap.size + 2, 4, none⟩ c4).setCell ⟨w.heap.size + 2, 5, none⟩ c5).cell? ⟨w.heap.size, 1, none⟩ = some (.int .i64 n)) ∧ (((((((wq.setCell ⟨w.heap.size + 2, 0, none⟩ c0).setCell ⟨w.heap.size + 2, 1, none⟩ c1).setCell ⟨w.heap.size + 2, 2, none⟩ c2).setCell ⟨w.heap.size + 2, 3, none⟩ c3).setCell ⟨w.heap.size + 2, 4, none⟩ c4).setCell ⟨w.heap.size + 2, 5, none⟩ c5).cell? ⟨w.heap.size, 2, none⟩ = some (.int .i64 ix)) from ⟨(World.cell?_of_block (set6_heap c0 c1 c2 c3 c4 c5 hne)).trans (HS3.out _ hq).1, (World.cell?_of_block (set6_heap c0 c1 c2 c3 c4 c5 hne)).trans (HS3.out _ hq).2.1, (World.cell?_of_block (set6_heap c0 c1 c2 c3 c4 c5 hne)).trans (HS3.out _ hq).2.2⟩)))
                  go_wp2_with fail
                  refine bodyPost_ret (v := .tuple #[.agg #[.int .i64 k, .int .i64 n, .int .i64 ix, .int .u64 0, .string ⟨#[]⟩, .slice A9 n9 c9], .int .i64 0]) (by simp [results, Try.results29, go_sem, q0, q1, q2, q3, q4, q5]) rfl ?_
                  rw [hE.out, hR.out]
                  obtain ⟨g1, g2, g3, g4⟩ := h9.out
                  have hPut := Hok.out
                  rw [HP2.out] at hPut ⊢
                  refine sto_fin hPut g1 g2 g3 (g4.to (fun b hb => ⟨⟨?_, ?_⟩, set6_heap _ _ _ _ _ _ ?_⟩)) (set6_below (HB.out _ hq) (Nat.le_add_right _ 2) _ _ _ _ _ _)
                  · have h1 := hb.1; have h2 := HZ.out _ hal; omega
                  · rw [set6_size]; exact hb.2
                  · have h1 := hb.1; have h2 := HZ.out _ hal; omega

      · have hmf : mayE k2 n2 k n = false := by simpa using hmy
        rw [hmf] at hM
        have hE := Lib.hid (show RE = 9 from by rw [hRE]; unfold stoE; rw [← hE1, ← hE2]; simp [hz1, hz2, hmf])
        have hR := Lib.hid (show RV = nilV from by rw [hRV]; unfold stoV; rw [← hRE, hE.out]; rfl)
        subst hz1 hz2
        clear hRE hRV hmy hmf hE1 hE2 hok hok2
        go_enter Try.func29, Try.ntmps29
        go_wp2_with fail
        go_region_held3 (fun W => W.cell? ⟨w.heap.size, 0, none⟩ = some (.int .i64 k) ∧ W.cell? ⟨w.heap.size, 1, none⟩ = some (.int .i64 n) ∧ W.cell? ⟨w.heap.size, 2, none⟩ = some (.int .i64 ix) ∧ W.cell? ⟨w.heap.size, 3, none⟩ = some (.int .u64 u) ∧ W.cell? ⟨w.heap.size, 4, none⟩ = some (.string s) ∧ W.cell? ⟨w.heap.size, 5, none⟩ = some (.slice A ml c) ∧ W.cell? ⟨w.heap.size + 1, 0, none⟩ = some (.int .i64 k2) ∧ W.cell? ⟨w.heap.size + 1, 1, none⟩ = some (.int .i64 n2) ∧ W.cell? ⟨w.heap.size + 1, 2, none⟩ = some (.int .i64 ix2) ∧ W.cell? ⟨w.heap.size + 1, 3, none⟩ = some (.int .u64 u2) ∧ W.cell? ⟨w.heap.size + 1, 4, none⟩ = some (.string s2) ∧ W.cell? ⟨w.heap.size + 1, 5, none⟩ = some (.slice B m2.length d))
          (first | with_reducible exact HS.out _ hd | with_reducible exact HS.out _ hm4 | with_reducible exact HS.out _ hm5 | with_reducible exact HS.out _ hm6)
          (first
            | (go_at_call 13; (with_reducible refine Calls.mono (hV1.out _ hd) ?_); rintro e w4 ⟨rfl, hw4⟩; have hm4 := hd.trans (hw4.mono (HZ.out _ hd)))
            | (go_at_call 13; (with_reducible refine Calls.mono (hV2.out _ hm4) ?_); rintro e w5 ⟨rfl, hw5⟩; have hm5 := hm4.trans (hw5.mono (HZ.out _ hm4)); have hm6 := hm5.alloc (HZ.out _ hm5) (.cells #[.int .i64 0, .int .i64 0] 31); have hO6 := HO.out _ _ (heap_alloc_new w5 (.cells #[.int .i64 0, .int .i64 0] 31)))
            | (go_at_call 67; (with_reducible refine Calls.mono hO6 ?_); rintro e w6 ⟨rfl, rfl⟩))
        have hlast := hm6
        obtain ⟨p0, p1, p2, p3, p4, p5⟩ := HC.out _ hlast
        obtain ⟨y0, y1, y2, y3, y4, y5⟩ := HY.out _ hlast
        obtain ⟨q0, q1, q2, q3, q4, q5⟩ := HR.out _ hlast
        have hf := HF.out _ hlast
        generalize (w5.alloc (.cells #[.int .i64 0, .int .i64 0] 31)) = w6 at *
        go_wp2_with (first
          | (go_at_call 68; refine Calls.mono (hM.out _) ?_; rintro e w7 ⟨rfl, hw7⟩; replace hlast := hlast.trans (hw7.mono (HZ.out _ hlast)); clear p0 p1 p2 p3 p4 p5 y0 y1 y2 y3 y4 y5 q0 q1 q2 q3 q4 q5 hf; obtain ⟨p0, p1, p2, p3, p4, p5⟩ := HC.out _ hlast; obtain ⟨y0, y1, y2, y3, y4, y5⟩ := HY.out _ hlast; obtain ⟨q0, q1, q2, q3, q4, q5⟩ := HR.out _ hlast; have hf := HF.out _ hlast))
        refine bodyPost_ret (v := .tuple #[.agg #[.int .i64 0, .int .i64 0, .int .i64 0, .int .u64 0, .string ⟨#[]⟩, .slice none 0 0], .int .i64 9]) (by simp [results, Try.results29, go_sem, q0, q1, q2, q3, q4, q5]) rfl ?_
        rw [hE.out, hR.out]
        exact nilV_gives (set6_below (HB.out _ hlast) (Nat.le_add_right _ 2) _ _ _ _ _ _)

    · have hEOz : EO = E2 := by rw [hEO, if_neg (by simpa using hz1)]
      have hE := Lib.hid (show RE = E2 from by rw [hRE]; unfold stoE; rw [← hE1, ← hE2]; simp [hz1, hz2])
      have hR := Lib.hid (show RV = nilV from by rw [hRV]; unfold stoV; rw [← hRE, hE.out, if_neg hz2])
      have hzf : (E2 == 0) = false := by simpa using hz2
      clear hEO
      subst hEOz
      subst hz1
      clear hRE hRV hE1 hE2 hz2 hok hok2
      go_enter Try.func29, Try.ntmps29
      go_wp2_with fail
      go_region_held3 (fun W => W.cell? ⟨w.heap.size, 0, none⟩ = some (.int .i64 k) ∧ W.cell? ⟨w.heap.size, 1, none⟩ = some (.int .i64 n) ∧ W.cell? ⟨w.heap.size, 2, none⟩ = some (.int .i64 ix) ∧ W.cell? ⟨w.heap.size, 3, none⟩ = some (.int .u64 u) ∧ W.cell? ⟨w.heap.size, 4, none⟩ = some (.string s) ∧ W.cell? ⟨w.heap.size, 5, none⟩ = some (.slice A ml c) ∧ W.cell? ⟨w.heap.size + 1, 0, none⟩ = some (.int .i64 k2) ∧ W.cell? ⟨w.heap.size + 1, 1, none⟩ = some (.int .i64 n2) ∧ W.cell? ⟨w.heap.size + 1, 2, none⟩ = some (.int .i64 ix2) ∧ W.cell? ⟨w.heap.size + 1, 3, none⟩ = some (.int .u64 u2) ∧ W.cell? ⟨w.heap.size + 1, 4, none⟩ = some (.string s2) ∧ W.cell? ⟨w.heap.size + 1, 5, none⟩ = some (.slice B m2.length d))
        (first | with_reducible exact HS.out _ hd | with_reducible exact HS.out _ hm4 | with_reducible exact HS.out _ hm5 | with_reducible exact HS.out _ hm6)
        (first
          | (go_at_call 13; (with_reducible refine Calls.mono (hV1.out _ hd) ?_); rintro e w4 ⟨rfl, hw4⟩; have hm4 := hd.trans (hw4.mono (HZ.out _ hd)))
          | (go_at_call 13; (with_reducible refine Calls.mono (hV2.out _ hm4) ?_); rintro e w5 ⟨rfl, hw5⟩; have hm5 := hm4.trans (hw5.mono (HZ.out _ hm4)); have hm6 := hm5.alloc (HZ.out _ hm5) (.cells #[.int .i64 0, .int .i64 EO] 31); have hO6 := HO.out _ _ (heap_alloc_new w5 (.cells #[.int .i64 0, .int .i64 EO] 31)))
          | (go_at_call 67; (with_reducible refine Calls.mono hO6 ?_); rintro e w6 ⟨rfl, rfl⟩))
      have hlast := hm6
      obtain ⟨p0, p1, p2, p3, p4, p5⟩ := HC.out _ hlast
      obtain ⟨y0, y1, y2, y3, y4, y5⟩ := HY.out _ hlast
      obtain ⟨q0, q1, q2, q3, q4, q5⟩ := HR.out _ hlast
      have hf := HF.out _ hlast
      generalize (w5.alloc (.cells #[.int .i64 0, .int .i64 EO] 31)) = w6 at *
      go_wp2_with fail
      refine bodyPost_ret (v := .tuple #[.agg #[.int .i64 0, .int .i64 0, .int .i64 0, .int .u64 0, .string ⟨#[]⟩, .slice none 0 0], .int .i64 EO]) (by simp [results, Try.results29, go_sem, q0, q1, q2, q3, q4, q5]) rfl ?_
      rw [hE.out, hR.out]
      exact nilV_gives (set6_below (HB.out _ hlast) (Nat.le_add_right _ 2) _ _ _ _ _ _)

  · have hEOz : EO = E1 := by rw [hEO, if_pos hz1]
    have hE := Lib.hid (show RE = E1 from by rw [hRE]; unfold stoE; rw [← hE1]; simp [hz1])
    have hR := Lib.hid (show RV = nilV from by rw [hRV]; unfold stoV; rw [← hRE, hE.out, if_neg hz1])
    have hzf : (E1 == 0) = false := by simpa using hz1
    clear hEO
    subst hEOz
    clear hRE hRV hE1 hE2 hz1 hok hok2
    go_enter Try.func29, Try.ntmps29
    go_wp2_with fail
    go_region_held3 (fun W => W.cell? ⟨w.heap.size, 0, none⟩ = some (.int .i64 k) ∧ W.cell? ⟨w.heap.size, 1, none⟩ = some (.int .i64 n) ∧ W.cell? ⟨w.heap.size, 2, none⟩ = some (.int .i64 ix) ∧ W.cell? ⟨w.heap.size, 3, none⟩ = some (.int .u64 u) ∧ W.cell? ⟨w.heap.size, 4, none⟩ = some (.string s) ∧ W.cell? ⟨w.heap.size, 5, none⟩ = some (.slice A ml c) ∧ W.cell? ⟨w.heap.size + 1, 0, none⟩ = some (.int .i64 k2) ∧ W.cell? ⟨w.heap.size + 1, 1, none⟩ = some (.int .i64 n2) ∧ W.cell? ⟨w.heap.size + 1, 2, none⟩ = some (.int .i64 ix2) ∧ W.cell? ⟨w.heap.size + 1, 3, none⟩ = some (.int .u64 u2) ∧ W.cell? ⟨w.heap.size + 1, 4, none⟩ = some (.string s2) ∧ W.cell? ⟨w.heap.size + 1, 5, none⟩ = some (.slice B m2.length d))
      (first | with_reducible exact HS.out _ hd | with_reducible exact HS.out _ hm4 | with_reducible exact HS.out _ hm5 | with_reducible exact HS.out _ hm6)
      (first
        | (go_at_call 13; (with_reducible refine Calls.mono (hV1.out _ hd) ?_); rintro e w4 ⟨rfl, hw4⟩; have hm4 := hd.trans (hw4.mono (HZ.out _ hd)))
        | (go_at_call 13; (with_reducible refine Calls.mono (hV2.out _ hm4) ?_); rintro e w5 ⟨rfl, hw5⟩; have hm5 := hm4.trans (hw5.mono (HZ.out _ hm4)); have hm6 := hm5.alloc (HZ.out _ hm5) (.cells #[.int .i64 EO, .int .i64 E2] 31); have hO6 := HO.out _ _ (heap_alloc_new w5 (.cells #[.int .i64 EO, .int .i64 E2] 31)))
        | (go_at_call 67; (with_reducible refine Calls.mono hO6 ?_); rintro e w6 ⟨rfl, rfl⟩))
    have hlast := hm6
    obtain ⟨p0, p1, p2, p3, p4, p5⟩ := HC.out _ hlast
    obtain ⟨y0, y1, y2, y3, y4, y5⟩ := HY.out _ hlast
    obtain ⟨q0, q1, q2, q3, q4, q5⟩ := HR.out _ hlast
    have hf := HF.out _ hlast
    generalize (w5.alloc (.cells #[.int .i64 EO, .int .i64 E2] 31)) = w6 at *
    go_wp2_with fail
    refine bodyPost_ret (v := .tuple #[.agg #[.int .i64 0, .int .i64 0, .int .i64 0, .int .u64 0, .string ⟨#[]⟩, .slice none 0 0], .int .i64 EO]) (by simp [results, Try.results29, go_sem, q0, q1, q2, q3, q4, q5]) rfl ?_
    rw [hE.out, hR.out]
    exact nilV_gives (set6_below (HB.out _ hlast) (Nat.le_add_right _ 2) _ _ _ _ _ _)

end Go.Proofs.Ytngfgohchnkidaa
