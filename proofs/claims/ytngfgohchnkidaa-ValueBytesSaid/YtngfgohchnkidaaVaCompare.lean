/-
  THE WALK of the program's Compare.
-/
import Derived.Test.YtngfgohchnkidaaVaCmpE
namespace Go.Proofs.Ytngfgohchnkidaa
open Go.RowKit

/-- two values -/
def vaCmp (x y : Va) : Int := fst0 [sg x.k y.k, sg x.n y.n, sg x.ix y.ix, sg x.u y.u, sgS x.s y.s, ceO x.m y.m]
set_option maxHeartbeats 1000000 in
set_option maxRecDepth 100000 in
theorem vCompare_any (x y : Va) (v1 v2 : Value) (w : World) (hx : VaV w (LoV w.heap.size) x v1) (hy : VaV w (LoV w.heap.size) y v2) : Calls Try.prog 20 #[v1, v2] w fun e w' => e = .returned (.int .i64 (vaCmp x y)) ∧ Below w.heap.size w w' := by
  obtain ⟨⟨_, _, _, _, hxl⟩, A, c, rfl, _, _, hl⟩ := hx
  obtain ⟨⟨_, _, _, _, hyl⟩, B, d, rfl, _, _, hm⟩ := hy
  unfold vav
  obtain ⟨R, hR⟩ : ∃ R, R = vaCmp x y := ⟨_, rfl⟩
  rw [← hR]
  have h0 := (heap_alloc_old (w.alloc (.cells #[.int .i64 x.k, .int .i64 x.n, .int .i64 x.ix, .int .u64 x.u, .string x.s, .slice A x.m.length c] 35)) (.cells #[.int .i64 y.k, .int .i64 y.n, .int .i64 y.ix, .int .u64 y.u, .string y.s, .slice B y.m.length d] 35) w.heap.size (by simp)).trans (heap_alloc_new w (.cells #[.int .i64 x.k, .int .i64 x.n, .int .i64 x.ix, .int .u64 x.u, .string x.s, .slice A x.m.length c] 35))
  have h1 := heap_alloc_new_at (w.alloc (.cells #[.int .i64 x.k, .int .i64 x.n, .int .i64 x.ix, .int .u64 x.u, .string x.s, .slice A x.m.length c] 35)) (.cells #[.int .i64 y.k, .int .i64 y.n, .int .i64 y.ix, .int .u64 y.u, .string y.s, .slice B y.m.length d] 35) (n := w.heap.size + 1) (by simp)
  have hB := ((Below.refl w.heap.size w).alloc (Nat.le_refl _) (.cells #[.int .i64 x.k, .int .i64 x.n, .int .i64 x.ix, .int .u64 x.u, .string x.s, .slice A x.m.length c] 35)).alloc (by simp) (.cells #[.int .i64 y.k, .int .i64 y.n, .int .i64 y.ix, .int .u64 y.u, .string y.s, .slice B y.m.length d] 35)
  have hz : ((w.alloc (.cells #[.int .i64 x.k, .int .i64 x.n, .int .i64 x.ix, .int .u64 x.u, .string x.s, .slice A x.m.length c] 35)).alloc (.cells #[.int .i64 y.k, .int .i64 y.n, .int .i64 y.ix, .int .u64 y.u, .string y.s, .slice B y.m.length d] 35)).heap.size = w.heap.size + 2 := by simp
  have hCE := vcmpEntries_any x.m y.m A B c d ((w.alloc (.cells #[.int .i64 x.k, .int .i64 x.n, .int .i64 x.ix, .int .u64 x.u, .string x.s, .slice A x.m.length c] 35)).alloc (.cells #[.int .i64 y.k, .int .i64 y.n, .int .i64 y.ix, .int .u64 y.u, .string y.s, .slice B y.m.length d] 35)) (hl.call hB) (hm.call hB) hxl hyl
  obtain ⟨s6, hs6⟩ : ∃ s6, s6 = ceO x.m y.m := ⟨_, rfl⟩
  obtain ⟨n6, hn6⟩ : ∃ n6, n6 = ceN x.m y.m := ⟨_, rfl⟩
  rw [← hs6, ← hn6] at hCE
  obtain ⟨s1, hs1⟩ : ∃ s1, s1 = sg x.k y.k := ⟨_, rfl⟩
  obtain ⟨s2, hs2⟩ : ∃ s2, s2 = sg x.n y.n := ⟨_, rfl⟩
  obtain ⟨s3, hs3⟩ : ∃ s3, s3 = sg x.ix y.ix := ⟨_, rfl⟩
  obtain ⟨s4, hs4⟩ : ∃ s4, s4 = sg x.u y.u := ⟨_, rfl⟩
  obtain ⟨s5, hs5⟩ : ∃ s5, s5 = sgS x.s y.s := ⟨_, rfl⟩
  have HR := Lib.hid (show fst0 [s1, s2, s3, s4, s5, s6] = R from by rw [hR, hs1, hs2, hs3, hs4, hs5, hs6]; rfl)
  have C1 := Lib.hid fun W => (show Calls Try.prog 48 #[.int .i64 x.k, .int .i64 y.k] W fun e w' => e = .returned (.int .i64 s1) ∧ w' = W from hs1 ▸ cmpInt_any x.k y.k W)
  have C2 := Lib.hid fun W => (show Calls Try.prog 48 #[.int .i64 x.n, .int .i64 y.n] W fun e w' => e = .returned (.int .i64 s2) ∧ w' = W from hs2 ▸ cmpInt_any x.n y.n W)
  have C3 := Lib.hid fun W => (show Calls Try.prog 48 #[.int .i64 x.ix, .int .i64 y.ix] W fun e w' => e = .returned (.int .i64 s3) ∧ w' = W from hs3 ▸ cmpInt_any x.ix y.ix W)
  have C4 := Lib.hid fun W => (show Calls Try.prog 49 #[.int .u64 x.u, .int .u64 y.u] W fun e w' => e = .returned (.int .i64 s4) ∧ w' = W from hs4 ▸ cmpU64_any x.u y.u W)
  have C5 := Lib.hid fun W => (show Calls Try.prog 50 #[.string x.s, .string y.s] W fun e w' => e = .returned (.int .i64 s5) ∧ w' = W from hs5 ▸ cmpStr_any x.s y.s W)
  clear hs1 hs2 hs3 hs4 hs5 hs6 hn6 hR hl hm
  obtain ⟨p0, p1, p2, p3, p4, p5⟩ := six h0
  obtain ⟨q0, q1, q2, q3, q4, q5⟩ := six h1
  replace h0 := Lib.hid h0
  replace h1 := Lib.hid h1
  replace hz := Lib.hid hz
  go_enter Try.func20, Try.ntmps20
  go_wp2_with (go_at_call 46; refine Calls.mono hCE ?_; clear hCE; rintro e w1 ⟨rfl, hw1⟩)
  have hn0 := (hw1.block w.heap.size (by rw [hz.out]; omega)).trans h0.out
  have hn1 := (hw1.block (w.heap.size + 1) (by rw [hz.out]; omega)).trans h1.out
  have hB1 : Below w.heap.size w w1 := hB.trans (hw1.mono (by rw [hz.out]; omega))
  have hsz : w.heap.size + 2 ≤ w1.heap.size := by have := hw1.size; rw [hz.out] at this; exact this
  clear p0 p1 p2 p3 p4 p5 q0 q1 q2 q3 q4 q5 h0 h1 hB hw1 hz
  have HS := Lib.hid fun W (hW : Below w1.heap.size w1 W) => (show W.cell? ⟨w.heap.size, 0, none⟩ = some (.int .i64 x.k) ∧ W.cell? ⟨w.heap.size, 1, none⟩ = some (.int .i64 x.n) ∧ W.cell? ⟨w.heap.size, 2, none⟩ = some (.int .i64 x.ix) ∧ W.cell? ⟨w.heap.size, 3, none⟩ = some (.int .u64 x.u) ∧ W.cell? ⟨w.heap.size, 4, none⟩ = some (.string x.s) ∧ W.cell? ⟨w.heap.size + 1, 0, none⟩ = some (.int .i64 y.k) ∧ W.cell? ⟨w.heap.size + 1, 1, none⟩ = some (.int .i64 y.n) ∧ W.cell? ⟨w.heap.size + 1, 2, none⟩ = some (.int .i64 y.ix) ∧ W.cell? ⟨w.heap.size + 1, 3, none⟩ = some (.int .u64 y.u) ∧ W.cell? ⟨w.heap.size + 1, 4, none⟩ = some (.string y.s) from by
    obtain ⟨a0, a1, a2, a3, a4, _⟩ := six ((hW.block w.heap.size (by omega)).trans hn0)
    obtain ⟨b0, b1, b2, b3, b4, _⟩ := six ((hW.block (w.heap.size + 1) (by omega)).trans hn1)
    exact ⟨a0, a1, a2, a3, a4, b0, b1, b2, b3, b4⟩)
  have hd : Below w1.heap.size w1 w1.drew := (Below.refl _ _).drew
  have hd2 : Below w1.heap.size w1 (w1.alloc (.cells #[.int .i64 s1, .int .i64 s2, .int .i64 s3, .int .i64 s4, .int .i64 s5, .int .i64 s6] 3)).drew := ((Below.refl _ _).alloc (Nat.le_refl _) _).drew
  have hO := cOrInt_any [s1, s2, s3, s4, s5, s6] (some ⟨w1.heap.size, 0, none⟩) 6 6 (w1.alloc (.cells #[.int .i64 s1, .int .i64 s2, .int .i64 s3, .int .i64 s4, .int .i64 s5, .int .i64 s6] 3)).drew rfl (by decide) ((rdi_lit w1 [s1, s2, s3, s4, s5, s6] 3).below (Below.refl _ _).drew)
  rw [HR.out] at hO
  have hlast := hB1.trans (hd2.mono (by omega))
  clear hn0 hn1 hsz HR
  go_region_held3 (fun W => W.cell? ⟨w.heap.size, 0, none⟩ = some (.int .i64 x.k) ∧ W.cell? ⟨w.heap.size, 1, none⟩ = some (.int .i64 x.n) ∧ W.cell? ⟨w.heap.size, 2, none⟩ = some (.int .i64 x.ix) ∧ W.cell? ⟨w.heap.size, 3, none⟩ = some (.int .u64 x.u) ∧ W.cell? ⟨w.heap.size, 4, none⟩ = some (.string x.s) ∧ W.cell? ⟨w.heap.size + 1, 0, none⟩ = some (.int .i64 y.k) ∧ W.cell? ⟨w.heap.size + 1, 1, none⟩ = some (.int .i64 y.n) ∧ W.cell? ⟨w.heap.size + 1, 2, none⟩ = some (.int .i64 y.ix) ∧ W.cell? ⟨w.heap.size + 1, 3, none⟩ = some (.int .u64 y.u) ∧ W.cell? ⟨w.heap.size + 1, 4, none⟩ = some (.string y.s))
    (first | with_reducible exact HS.out _ hd | with_reducible exact HS.out _ hd2)
    (first
      | (go_at_call 48; (with_reducible refine Calls.mono (C1.out _) ?_); rintro e w2 ⟨rfl, rfl⟩)
      | (go_at_call 48; (with_reducible refine Calls.mono (C2.out _) ?_); rintro e w2 ⟨rfl, rfl⟩)
      | (go_at_call 48; (with_reducible refine Calls.mono (C3.out _) ?_); rintro e w2 ⟨rfl, rfl⟩)
      | (go_at_call 49; (with_reducible refine Calls.mono (C4.out _) ?_); rintro e w2 ⟨rfl, rfl⟩)
      | (go_at_call 50; (with_reducible refine Calls.mono (C5.out _) ?_); rintro e w2 ⟨rfl, rfl⟩)
      | (go_at_call 47; (with_reducible refine Calls.mono hO ?_); rintro e w2 ⟨rfl, rfl⟩))
  go_wp2_with fail
  go_ret
  exact ⟨rfl, hlast⟩
end Go.Proofs.Ytngfgohchnkidaa
