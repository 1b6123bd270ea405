/-
  THE WALKS of compareEntries' closure, compareLists and compareEntries.
-/
import Derived.Test.YtngfgohchnkidaaVaCmp
import Derived.Test.YtngfgohchnkidaaVaEl
import Derived.Deep.RegionHeld3
import Derived.LoopN
namespace Go.Proofs.Ytngfgohchnkidaa
open Go.RowKit

/-- two entries -/
def cmpEn (x y : En) : Int := fst0 [sg x.i y.i, sg x.u y.u, sgS x.s y.s]
theorem rdi_lit (w : World) (zs : List Int) (t : TypeId) : RdI (w.alloc (.cells (zs.map (Value.int .i64)).toArray t)) (w.alloc (.cells (zs.map (Value.int .i64)).toArray t)).heap.size .i64 (some ⟨w.heap.size, 0, none⟩) zs :=
  .inr ⟨w.heap.size, 0, rfl, by simp, fun j hj => by
    rw [Nat.zero_add, cell_of_row _ _ j _ _ (0, 0) (heap_alloc_new w _)]
    simp [hj]⟩
set_option maxHeartbeats 400000 in
set_option maxRecDepth 100000 in
theorem vcmpEnt1_any (x y : En) (w : World) : Calls Try.prog 82 #[x.val, y.val] w fun e w' => e = .returned (.int .i64 (cmpEn x y)) ∧ Below w.heap.size w w' := by
  show Calls Try.prog 82 #[.agg #[.int .u64 x.i, .int .u64 x.u, .string x.s], .agg #[.int .u64 y.i, .int .u64 y.u, .string y.s]] w _
  obtain ⟨R, hR⟩ : ∃ R, R = cmpEn x y := ⟨_, rfl⟩
  rw [← hR]
  have h0 := (heap_alloc_old (w.alloc (.cells #[.int .u64 x.i, .int .u64 x.u, .string x.s] 85)) (.cells #[.int .u64 y.i, .int .u64 y.u, .string y.s] 85) w.heap.size (by simp)).trans (heap_alloc_new w _)
  have h1 := heap_alloc_new_at (w.alloc (.cells #[.int .u64 x.i, .int .u64 x.u, .string x.s] 85)) (.cells #[.int .u64 y.i, .int .u64 y.u, .string y.s] 85) (n := w.heap.size + 1) (by simp)
  have hB := ((Below.refl w.heap.size w).alloc (Nat.le_refl _) (.cells #[.int .u64 x.i, .int .u64 x.u, .string x.s] 85)).alloc (by simp) (.cells #[.int .u64 y.i, .int .u64 y.u, .string y.s] 85)
  have hz : ((w.alloc (.cells #[.int .u64 x.i, .int .u64 x.u, .string x.s] 85)).alloc (.cells #[.int .u64 y.i, .int .u64 y.u, .string y.s] 85)).heap.size = w.heap.size + 2 := by simp
  go_enter Try.func82, Try.ntmps82
  go_wp2_with fail
  generalize (w.alloc (.cells #[.int .u64 x.i, .int .u64 x.u, .string x.s] 85)).alloc (.cells #[.int .u64 y.i, .int .u64 y.u, .string y.s] 85) = w0 at *
  have HS := Lib.hid fun W (hW : Below w0.heap.size w0 W) => (show W.cell? ⟨w.heap.size, 0, none⟩ = some (.int .u64 x.i) ∧ W.cell? ⟨w.heap.size, 1, none⟩ = some (.int .u64 x.u) ∧ W.cell? ⟨w.heap.size, 2, none⟩ = some (.string x.s) ∧ W.cell? ⟨w.heap.size + 1, 0, none⟩ = some (.int .u64 y.i) ∧ W.cell? ⟨w.heap.size + 1, 1, none⟩ = some (.int .u64 y.u) ∧ W.cell? ⟨w.heap.size + 1, 2, none⟩ = some (.string y.s) from by
    obtain ⟨a0, a1, a2⟩ := three ((hW.block w.heap.size (by omega)).trans h0)
    obtain ⟨b0, b1, b2⟩ := three ((hW.block (w.heap.size + 1) (by omega)).trans h1)
    exact ⟨a0, a1, a2, b0, b1, b2⟩)
  have hd : Below w0.heap.size w0 w0.drew := (Below.refl _ _).drew
  have hd2 : Below w0.heap.size w0 (w0.alloc (.cells #[.int .i64 (sg x.i y.i), .int .i64 (sg x.u y.u), .int .i64 (sgS x.s y.s)] 3)).drew := ((Below.refl _ _).alloc (Nat.le_refl _) _).drew
  have hO := cOrInt_any [sg x.i y.i, sg x.u y.u, sgS x.s y.s] (some ⟨w0.heap.size, 0, none⟩) 3 3 (w0.alloc (.cells #[.int .i64 (sg x.i y.i), .int .i64 (sg x.u y.u), .int .i64 (sgS x.s y.s)] 3)).drew rfl (by decide) ((rdi_lit w0 [sg x.i y.i, sg x.u y.u, sgS x.s y.s] 3).below (Below.refl _ _).drew)
  rw [show fst0 [sg x.i y.i, sg x.u y.u, sgS x.s y.s] = R from hR.symm] at hO
  clear hR
  have hzz : w.heap.size ≤ w0.heap.size := by omega
  clear h0 h1 hz
  generalize hs1 : sg x.i y.i = s1 at *
  generalize hs2 : sg x.u y.u = s2 at *
  generalize hs3 : sgS x.s y.s = s3 at *
  have C1 := Lib.hid fun W => (show Calls Try.prog 49 #[.int .u64 x.i, .int .u64 y.i] W fun e w' => e = .returned (.int .i64 s1) ∧ w' = W from hs1 ▸ cmpU64_any x.i y.i W)
  have C2 := Lib.hid fun W => (show Calls Try.prog 49 #[.int .u64 x.u, .int .u64 y.u] W fun e w' => e = .returned (.int .i64 s2) ∧ w' = W from hs2 ▸ cmpU64_any x.u y.u W)
  have C3 := Lib.hid fun W => (show Calls Try.prog 50 #[.string x.s, .string y.s] W fun e w' => e = .returned (.int .i64 s3) ∧ w' = W from hs3 ▸ cmpStr_any x.s y.s W)
  have t1 : Hid True := Lib.hid trivial
  clear hs1 hs2 hs3
  go_region_held3 (fun W => W.cell? ⟨w.heap.size, 0, none⟩ = some (.int .u64 x.i) ∧ W.cell? ⟨w.heap.size, 1, none⟩ = some (.int .u64 x.u) ∧ W.cell? ⟨w.heap.size, 2, none⟩ = some (.string x.s) ∧ W.cell? ⟨w.heap.size + 1, 0, none⟩ = some (.int .u64 y.i) ∧ W.cell? ⟨w.heap.size + 1, 1, none⟩ = some (.int .u64 y.u) ∧ W.cell? ⟨w.heap.size + 1, 2, none⟩ = some (.string y.s))
    (first | with_reducible exact HS.out _ hd | with_reducible exact HS.out _ hd2)
    (first
      | (go_at_call 49; have t2 := t1; clear t2 t1; (with_reducible refine Calls.mono (C1.out _) ?_); rintro e w1 ⟨rfl, rfl⟩)
      | (go_at_call 49; (with_reducible refine Calls.mono (C2.out _) ?_); rintro e w1 ⟨rfl, rfl⟩)
      | (go_at_call 50; (with_reducible refine Calls.mono (C3.out _) ?_); rintro e w1 ⟨rfl, rfl⟩)
      | (go_at_call 47; (with_reducible refine Calls.mono hO ?_); rintro e w1 ⟨rfl, rfl⟩))
  go_wp2_with fail
  go_ret
  exact ⟨rfl, hB.trans (hd2.mono hzz)⟩

/-- the order of two rows of entries, and how many are equal before they part -/
def ceO : List En → List En → Int
  | x :: s, y :: t => if cmpEn x y = 0 then ceO s t else cmpEn x y
  | [], t => sg 0 t.length
  | s, [] => sg s.length 0
def ceN : List En → List En → Nat
  | x :: s, y :: t => if cmpEn x y = 0 then ceN s t + 1 else 0
  | [], _ => 0
  | _, [] => 0
theorem ce_step {l m : List En} {j : Nat} (hl : j < l.length) (hm : j < m.length) (h : cmpEn l[j] m[j] = 0) : ceO (l.drop j) (m.drop j) = ceO (l.drop (j + 1)) (m.drop (j + 1)) ∧ ceN (l.drop j) (m.drop j) = ceN (l.drop (j + 1)) (m.drop (j + 1)) + 1 := by
  rw [List.drop_eq_getElem_cons hl, List.drop_eq_getElem_cons hm, ceO, ceN, if_pos h, if_pos h]
  exact ⟨rfl, rfl⟩
theorem ce_stop {l m : List En} {j : Nat} (hl : j < l.length) (hm : j < m.length) (h : ¬ cmpEn l[j] m[j] = 0) : ceO (l.drop j) (m.drop j) = cmpEn l[j] m[j] ∧ ceN (l.drop j) (m.drop j) = 0 := by
  rw [List.drop_eq_getElem_cons hl, List.drop_eq_getElem_cons hm, ceO, ceN, if_neg h, if_neg h]
  exact ⟨rfl, rfl⟩
theorem ce_end {l m : List En} {j : Nat} (hl : j ≤ l.length) (hm : j ≤ m.length) (h : j = l.length ∨ j = m.length) : ceO (l.drop j) (m.drop j) = sg l.length m.length ∧ ceN (l.drop j) (m.drop j) = 0 := by
  have hls : (l.drop j).length = l.length - j := List.length_drop
  have hms : (m.drop j).length = m.length - j := List.length_drop
  match h1 : l.drop j, h2 : m.drop j with
  | [], t =>
    rw [h1] at hls
    rw [h2] at hms
    simp only [List.length_nil] at hls
    refine ⟨?_, by cases t <;> rfl⟩
    have : ceO [] t = sg 0 t.length := by cases t <;> rfl
    rw [this]
    unfold sg
    rw [hms]
    have e1 : (((m.length - j : Nat) : Int)) = (m.length : Int) - j := by omega
    have e2 : (l.length : Int) = j := by omega
    rw [e1, e2]
    by_cases hlt : (j : Int) < m.length
    · rw [if_pos (by omega), if_pos hlt]
    · rw [if_neg (by omega), if_neg (by omega), if_neg hlt, if_neg (by omega)]
  | x :: s, [] =>
    rw [h1] at hls
    rw [h2] at hms
    simp only [List.length_nil, List.length_cons] at hls hms
    refine ⟨?_, rfl⟩
    show sg ((x :: s).length : Int) 0 = _
    unfold sg
    simp only [List.length_cons]
    rw [if_neg (by omega), if_pos (by omega), if_neg (by omega), if_pos (by omega)]
  | x :: s, y :: t =>
    rw [h1] at hls
    rw [h2] at hms
    simp only [List.length_cons] at hls hms
    omega

set_option maxHeartbeats 1000000 in
set_option maxRecDepth 100000 in
theorem vcmpLists_any (l m : List En) (A B : Option Addr) (c d : Nat) (w : World) (hl : EnL w (LoV w.heap.size) l A) (hm : EnL w (LoV w.heap.size) m B) (hll : l.length ≤ 100000) (hml : m.length ≤ 100000) :
    Calls Try.prog 81 #[.slice A l.length c, .slice B m.length d, .func (.func 82) #[] #[]] w fun e w' => e = .returned (.tuple #[.int .i64 (ceO l m), .int .i64 (ceN l m : Nat)]) ∧ Below w.heap.size w w' := by
  have HL := Lib.hid hl
  have HM := Lib.hid hm
  obtain ⟨O, hO⟩ : ∃ O, O = ceO l m := ⟨_, rfl⟩
  obtain ⟨N, hN⟩ : ∃ N, N = ceN l m := ⟨_, rfl⟩
  rw [← hO, ← hN]
  have HO := Lib.hid hO
  have HN := Lib.hid hN
  clear hl hm hO hN
  by_cases hle : (l.length : Int) ≤ (m.length : Int)
  all_goals
    go_enter Try.func81, Try.ntmps81
    go_wp2_with fail
    go_loopw [6, 7] (fun u v wr => ∃ j : Nat, j ≤ l.length ∧ j ≤ m.length ∧ u = .int .i64 0 ∧ v = .int .i64 (j : Int) ∧ Hid (O = ceO (l.drop j) (m.drop j) ∧ N = j + ceN (l.drop j) (m.drop j)) ∧ Below w.heap.size w wr) (fun _ v _ => l.length - (intOf v).toNat)
    case atStart => exact ⟨0, Nat.zero_le _, Nat.zero_le _, rfl, rfl, Lib.hid ⟨HO.out, by rw [HN.out]; simp⟩, Below.refl _ _⟩
    case round =>
      obtain ⟨j, hj1, hj2, rfl, rfl, hinv, hW⟩ := hrel
      by_cases hlt : j < l.length ∧ j < m.length
      · obtain ⟨h1, h2⟩ := hlt
        obtain ⟨b1, o1, rfl, hb1, x3⟩ := HL.out.get h1
        obtain ⟨b2, o2, rfl, hb2, y3⟩ := HM.out.get h2
        obtain ⟨x, hx⟩ : ∃ x, x = l[j] := ⟨_, rfl⟩
        obtain ⟨y, hy⟩ : ∃ y, y = m[j] := ⟨_, rfl⟩
        rw [← hx] at x3
        rw [← hy] at y3
        have hb1' : b1 < w.heap.size := hb1
        have hb2' : b2 < w.heap.size := hb2
        have HS := Lib.hid fun W (hWW : Below w.heap.size w W) => (show W.cell? ⟨b1, o1 + j * 3, none⟩ = some (.int .u64 x.i) ∧ W.cell? ⟨b1, o1 + j * 3 + 1, none⟩ = some (.int .u64 x.u) ∧ W.cell? ⟨b1, o1 + j * 3 + 2, none⟩ = some (.string x.s) ∧ W.cell? ⟨b2, o2 + j * 3, none⟩ = some (.int .u64 y.i) ∧ W.cell? ⟨b2, o2 + j * 3 + 1, none⟩ = some (.int .u64 y.u) ∧ W.cell? ⟨b2, o2 + j * 3 + 2, none⟩ = some (.string y.s) from by
          obtain ⟨a0, a1, a2⟩ := x3.to (hWW.block b1 hb1')
          obtain ⟨d0, d1, d2⟩ := y3.to (hWW.block b2 hb2')
          exact ⟨a0, a1, a2, d0, d1, d2⟩)
        have HC := Lib.hid fun W => vcmpEnt1_any x y W
        unfold En.val at HC
        obtain ⟨cv, hcv⟩ : ∃ cv, cv = cmpEn x y := ⟨_, rfl⟩
        rw [← hcv] at HC
        have hs0 := Lib.hid (fun (h : cv = 0) => ce_step h1 h2 (by rw [← hx, ← hy, ← hcv]; exact h))
        have hs1 := Lib.hid (fun (h : ¬ cv = 0) => (show ceO (l.drop j) (m.drop j) = cv ∧ ceN (l.drop j) (m.drop j) = 0 from by have := ce_stop h1 h2 (by rw [← hx, ← hy, ← hcv]; exact h); rwa [← hx, ← hy, ← hcv] at this))
        have q1 : (j : Int) < (l.length : Int) := by omega
        have q2 : (j : Int) < (m.length : Int) := by omega
        have q0 : (0 : Int) ≤ (j : Int) := by omega
        have qm : (j : Int) < min (l.length : Int) (m.length : Int) := by omega
        have hd : Below w.heap.size w wr.drew := hW.drew
        clear x3 y3 hx hy hcv
        by_cases hz : cv = 0
        · subst hz
          go_wp2_with fail
          go_region_held3 (fun W => W.cell? ⟨b1, o1 + j * 3, none⟩ = some (.int .u64 x.i) ∧ W.cell? ⟨b1, o1 + j * 3 + 1, none⟩ = some (.int .u64 x.u) ∧ W.cell? ⟨b1, o1 + j * 3 + 2, none⟩ = some (.string x.s) ∧ W.cell? ⟨b2, o2 + j * 3, none⟩ = some (.int .u64 y.i) ∧ W.cell? ⟨b2, o2 + j * 3 + 1, none⟩ = some (.int .u64 y.u) ∧ W.cell? ⟨b2, o2 + j * 3 + 2, none⟩ = some (.string y.s))
            (first | with_reducible exact HS.out _ hd | with_reducible exact HS.out _ hB1)
            (first | (go_at_call 82; (with_reducible refine Calls.mono (HC.out _) ?_); rintro e w1 ⟨rfl, hw1⟩; have hB1 : Below w.heap.size w w1 := hd.trans (hw1.mono hd.size)))
          go_wp2_with fail
          go_roundw
          case rel => exact ⟨j + 1, by omega, by omega, rfl, by go_num, Lib.hid ⟨by rw [hinv.out.1]; first | exact (hs0.out rfl).1 | exact (hs0.out trivial).1, by rw [hinv.out.2, show ceN (l.drop j) (m.drop j) = ceN (l.drop (j + 1)) (m.drop (j + 1)) + 1 from by first | exact (hs0.out rfl).2 | exact (hs0.out trivial).2]; omega⟩, hB1⟩
          case measure => simp [intOf]; omega
        · have hzf : (cv == 0) = false := by simpa using hz
          have hO2 := Lib.hid (show O = cv from by rw [hinv.out.1]; exact (hs1.out hz).1)
          have hN2 := Lib.hid (show (N : Int) = (j : Int) from by rw [hinv.out.2, (hs1.out hz).2]; simp)
          go_wp2_with fail
          go_region_held3 (fun W => W.cell? ⟨b1, o1 + j * 3, none⟩ = some (.int .u64 x.i) ∧ W.cell? ⟨b1, o1 + j * 3 + 1, none⟩ = some (.int .u64 x.u) ∧ W.cell? ⟨b1, o1 + j * 3 + 2, none⟩ = some (.string x.s) ∧ W.cell? ⟨b2, o2 + j * 3, none⟩ = some (.int .u64 y.i) ∧ W.cell? ⟨b2, o2 + j * 3 + 1, none⟩ = some (.int .u64 y.u) ∧ W.cell? ⟨b2, o2 + j * 3 + 2, none⟩ = some (.string y.s))
            (first | with_reducible exact HS.out _ hd | with_reducible exact HS.out _ hB1)
            (first | (go_at_call 82; (with_reducible refine Calls.mono (HC.out _) ?_); rintro e w1 ⟨rfl, hw1⟩; have hB1 : Below w.heap.size w w1 := hd.trans (hw1.mono hd.size)))
          go_wp2_with fail
          go_ret2
          exact ⟨by rw [hO2.out, hN2.out]; rfl, hB1⟩
      · have hend := ce_end hj1 hj2 (by omega)
        have hO2 := Lib.hid (show O = sg l.length m.length from by rw [hinv.out.1]; exact hend.1)
        have hN2 := Lib.hid (show (N : Int) = (j : Int) from by rw [hinv.out.2, hend.2]; simp)
        have HC := Lib.hid fun W => cmpInt_any l.length m.length W
        obtain ⟨sv, hsv⟩ : ∃ sv, sv = sg l.length m.length := ⟨_, rfl⟩
        rw [← hsv] at hO2 HC
        have qm : ¬ (j : Int) < min (l.length : Int) (m.length : Int) := by omega
        clear hend hsv
        go_wp2_with (go_at_call 48; refine Calls.mono (HC.out _) ?_; rintro e w1 ⟨rfl, rfl⟩)
        go_ret2
        exact ⟨by rw [hO2.out, hN2.out]; rfl, hW⟩
theorem vcmpEntries_any (l m : List En) (A B : Option Addr) (c d : Nat) (w : World) (hl : EnL w (LoV w.heap.size) l A) (hm : EnL w (LoV w.heap.size) m B) (hll : l.length ≤ 100000) (hml : m.length ≤ 100000) :
    Calls Try.prog 46 #[.slice A l.length c, .slice B m.length d] w fun e w' => e = .returned (.tuple #[.int .i64 (ceO l m), .int .i64 (ceN l m : Nat)]) ∧ Below w.heap.size w w' := by
  have H := vcmpLists_any l m A B c d w hl hm hll hml
  clear hl hm
  generalize ceO l m = O at *
  generalize ceN l m = N at *
  go_enter Try.func46, Try.ntmps46
  go_wp2_with (go_at_call 81; refine Calls.mono H ?_; rintro e w1 ⟨rfl, hw1⟩)
  go_ret2
  exact ⟨rfl, hw1⟩
end Go.Proofs.Ytngfgohchnkidaa
