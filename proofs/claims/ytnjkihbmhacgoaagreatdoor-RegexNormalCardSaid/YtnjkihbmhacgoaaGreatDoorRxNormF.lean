/-
  Normal of the program and of the reference, in the same words.
  Normal of the reference, in the words of the program's.
-/
import Derived.Test.YtnjkihbmhacgoaaGreatDoorRxOrdB
import Derived.Test.YtnjkihbmhacgoaaGreatDoorRxESim
import Derived.Test.YtnjkihbmhacgoaaGreatDoorRxGood
import Derived.Test.YtnjkihbmhacgoaaGreatDoorRxNorm
import Derived.Test.YtnjkihbmhacgoaaGreatDoorRxLives
namespace Go.Proofs.YtnjkihbmhacgoaaGreatDoor
open Go.RowKit

/-- Normal's error and its expression -/
def normC (x : Rx) : Int := if validR x = 0 then (if nodes (nf x) ≤ 64 then 0 else 4) else validR x
def normV (x : Rx) : Rx := if validR x = 0 ∧ nodes (nf x) ≤ 64 then nf x else nilR
/-- Normal's answer -/
def NOk (w : World) (x : Rx) (e : Ending) (w' : World) : Prop := ∃ v, e = .returned (.tuple #[v, .int .i64 (normC x)]) ∧ RtV w' (Mid w.heap.size w'.heap.size) (normV x) v ∧ Below w.heap.size w w'
def NOkE (w : World) (x : Rx) (e : Ending) (w' : World) : Prop := ∃ v, e = .returned (.tuple #[v, .int .i64 (normC x)]) ∧ RtV w' (Lo w'.heap.size) (normV x) v ∧ Below w.heap.size w w'
theorem valid_parts {x : Rx} (h : validR x = 0) : nodes x ≤ 64 ∧ wfR x = true := by
  unfold validR at h
  split at h
  · omega
  · split at h
    · rename_i h2 h3; exact ⟨by omega, h3⟩
    · omega
theorem flat_len (k : Int) (neu : Rx) (s : List Rx) : (flatR k neu s).length ≤ nodesL s := Nat.le_trans (len_nodes _) (flatR_nodes k neu s)
mutual
theorem fit_all : ∀ x : Rx, nodes x ≤ 100000 → FitT x
  | .node k l h s, hn => by
    have h1 : nodesL s ≤ 100000 := by simp only [nodes] at hn; omega
    have h2 := nfs_nodes s
    refine ⟨fit_allL s h1, fun _ => inOrder_any _ ?_, fun _ => inOrder_any _ ?_⟩
    · have := flat_len 4 nilR (nfs s); simp only [Rx.kids]; omega
    · have := flat_len 5 allR (nfs s); simp only [Rx.kids]; omega
theorem fit_allL : ∀ s : List Rx, nodesL s ≤ 100000 → FitL s
  | [], _ => trivial
  | x :: s, hn => by simp only [nodesL] at hn; exact ⟨fit_all x (by omega), fit_allL s (by omega)⟩
end

set_option maxHeartbeats 2000000 in
set_option maxRecDepth 100000 in
theorem xNormal_any (x : Rx) (v : Value) (w : World) (hv : RtV w (Lo w.heap.size) x v) : Calls Tryz.prog 6 #[v] w (NOk w x) := by
  have hb0 : ∀ o1 o2, Below w.heap.size w ((w.alloc o1).alloc o2) := fun o1 o2 => below_alloc2 (Below.refl _ _) (Nat.le_refl _) _ _
  have hV := fun o1 o2 => valid_any x v _ (hv.call (hb0 o1 o2))
  by_cases hval : validR x = 0
  · obtain ⟨h64, hwf⟩ := valid_parts hval
    have hN : ∀ (W : World) (f : Value), Below w.heap.size w W → FormsAt W (Lo W.heap.size) f → Calls Tryz.prog 22 #[f, v] W fun e w' => GivesS (Lo W.heap.size) W (nf x) e w' := fun W f hW hf => normal_any x v f _ W (by omega) hwf (fit_all x (by omega)) hf (hv.call hW) (fun b h => h)
    by_cases hnf : nodes (nf x) ≤ 64
    · have hc : normC x = 0 := by unfold normC; rw [if_pos hval, if_pos hnf]
      have hx : normV x = nf x := by unfold normV; rw [if_pos ⟨hval, hnf⟩]
      unfold NOk
      rw [hc, hx]
      rw [hval] at hV
      obtain ⟨_, A, cc, rfl, _⟩ := hv.parts
      clear hv hval hwf hc hx
      unfold rxv at hV hN ⊢
      generalize nf x = nx at *
      go_enter Tryz.func6, Tryz.ntmps6
      go_wp2_with (first
        | (go_at_call 9; refine Calls.mono (hV _ _) ?_; clear hV; rintro e w1 ⟨rfl, hw1⟩; have hs1 := hw1.size; simp at hs1; have hB1 := (hb0 _ _).trans (hw1.mono (by simp; omega)); have hn0 := (hw1.block w.heap.size (by simp; omega)).trans ((heap_alloc_old _ _ _ (by simp)).trans (heap_alloc_new w (.cells #[.int .i64 x.kind, .int .u8 x.lo, .int .u8 x.hi, .slice A x.kids.length cc] 30))); have hn1 := (hw1.block (w.heap.size + 1) (by simp)).trans (heap_alloc_new_at _ _ (by simp)))
        | fail)
      have HS := Lib.hid fun (W : World) (hW : W.heap[w.heap.size]? = w1.heap[w.heap.size]?) => (show W.cell? ⟨w.heap.size, 0, none⟩ = some (.int .i64 x.kind) ∧ W.cell? ⟨w.heap.size, 1, none⟩ = some (.int .u8 x.lo) ∧ W.cell? ⟨w.heap.size, 2, none⟩ = some (.int .u8 x.hi) ∧ W.cell? ⟨w.heap.size, 3, none⟩ = some (.slice A x.kids.length cc) from by
        obtain ⟨k0, k1, k2, k3⟩ := four (hW.trans hn0)
        exact ⟨k0, k1, k2, k3⟩)
      have hd : Below w1.heap.size w1 w1.drew := (Below.refl _ _).drew
      have hNF := newForms_any w1.drew
      have hlt0 : w.heap.size < w1.heap.size := by omega
      have hne0 : w.heap.size ≠ w.heap.size + 1 := by omega
      go_region_held3 (fun W => W.cell? ⟨w.heap.size, 0, none⟩ = some (.int .i64 x.kind) ∧ W.cell? ⟨w.heap.size, 1, none⟩ = some (.int .u8 x.lo) ∧ W.cell? ⟨w.heap.size, 2, none⟩ = some (.int .u8 x.hi) ∧ W.cell? ⟨w.heap.size, 3, none⟩ = some (.slice A x.kids.length cc))
        (first | with_reducible exact HS.out _ (hd.block _ hlt0) | with_reducible exact HS.out _ (hBa.block _ hlt0) | with_reducible exact HS.out _ (hBc.block _ hlt0) | with_reducible exact HS.out _ (hBe.block _ hlt0) | with_reducible exact HS.out _ ((fin4 _ _ _ _ hne0).trans (hBe.block _ hlt0)))
        (first
        | (go_at_call 21; ((with_reducible refine Calls.mono hNF ?_)); rintro e w2 ⟨f, rfl, hf, hw2, hs2⟩; have hBa : Below w1.heap.size w1 w2 := hd.trans (hw2.mono (by simp)); have hB2 := hB1.trans (hBa.mono (by omega)); have hf2 : FormsAt w2 (Lo w2.heap.size) f := hf.sub (fun b hb => Nat.lt_of_lt_of_le hb.2 (by simpa using hs2)); have hN2 := hN w2 _ hB2 hf2; have hn2 := (hBa.block (w.heap.size + 1) (by omega)).trans hn1; clear hf)
        | (go_at_call 22; ((with_reducible refine Calls.mono hN2 ?_)); rintro e w3 ⟨v3, rfl, hv3, hw3⟩; have hBc : Below w1.heap.size w1 w3 := hBa.trans (hw3.mono hBa.size); have hv3' := plus_lo hv3 hw3.size; have hn3 := (hw3.block (w.heap.size + 1) (by have := hBa.size; omega)).trans hn2; have hB3 := hB2.trans (hw3.mono hB2.size); have hR3 := result_ok nx _ w3 hv3' hnf; clear hv3 hf2)
        | (go_at_call 20; ((with_reducible refine Calls.mono hR3 ?_)); rintro e w5 ⟨v5, rfl, hv5, hw5⟩; obtain ⟨_, A5, d5, rfl, _⟩ := hv5.parts; have hn5 := (hw5.block (w.heap.size + 1) (by have := (Array.getElem?_eq_some_iff.1 hn3).1; omega)).trans hn3; obtain ⟨q0, q1, q2, q3⟩ := four hn5; have hf5 := four_frozen hn5; have hB5 := hB3.trans (hw5.mono hB3.size); have hBe : Below w1.heap.size w1 w5 := hBc.trans (hw5.mono hBc.size); have hlt4 := (Array.getElem?_eq_some_iff.1 hn3).1; simp only [rxv]))
      go_wp2_with fail
      refine bodyPost_ret (v := .tuple #[rxv nx.kind nx.lo nx.hi A5 nx.kids.length d5, .int .i64 0]) (by unfold rxv; simp [results, Tryz.results6, go_sem, q0, q1, q2, q3]) rfl ?_
      refine ⟨_, rfl, RtV.to (fun b hb' => ⟨?_, fin4 _ _ _ _ ?_⟩) nx hv5, fin4_below hB5 (Nat.le_succ _) _ _ _ _⟩
      · have h1 := hb'.1; have h2 := hb'.2
        exact ⟨by omega, by rw [fin4_size]; exact h2⟩
      · have h1 := hb'.1; omega
    · have hc : normC x = 4 := by unfold normC; rw [if_pos hval, if_neg hnf]
      have hx : normV x = nilR := by unfold normV; rw [if_neg (fun h => hnf h.2)]
      unfold NOk
      rw [hc, hx]
      rw [hval] at hV
      obtain ⟨_, A, cc, rfl, _⟩ := hv.parts
      clear hv hval hwf hc hx
      unfold rxv at hV hN ⊢
      generalize nf x = nx at *
      go_enter Tryz.func6, Tryz.ntmps6
      go_wp2_with (first
        | (go_at_call 9; refine Calls.mono (hV _ _) ?_; clear hV; rintro e w1 ⟨rfl, hw1⟩; have hs1 := hw1.size; simp at hs1; have hB1 := (hb0 _ _).trans (hw1.mono (by simp; omega)); have hn0 := (hw1.block w.heap.size (by simp; omega)).trans ((heap_alloc_old _ _ _ (by simp)).trans (heap_alloc_new w (.cells #[.int .i64 x.kind, .int .u8 x.lo, .int .u8 x.hi, .slice A x.kids.length cc] 30))); have hn1 := (hw1.block (w.heap.size + 1) (by simp)).trans (heap_alloc_new_at _ _ (by simp)))
        | fail)
      have HS := Lib.hid fun (W : World) (hW : W.heap[w.heap.size]? = w1.heap[w.heap.size]?) => (show W.cell? ⟨w.heap.size, 0, none⟩ = some (.int .i64 x.kind) ∧ W.cell? ⟨w.heap.size, 1, none⟩ = some (.int .u8 x.lo) ∧ W.cell? ⟨w.heap.size, 2, none⟩ = some (.int .u8 x.hi) ∧ W.cell? ⟨w.heap.size, 3, none⟩ = some (.slice A x.kids.length cc) from by
        obtain ⟨k0, k1, k2, k3⟩ := four (hW.trans hn0)
        exact ⟨k0, k1, k2, k3⟩)
      have hd : Below w1.heap.size w1 w1.drew := (Below.refl _ _).drew
      have hNF := newForms_any w1.drew
      have hlt0 : w.heap.size < w1.heap.size := by omega
      have hne0 : w.heap.size ≠ w.heap.size + 1 := by omega
      go_region_held3 (fun W => W.cell? ⟨w.heap.size, 0, none⟩ = some (.int .i64 x.kind) ∧ W.cell? ⟨w.heap.size, 1, none⟩ = some (.int .u8 x.lo) ∧ W.cell? ⟨w.heap.size, 2, none⟩ = some (.int .u8 x.hi) ∧ W.cell? ⟨w.heap.size, 3, none⟩ = some (.slice A x.kids.length cc))
        (first | with_reducible exact HS.out _ (hd.block _ hlt0) | with_reducible exact HS.out _ (hBa.block _ hlt0) | with_reducible exact HS.out _ (hBc.block _ hlt0) | with_reducible exact HS.out _ (hBe.block _ hlt0) | with_reducible exact HS.out _ ((fin4 _ _ _ _ hne0).trans (hBe.block _ hlt0)))
        (first
        | (go_at_call 21; ((with_reducible refine Calls.mono hNF ?_)); rintro e w2 ⟨f, rfl, hf, hw2, hs2⟩; have hBa : Below w1.heap.size w1 w2 := hd.trans (hw2.mono (by simp)); have hB2 := hB1.trans (hBa.mono (by omega)); have hf2 : FormsAt w2 (Lo w2.heap.size) f := hf.sub (fun b hb => Nat.lt_of_lt_of_le hb.2 (by simpa using hs2)); have hN2 := hN w2 _ hB2 hf2; have hn2 := (hBa.block (w.heap.size + 1) (by omega)).trans hn1; clear hf)
        | (go_at_call 22; ((with_reducible refine Calls.mono hN2 ?_)); rintro e w3 ⟨v3, rfl, hv3, hw3⟩; have hBc : Below w1.heap.size w1 w3 := hBa.trans (hw3.mono hBa.size); have hv3' := plus_lo hv3 hw3.size; have hn3 := (hw3.block (w.heap.size + 1) (by have := hBa.size; omega)).trans hn2; have hB3 := hB2.trans (hw3.mono hB2.size); have hR3 := result_big nx _ w3 hv3' (by omega); clear hv3 hf2)
        | (go_at_call 20; ((with_reducible refine Calls.mono hR3 ?_)); rintro e w5 ⟨rfl, hw5⟩; have hn5 := (hw5.block (w.heap.size + 1) (by have := (Array.getElem?_eq_some_iff.1 hn3).1; omega)).trans hn3; obtain ⟨q0, q1, q2, q3⟩ := four hn5; have hf5 := four_frozen hn5; have hB5 := hB3.trans (hw5.mono hB3.size); have hBe : Below w1.heap.size w1 w5 := hBc.trans (hw5.mono hBc.size); simp only [rxv]))
      go_wp2_with fail
      refine bodyPost_ret (v := .tuple #[rxv 0 0 0 none 0 0, .int .i64 4]) (by unfold rxv; simp [results, Tryz.results6, go_sem, q0, q1, q2, q3]) rfl ?_
      exact ⟨_, rfl, rtx_nil _ _, fin4_below hB5 (Nat.le_succ _) _ _ _ _⟩
  · have hc : normC x = validR x := by unfold normC; rw [if_neg hval]
    have hx : normV x = nilR := by unfold normV; rw [if_neg (fun h => hval h.1)]
    unfold NOk
    rw [hc, hx]
    obtain ⟨_, A, cc, rfl, _⟩ := hv.parts
    clear hv hc hx
    unfold rxv at hV ⊢
    generalize validR x = vr at *
    have hvr : (vr == 0) = false := by simpa using hval
    go_enter Tryz.func6, Tryz.ntmps6
    go_wp2_with (first
      | (go_at_call 9; refine Calls.mono (hV _ _) ?_; clear hV; rintro e w1 ⟨rfl, hw1⟩; have hs1 := hw1.size; simp at hs1; have hB1 := (hb0 _ _).trans (hw1.mono (by simp; omega)); have hn1 := (hw1.block (w.heap.size + 1) (by simp)).trans (heap_alloc_new_at _ _ (by simp)); obtain ⟨q0, q1, q2, q3⟩ := four hn1; have hf1 := four_frozen hn1))
    refine bodyPost_ret (v := .tuple #[rxv 0 0 0 none 0 0, .int .i64 vr]) (by unfold rxv; simp [results, Tryz.results6, go_sem, q0, q1, q2, q3]) rfl ?_
    exact ⟨_, rfl, rtx_nil _ _, fin4_below hB1 (Nat.le_succ _) _ _ _ _⟩
end Go.Proofs.YtnjkihbmhacgoaaGreatDoor

namespace Go.Proofs.YtnjkihbmhacgoaaGreatDoor
open Go.RowKit

set_option maxHeartbeats 1000000 in
set_option maxRecDepth 100000 in
theorem eFew_any (x : Rx) (A : Option Addr) (c : Nat) (w : World) (hv : RtV w (Lo w.heap.size) x (rxv x.kind x.lo x.hi A x.kids.length c)) (hn : nodes x ≤ 1000000) : Calls Tryz.prog 23 #[rxv x.kind x.lo x.hi A x.kids.length c] w fun e w' =>
    (nodes x ≤ 64 → e = .returned (.tuple #[rxv x.kind x.lo x.hi A x.kids.length c, .int .i64 0])) ∧ (64 < nodes x → e = .returned (.tuple #[rxv 0 0 0 none 0 0, .int .i64 4])) ∧ Below w.heap.size w w' := by
  have hb0 : ∀ o1 o2, Below w.heap.size w ((w.alloc o1).alloc o2) := fun o1 o2 => below_alloc2 (Below.refl _ _) (Nat.le_refl _) _ _
  have hN := Lib.hid (fun o1 o2 => eNodes_upto (nodes x) x _ _ (Nat.le_refl _) hn (hv.call (hb0 o1 o2)))
  clear hv
  unfold rxv at hN ⊢
  generalize nodes x = n at *
  by_cases h64 : n ≤ 64
  · have hng : decide ((64 : Int) < (n : Int)) = false := decide_eq_false (by omega)
    go_enter Tryz.func23, Tryz.ntmps23
    go_wp2_with (go_at_call 13; refine Calls.mono (hN.out _ _) ?_; clear hN; rintro e w1 ⟨rfl, hw1⟩; have hs1 := hw1.size; simp at hs1; have hB1 := (hb0 _ _).trans (hw1.mono (by simp; omega)); have hn0 := (hw1.block w.heap.size (by simp; omega)).trans ((heap_alloc_old _ _ _ (by simp)).trans (heap_alloc_new w (.cells #[.int .i64 x.kind, .int .u8 x.lo, .int .u8 x.hi, .slice A x.kids.length c] 25))); have hn1 := (hw1.block (w.heap.size + 1) (by simp)).trans (heap_alloc_new_at _ _ (by simp)); obtain ⟨p0, p1, p2, p3⟩ := four hn0; obtain ⟨q0, q1, q2, q3⟩ := four hn1; have hf1 := four_frozen hn1)
    refine bodyPost_ret (v := .tuple #[rxv x.kind x.lo x.hi A x.kids.length c, .int .i64 0]) (by unfold rxv; simp [results, Tryz.results23, go_sem, q0, q1, q2, q3]) rfl ?_
    exact ⟨fun _ => rfl, fun h => absurd h (by omega), fin4_below hB1 (Nat.le_succ _) _ _ _ _⟩
  · have hng : decide ((64 : Int) < (n : Int)) = true := decide_eq_true (by omega)
    go_enter Tryz.func23, Tryz.ntmps23
    go_wp2_with (go_at_call 13; refine Calls.mono (hN.out _ _) ?_; clear hN; rintro e w1 ⟨rfl, hw1⟩; have hs1 := hw1.size; simp at hs1; have hB1 := (hb0 _ _).trans (hw1.mono (by simp; omega)); have hn1 := (hw1.block (w.heap.size + 1) (by simp)).trans (heap_alloc_new_at _ _ (by simp)); obtain ⟨q0, q1, q2, q3⟩ := four hn1; have hf1 := four_frozen hn1)
    refine bodyPost_ret (v := .tuple #[rxv 0 0 0 none 0 0, .int .i64 4]) (by unfold rxv; simp [results, Tryz.results23, go_sem, q0, q1, q2, q3]) rfl ?_
    exact ⟨fun h => absurd h (by omega), fun _ => rfl, fin4_below hB1 (Nat.le_succ _) _ _ _ _⟩

set_option maxHeartbeats 1000000 in
set_option maxRecDepth 100000 in
theorem eNormal_any (x : Rx) (v : Value) (w : World) (hn : nodes x ≤ 1000000) (hv : RtV w (Lo w.heap.size) x v) : Calls Tryz.prog 8 #[v] w (NOkE w x) := by
  have hb0 : ∀ o1 o2, Below w.heap.size w ((w.alloc o1).alloc o2) := fun o1 o2 => below_alloc2 (Below.refl _ _) (Nat.le_refl _) _ _
  have hV := fun o1 o2 => eValid_any x v _ hn (hv.call (hb0 o1 o2))
  rw [evalR_eq hv] at hV
  by_cases hval : validR x = 0
  · obtain ⟨h64, hwf⟩ := valid_parts hval
    have hS : ∀ W, Below w.heap.size w W → Calls Tryz.prog 24 #[v] W (GivesS (Lo w.heap.size) W (nf x)) := fun W hW => eSimple_any x v _ W (by omega) hwf (hv.below hW) (fun b hb => Nat.lt_of_lt_of_le hb hW.size)
    have hnn := nf_nodes x
    have hc : normC x = if nodes (nf x) ≤ 64 then 0 else 4 := by unfold normC; rw [if_pos hval]
    have hx : normV x = if nodes (nf x) ≤ 64 then nf x else nilR := by
      unfold normV
      by_cases h : nodes (nf x) ≤ 64
      · rw [if_pos ⟨hval, h⟩, if_pos h]
      · rw [if_neg (fun h2 => h h2.2), if_neg h]
    unfold NOkE
    rw [hc, hx]
    rw [hval] at hV
    obtain ⟨_, A, c, rfl, _⟩ := hv.parts
    clear hv hval hwf hc hx
    unfold rxv at hV hS ⊢
    generalize nf x = y at *
    obtain ⟨K, hK⟩ : ∃ K : Int, K = if nodes y ≤ 64 then 0 else 4 := ⟨_, rfl⟩
    obtain ⟨Z, hZ⟩ : ∃ Z : Rx, Z = if nodes y ≤ 64 then y else nilR := ⟨_, rfl⟩
    rw [← hK, ← hZ]
    have hcase : ∀ (e : Ending) (w1 w2 : World) (A2 : Option Addr) (c2 : Nat), Below w.heap.size w w1 → w.heap.size + 2 ≤ w1.heap.size → RtV w1 (Plus (Lo w.heap.size) (w.heap.size + 2) w1.heap.size) y (rxv y.kind y.lo y.hi A2 y.kids.length c2) → (nodes y ≤ 64 → e = .returned (.tuple #[rxv y.kind y.lo y.hi A2 y.kids.length c2, .int .i64 0])) ∧ (64 < nodes y → e = .returned (.tuple #[rxv 0 0 0 none 0 0, .int .i64 4])) ∧ Below w1.heap.size w1 w2 →
        ∃ (z : Rx) (A3 : Option Addr) (c3 : Nat) (k : Int), (z = Z) ∧ (k = K) ∧ e = .returned (.tuple #[rxv z.kind z.lo z.hi A3 z.kids.length c3, .int .i64 k]) ∧ RtV w2 (Plus (Lo w.heap.size) (w.heap.size + 2) w2.heap.size) z (rxv z.kind z.lo z.hi A3 z.kids.length c3) := fun e w1 w2 A2 c2 hB hz2 hy ⟨h1, h2, h3⟩ => by
      by_cases h : nodes y ≤ 64
      · refine ⟨y, A2, c2, 0, by rw [hZ, if_pos h], by rw [hK, if_pos h], h1 h, RtV.to (fun b hb => ⟨?_, h3.block b ?_⟩) y hy⟩
        · rcases hb with hb | hb
          · exact .inl hb
          · exact .inr ⟨hb.1, Nat.lt_of_lt_of_le hb.2 h3.size⟩
        · rcases hb with hb | hb
          · have : b < w.heap.size := hb; omega
          · exact hb.2
      · exact ⟨nilR, none, 0, 4, by rw [hZ, if_neg h], by rw [hK, if_neg h], h2 (by omega), rtx_nil _ _⟩
    clear hK hZ
    replace hcase := Lib.hid hcase
    go_enter Tryz.func8, Tryz.ntmps8
    go_wp2_with (first
      | (go_at_call 10; refine Calls.mono (hV _ _) ?_; clear hV; rintro e w1 ⟨rfl, hw1⟩; have hs1 := hw1.size; simp at hs1; have hB1 := (hb0 _ _).trans (hw1.mono (by simp; omega)); have hn0 := (hw1.block w.heap.size (by simp; omega)).trans ((heap_alloc_old _ _ _ (by simp)).trans (heap_alloc_new w (.cells #[.int .i64 x.kind, .int .u8 x.lo, .int .u8 x.hi, .slice A x.kids.length c] 25))); have hn1 := (hw1.block (w.heap.size + 1) (by simp)).trans (heap_alloc_new_at _ _ (by simp)); obtain ⟨p0, p1, p2, p3⟩ := four hn0)
      | (go_at_call 24; refine Calls.mono (hS _ hB1) ?_; clear hS; rintro e w2 ⟨v2, rfl, hv2, hw2⟩; obtain ⟨_, A2, c2, rfl, _⟩ := hv2.parts; have hy2 := hw2.size; have hB2 := hB1.trans (hw2.mono hB1.size); have hF := Lib.hid (eFew_any y A2 c2 w2 (hv2.sub (fun b hb => by rcases hb with hb | hb; (have h9 : b < w.heap.size := hb; show b < _; omega); exact hb.2)) (by omega)); have hv2' := Lib.hid (hv2.sub (T := Plus (Lo w.heap.size) (w.heap.size + 2) w2.heap.size) (fun b hb => by rcases hb with hb | hb; exact .inl hb; exact .inr ⟨by omega, hb.2⟩)); have hn2 := (hw2.block (w.heap.size + 1) (by omega)).trans hn1; clear hv2; simp only [rxv] at hF ⊢)
      | (go_at_call 23; refine Calls.mono hF.out ?_; clear hF; intro e w3 hr3; have hw3 := hr3.2.2; obtain ⟨z, A3, c3, k3, hz3, hk3, rfl, hv3⟩ := hcase.out e w2 w3 A2 c2 hB2 (by omega) hv2'.out (by simpa only [rxv] using hr3); have hn3 := (hw3.block (w.heap.size + 1) (by omega)).trans hn2; obtain ⟨q0, q1, q2, q3⟩ := four hn3; have hf3 := four_frozen hn3; have hB3 := hB2.trans (hw3.mono hB2.size); replace hz3 := Lib.hid hz3; replace hk3 := Lib.hid hk3; clear hr3 hcase; simp only [rxv]))
    refine bodyPost_ret (v := .tuple #[rxv z.kind z.lo z.hi A3 z.kids.length c3, .int .i64 k3]) (by unfold rxv; simp [results, Tryz.results8, go_sem, q0, q1, q2, q3]) rfl ?_
    rw [← hk3.out, ← hz3.out]
    refine ⟨_, rfl, RtV.to (fun b hb => ⟨?_, fin4 _ _ _ _ ?_⟩) z hv3, fin4_below hB3 (Nat.le_succ _) _ _ _ _⟩
    · rw [fin4_size]
      have := hB3.size
      rcases hb with hb | hb
      · exact Nat.lt_of_lt_of_le hb this
      · exact hb.2
    · rcases hb with hb | hb
      · have : b < w.heap.size := hb; omega
      · have := hb.1; omega
  · have hc : normC x = validR x := by unfold normC; rw [if_neg hval]
    have hx : normV x = nilR := by unfold normV; rw [if_neg (fun h => hval h.1)]
    unfold NOkE
    rw [hc, hx]
    obtain ⟨_, A, c, rfl, _⟩ := hv.parts
    clear hv hc hx
    unfold rxv at hV ⊢
    generalize validR x = vr at *
    have hvr : (vr == 0) = false := by simpa using hval
    go_enter Tryz.func8, Tryz.ntmps8
    go_wp2_with (first
      | (go_at_call 10; refine Calls.mono (hV _ _) ?_; clear hV; rintro e w1 ⟨rfl, hw1⟩; have hs1 := hw1.size; simp at hs1; have hB1 := (hb0 _ _).trans (hw1.mono (by simp; omega)); have hn1 := (hw1.block (w.heap.size + 1) (by simp)).trans (heap_alloc_new_at _ _ (by simp)); obtain ⟨q0, q1, q2, q3⟩ := four hn1; have hf1 := four_frozen hn1))
    refine bodyPost_ret (v := .tuple #[rxv 0 0 0 none 0 0, .int .i64 vr]) (by unfold rxv; simp [results, Tryz.results8, go_sem, q0, q1, q2, q3]) rfl ?_
    exact ⟨_, rfl, rtx_nil _ _, fin4_below hB1 (Nat.le_succ _) _ _ _ _⟩
end Go.Proofs.YtnjkihbmhacgoaaGreatDoor
