/-
  THE WALK of Spoilt where Nots are put around.
-/
import Derived.Test.YtijcjknaphboeaaGreatDoorRxSpoB
namespace Go.Proofs.YtijcjknaphboeaaGreatDoor
open Go.RowKit

set_option maxHeartbeats 2000000 in
set_option maxRecDepth 100000 in
theorem spo_deep (x : Rx) (v : Value) (how b : Int) (w : World) (hA : ∀ w : World, Calls Tryz.prog 24 #[.int .i64 how, .int .i64 (7 : Nat)] w fun e w' => e = .returned (.int .i64 (5 : Nat)) ∧ w = w') (hb : I64 b) (hv : RtV w (Lo w.heap.size) x v) (hx : nodes x ≤ 22) :
    Calls Tryz.prog 8 #[v, .int .i64 how, .int .i64 b] w (SpoOk w) := by
  obtain ⟨_, A, c, rfl, _⟩ := hv.parts
  obtain ⟨k4, hk4, hA4⟩ := Around_nat b 40 hb (by decide) (by decide)
  have hwr : IntKind.i64.wrap (40 + (k4 : Int)) = 40 + (k4 : Int) := by simp [IntKind.wrap, IntKind.bits, IntKind.signed]; omega
  have hb0 : ∀ o1 o2, Below w.heap.size w ((w.alloc o1).alloc o2) := fun o1 o2 => below_alloc2 (Below.refl _ _) (Nat.le_refl _) _ _
  have hv0 := fun o1 o2 => hv.below (hb0 o1 o2)
  clear hv
  unfold rxv at hv0 ⊢
  go_enter Tryz.func8, Tryz.ntmps8
  go_wp2_with (go_at_call 24; refine Calls.mono (hA _) ?_; clear hA; rintro e w1 ⟨rfl, rfl⟩)
  go_loopw [7] (fun i wr => ∃ (j : Nat) (y : Rx) (A' : Option Addr) (c' : Nat), j ≤ 40 + k4 ∧ i = .int .i64 j ∧ Hid (nodes y ≤ 22 + j) ∧ wr.heap[w.heap.size]? = some (.cells #[.int .i64 y.kind, .int .u8 y.lo, .int .u8 y.hi, .slice A' y.kids.length c'] 25 (0, 0)) ∧
      wr.heap[w.heap.size + 1]? = some (.cells #[.int .i64 0, .int .u8 0, .int .u8 0, .slice none 0 0] 25 (0, 0)) ∧ RtV wr (Plus (Lo w.heap.size) (w.heap.size + 1 + 1) wr.heap.size) y (rxv y.kind y.lo y.hi A' y.kids.length c') ∧ Below w.heap.size w wr ∧ w.heap.size + 2 ≤ wr.heap.size) (fun i _ => 40 + k4 - (intOf i).toNat)
  case atStart => exact ⟨0, x, A, c, Nat.zero_le _, rfl, Lib.hid (by omega), (heap_alloc_old _ _ _ (by simp)).trans (heap_alloc_new w _), heap_alloc_new_at _ _ (by simp), (hv0 _ _).sub (fun _ h => .inl h), hb0 _ _, by simp⟩
  case round =>
    obtain ⟨j, y, A', c', hj, rfl, hn, hr0, hr1, hy, hW, hsz⟩ := hrel
    obtain ⟨⟨p0, p1, p2, p3⟩, pf0, pf1, pf2, pf3⟩ := four' hr0
    have hy4 := hy.okn
    by_cases hlt : j < 40 + k4
    · have hlt' : (j : Int) < 40 + (k4 : Int) := by omega
      clear hv0
      have m0 := fun o : Obj => (cell_old (w := wr) (B := w.heap.size) (i := 0) (by omega) o).trans p0
      have n0 := fun o : Obj => (frozen_old (w := wr) (B := w.heap.size) (i := 0) (by omega) o).trans pf0
      have m1 := fun o : Obj => (cell_old (w := wr) (B := w.heap.size) (i := 1) (by omega) o).trans p1
      have n1 := fun o : Obj => (frozen_old (w := wr) (B := w.heap.size) (i := 1) (by omega) o).trans pf1
      have m2 := fun o : Obj => (cell_old (w := wr) (B := w.heap.size) (i := 2) (by omega) o).trans p2
      have n2 := fun o : Obj => (frozen_old (w := wr) (B := w.heap.size) (i := 2) (by omega) o).trans pf2
      have m3 := fun o : Obj => (cell_old (w := wr) (B := w.heap.size) (i := 3) (by omega) o).trans p3
      have n3 := fun o : Obj => (frozen_old (w := wr) (B := w.heap.size) (i := 3) (by omega) o).trans pf3
      go_wp2_with (go_at_call 24; refine Calls.mono (hA4 _) ?_; rintro e w2 ⟨rfl, rfl⟩)
      have hblk : ∀ k, k < wr.heap.size → k ≠ w.heap.size → (((((wr.alloc (.cells #[.int .i64 y.kind, .int .u8 y.lo, .int .u8 y.hi, .slice A' y.kids.length c'] 25)).setCell ⟨w.heap.size, 0, none⟩ (.int .i64 6)).setCell ⟨w.heap.size, 1, none⟩ (.int .u8 0)).setCell ⟨w.heap.size, 2, none⟩ (.int .u8 0)).setCell ⟨w.heap.size, 3, none⟩ (.slice (some ⟨wr.heap.size, 0, none⟩) 1 1)).heap[k]? = wr.heap[k]? := fun k h1 h2 => by
        rw [fin4 _ _ _ _ h2]; exact Below.heap_alloc wr _ k h1
      go_roundw
      case rel =>
        refine ⟨j + 1, .node 6 0 0 [y], some ⟨wr.heap.size, 0, none⟩, 1, by omega, by go_num, Lib.hid (by have := hn.out; simp only [nodes, nodesL]; omega), ?_, ?_, ?_, ?_, ?_⟩
        · have hbox : (wr.alloc (.cells #[.int .i64 y.kind, .int .u8 y.lo, .int .u8 y.hi, .slice A' y.kids.length c'] 25)).heap[w.heap.size]? = some (.cells #[.int .i64 y.kind, .int .u8 y.lo, .int .u8 y.hi, .slice A' y.kids.length c'] 25 (0, 0)) := (Below.heap_alloc wr _ _ (by omega)).trans hr0
          exact (blk_set (blk_set (blk_set (blk_set hbox _) _) _) _)
        · rw [hblk _ (by omega) (by omega)]; exact hr1
        · have hnew : ∀ W, W.heap[wr.heap.size]? = some (.cells #[.int .i64 y.kind, .int .u8 y.lo, .int .u8 y.hi, .slice A' y.kids.length c'] 25 (0, 0)) → (∀ k, k < wr.heap.size → k ≠ w.heap.size → W.heap[k]? = wr.heap[k]?) → W.heap.size = wr.heap.size + 1 → RtV W (Plus (Lo w.heap.size) (w.heap.size + 1 + 1) W.heap.size) (.node 6 0 0 [y]) (rxv 6 0 0 (some ⟨wr.heap.size, 0, none⟩) 1 1) := fun W h1 h2 h3 => by
            refine RtV.mk (s := [y]) ⟨by unfold I64; omega, by decide, by decide, by simp⟩ (by simp) (fun h => nomatch h) ?_
            simp only [RtL]
            refine ⟨wr.heap.size, 0, A', c', rfl, .inr ⟨by omega, by omega⟩, four h1, RtV.to (fun b hb => ⟨?_, h2 b ?_ ?_⟩) y hy, trivial⟩
            · rcases hb with h | h
              · exact .inl h
              · exact .inr ⟨h.1, by omega⟩
            · rcases hb with h | h
              · have : b < w.heap.size := h; omega
              · exact h.2
            · rcases hb with h | h
              · have : b < w.heap.size := h; omega
              · omega
          refine hnew _ ?_ hblk (by rw [fin4_size]; simp)
          rw [fin4 _ _ _ _ (by omega)]
          exact heap_alloc_new wr _
        · exact fin4_below (hW.alloc hW.size _) (Nat.le_refl _) _ _ _ _
        · rw [fin4_size]; simp; omega
      case measure => simp [intOf]; omega
    · have hlt' : ¬ (j : Int) < 40 + (k4 : Int) := by omega
      obtain ⟨q0, q1, q2, q3⟩ := four hr1
      have hf1 := four_frozen hr1
      clear hv0
      go_wp2_with (go_at_call 24; refine Calls.mono (hA4 _) ?_; rintro e w2 ⟨rfl, rfl⟩)
      refine bodyPost_ret (v := rxv y.kind y.lo y.hi A' y.kids.length c') (by unfold rxv; simp [results, Tryz.results8, go_sem, q0, q1, q2, q3]) rfl ?_
      refine ⟨y, _, rfl, RtV.to (fun b hb => ⟨?_, fin4 _ _ _ _ ?_⟩) y hy, fin4_below hW (Nat.le_succ _) _ _ _ _, by have := hn.out; omega⟩
      · show b < _
        rw [fin4_size]
        rcases hb with h | h
        · have : b < w.heap.size := h; omega
        · exact h.2
      · rcases hb with h | h
        · have : b < w.heap.size := h; omega
        · omega
end Go.Proofs.YtijcjknaphboeaaGreatDoor
