/-
  THE WALK of plain: an expression copied from the program's type to the reference's. (The text of own's walk, the two types exchanged.)
-/
import Derived.Test.YtnjkihbmhacgoaaGreatDoorRxOwn
namespace Go.Proofs.YtnjkihbmhacgoaaGreatDoor
open Go.RowKit

set_option maxHeartbeats 1000000 in
set_option maxRecDepth 100000 in
theorem plain_any (m : Nat) : ∀ (x : Rx) (v : Value) (w : World), nodes x ≤ m → RtV w (Lo w.heap.size) x v → Calls Tryz.prog 14 #[v] w fun e w' => GivesX w x e w' := by
  induction m with
  | zero => intro x v w h0; cases x; simp [nodes] at h0
  | succ m ih =>
    intro x v w hm hv
    obtain ⟨k, l, h, s⟩ := x
    obtain ⟨⟨hk, hl, hh, hsl⟩, A, c, rfl, hc, hA, hs⟩ := hv.parts
    simp only [Rx.kind, Rx.lo, Rx.hi, Rx.kids] at hk hl hh hsl hc hs ⊢
    obtain ⟨i0, hi, hz0, hz1, hz2⟩ := info_parts info_eRegex
    unfold rxv
    go_enter Tryz.func14, Tryz.ntmps14
    go_wp2
    go_loopw [4] (fun i wr => ∃ (j : Nat) (u : Value) (ts : List Tn), j ≤ s.length ∧ i = .int .i64 j ∧ Hid (ts.map Tn.x = s.take j ∧ ts.length = j) ∧ wr.heap[w.heap.size]? = some (.cells #[.int .i64 k, .int .u8 l, .int .u8 h, .slice A s.length c] 30 (0, 0)) ∧
        wr.heap[w.heap.size + 1]? = some (.cells #[.int .i64 0, .int .u8 0, .int .u8 0, .slice none 0 0] 25 (0, 0)) ∧ wr.heap[w.heap.size + 1 + 1]? = some (.cells #[.int .i64 k, .int .u8 l, .int .u8 h, u] 25 (0, 0)) ∧
        RowT wr (w.heap.size + 3) (fun b => w.heap.size + 3 ≤ b) 25 u ts ∧ Below w.heap.size w wr ∧ w.heap.size + 3 ≤ wr.heap.size) (fun i _ => s.length - (intOf i).toNat)
    case atStart => 
      refine ⟨0, .slice none 0 0, [], Nat.zero_le _, rfl, Lib.hid ⟨rfl, rfl⟩, ?_, ?_, ?_, RowT.nil _ _ _ _, ?_, ?_⟩
      · exact (heap_alloc_old _ _ _ (by simp; omega)).trans ((heap_alloc_old _ _ _ (by simp)).trans (heap_alloc_new w _))
      · exact (heap_alloc_old _ _ _ (by simp)).trans (heap_alloc_new_at _ _ (by simp))
      · exact heap_alloc_new_at _ _ (by simp)
      · exact below_alloc3 (Below.refl _ _) (Nat.le_refl _) _ _ _
      · simp
    case round => 
      obtain ⟨j, u, ts, hj, rfl, hts, hb0, hb1, hb2, hrow, hW, hsz⟩ := hrel
      obtain ⟨_, _, _, hc0⟩ := four hb0
      obtain ⟨g0, g1, g2, g3⟩ := four hb2
      have hf2 := four_frozen hb2 3
      by_cases hlt : j < s.length
      · obtain ⟨bl, o, A', c', rfl, hbl, h4, hx⟩ := hs.get hlt
        have h4' := h4.to (hW.block bl hbl)
        have hx' := hx.below hW
        have hnod : nodes s[j] ≤ m := by have := nodes_get hlt; simp only [nodes] at hm; omega
        have HX := Lib.hid (fun l => rx_snoc (l := l) hlt rfl)
        generalize s[j] = x at h4' hx' hnod HX
        obtain ⟨xk, xl, xh, xs⟩ := x
        have h40 := h4'
        obtain ⟨e0, e1, e2, e3⟩ := h4'
        simp only [Rx.kind, Rx.lo, Rx.hi, Rx.kids] at h40 e0 e1 e2 e3 hx'
        have hC : ∀ W, Below w.heap.size wr W → Calls Tryz.prog 14 #[rxv xk xl xh A' xs.length c'] W fun e w' => GivesX W (.node xk xl xh xs) e w' := fun W hWW =>
          ih _ _ W hnod ((hx'.below hWW).mono (Nat.le_trans hW.size hWW.size))
        clear hx' hx h4 hs ih
        have htl := hts.out.2
        subst htl
        have hbB : w.heap.size < w.heap.size + 2 := by omega
        have hbl2 : bl < w.heap.size + 2 := Nat.lt_of_lt_of_le hbl (by omega)
        have hd : Below (w.heap.size + 2) wr wr.drew := (Below.refl _ _).drew
        unfold rxv at hC
        go_wp2
        go_region_law (first
            | (refine step_append_lies _ (by rfl) _ _ _ (by rfl) (w.heap.size + 3) 25 i0 (.agg #[.int .i64 0, .int .u8 0, .int .u8 0, .slice none 0 0]) 4 40 Tryz.underlying23 hi hz0 hz1 hz2 rfl (by decide) u ts.length (ts.flatMap Tn.cells) (by rfl) ((own_below hrow.1.drew hw1).alloc _) ⟨w1.heap.size, 0, none⟩ 1 1 (Tn.cells ⟨.node xk xl xh xs, A1, c1⟩) (by rfl) (by rfl) (World.news_of_block (cs := #[.int .i64 xk, .int .u8 xl, .int .u8 xh, .slice A1 xs.length c1]) (t := 25) (fr := (0, 0)) (heap_alloc_new w1 _)) (tn_one1 _) (by decide) (by unfold maxLen; omega) (by omega) (by simp; omega) (w1.heap.size + 1) (by simp) ?_; intro g' cap' w5 hown5 hgrow5 hat5 hlt5; have hf5 : w5.frozen? ⟨w.heap.size + 1 + 1, 3, none⟩ = false := (World.frozen?_of_block (grown_low hgrow5 hrow.blk (show w.heap.size + 1 + 1 < w.heap.size + 3 by omega) (by simp; omega))).trans ((World.frozen?_of_block (Below.heap_alloc w1 _ _ (show w.heap.size + 1 + 1 < w1.heap.size by omega))).trans ((hw1.frozen (p := ⟨w.heap.size + 1 + 1, 3, none⟩) (by simp; omega)).trans hf2)); have hg5 : w5.cell? ⟨w.heap.size + 1 + 1, 3, none⟩ = some u := (World.cell?_of_block (grown_low hgrow5 hrow.blk (show w.heap.size + 1 + 1 < w.heap.size + 3 by omega) (by simp; omega))).trans ((World.cell?_of_block (Below.heap_alloc w1 _ _ (show w.heap.size + 1 + 1 < w1.heap.size by omega))).trans hg3); have hlow5 : Hid (∀ B, B < w.heap.size + 3 → w5.heap[B]? = wr.heap[B]?) := Lib.hid (fun B hB => (grown_low hgrow5 hrow.blk hB (by simp; omega)).trans ((Below.heap_alloc w1 _ B (by omega)).trans (hw1.block B (by simp; omega)))); have hB5 : Below (w.heap.size + 2) wr w5 := (hB1.alloc (by omega) _).grown hgrow5 (by simp; omega) (fun j ej => Nat.le_trans (by omega) (hrow.blk j ej)))
            | (go_simp; go_at_call 14; refine Calls.mono (hC _ (Below.mono hd (Nat.le_add_right _ 2))) ?_; rintro e' w1 ⟨v1, rfl, hv1, hw1⟩; obtain ⟨⟨ok1, ok2, ok3, ok4⟩, A1, c1, rfl, hc1, hA1, hs1⟩ := hv1.parts; have hB1 : Below (w.heap.size + 2) wr w1 := hd.trans (hw1.mono (by simp; omega)); have hg3 : w1.cell? ⟨w.heap.size + 1 + 1, 3, none⟩ = some u := (hw1.cell (p := ⟨w.heap.size + 1 + 1, 3, none⟩) (by simp; omega)).trans g3; have hg4 := fun o : Obj => (cell_old (show w.heap.size + 1 + 1 < w1.heap.size by have := hw1.size; simp at this; omega) o).trans hg3; have hy1 : w.heap.size + 3 ≤ w1.heap.size := Nat.le_trans hsz hw1.size; simp only [rxv, Rx.kind, Rx.lo, Rx.hi, Rx.kids]))
        all_goals
          go_wp2
          go_roundw
          case rel =>
            refine ⟨ts.length + 1, .slice (some ⟨g', 0, none⟩) (ts.length + 1) cap', ts ++ [⟨.node xk xl xh xs, A1, c1⟩], by omega, by go_num, Lib.hid ⟨by rw [List.map_append]; exact HX.out _ hts.out.1, by rw [List.length_append]; rfl⟩, ?_, ?_, ?_, ?_, ?_, ?_⟩
            · exact (Below.heap_setCell _ _ _ _ (by simp; omega)).trans ((hlow5.out _ (by omega)).trans hb0)
            · exact (Below.heap_setCell _ _ _ _ (by simp)).trans ((hlow5.out _ (by omega)).trans hb1)
            · exact four_set3 ((hlow5.out _ (by omega)).trans hb2) _
            · have hr5 := RowT.snoc (t := ⟨.node xk xl xh xs, A1, c1⟩) hrow rfl (((Below.refl _ wr).drew.trans hw1).alloc hw1.size _) (RtV.to (fun b hb => ⟨⟨by have := hb.1; simp at this; omega, by have := hb.2; simp; omega, fun e => by have h6 := (own_blk_lt hrow.1 e).2; have h7 := hb.1; simp at h7; omega⟩, Below.heap_alloc w1 _ b hb.2⟩) _ hv1) hown5 hgrow5 (by simpa using hat5)
              exact hr5.to (fun _ h => h) (by simp [World.setCell]) (fun b _ hb => Below.heap_setCell _ _ _ b (by simp; rcases hb with hb | hb <;> omega))
            · exact (hW.trans (hB5.mono (by omega))).setCell (p := ⟨w.heap.size + 1 + 1, 3, none⟩) (by simp; omega) _
            · have := hB5.size; simp [World.setCell]; omega
          case measure => simp [intOf]; omega
      · have he := Lib.hid (show s.take j = s from List.take_of_length_le (by omega))
        obtain ⟨q0, q1, q2, q3⟩ := four hb1
        have hf1 := four_frozen hb1
        obtain ⟨A1, c1, rfl⟩ := hrow.val
        go_wp2
        refine bodyPost_ret (v := .agg #[.int .i64 k, .int .u8 l, .int .u8 h, .slice A1 ts.length c1]) (by simp [results, Tryz.results14, go_sem, q0, q1, q2, q3]) rfl ?_
        have hm := fin4_below (n := w.heap.size) hW (Nat.le_succ w.heap.size) (.int .i64 k) (.int .u8 l) (.int .u8 h) (.slice A1 ts.length c1)
        have hrow' := hrow.to (w' := (((wr.setCell ⟨w.heap.size + 1, 0, none⟩ (.int .i64 k)).setCell ⟨w.heap.size + 1, 1, none⟩ (.int .u8 l)).setCell ⟨w.heap.size + 1, 2, none⟩ (.int .u8 h)).setCell ⟨w.heap.size + 1, 3, none⟩ (.slice A1 ts.length c1)) (fun _ h => h) (by rw [fin4_size]; exact Nat.le_refl _) (fun b _ hb => fin4 _ _ _ _ (by rcases hb with hb | hb <;> omega))
        obtain ⟨r1, r2, r3, r4⟩ := hrow'.list
        have hxs : ts.map Tn.x = s := by rw [hts.out.1, he.out]
        have hl2 : ts.length = s.length := by rw [← hxs, List.length_map]
        rw [hxs] at r4
        rw [hl2] at r2 r4 hm ⊢
        refine ⟨_, rfl, RtV.mk ⟨hk, hl, hh, hsl⟩ r2 r3 (RtL.to (S := fun b => (w.heap.size + 3 ≤ b ∨ w.heap.size + 3 ≤ b) ∧ b < _) (fun b hb => ⟨⟨by have := hb.1; omega, hb.2⟩, rfl⟩) _ r4), hm⟩
end Go.Proofs.YtnjkihbmhacgoaaGreatDoor
