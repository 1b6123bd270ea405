/-
  THE WALK of Spoilt where a Kid is added.
-/
import Derived.Test.YtijcjknaphboeaaGreatDoorRxSpo
import Derived.Test.YtijcjknaphboeaaGreatDoorRxFlat
namespace Go.Proofs.YtijcjknaphboeaaGreatDoor
open Go.RowKit

theorem td_of {ts : List Tn} {s : List Rx} (e : ts.map Tn.x = s) : (([] : List Tn) ++ ts).length = s.length ∧ (([] : List Tn) ++ ts).map Tn.x = s := ⟨by rw [← e, List.length_map]; rfl, e⟩
set_option maxHeartbeats 2000000 in
set_option maxRecDepth 100000 in
theorem spo_add (x : Rx) (v : Value) (how b : Int) (w : World) (hA : ∀ w : World, Calls Tryz.prog 24 #[.int .i64 how, .int .i64 (7 : Nat)] w fun e w' => e = .returned (.int .i64 (3 : Nat)) ∧ w = w') (hb : I64 b) (hv : RtV w (Lo w.heap.size) x v) (hx : nodes x ≤ 22) :
    Calls Tryz.prog 8 #[v, .int .i64 how, .int .i64 b] w (SpoOk w) := by
  obtain ⟨xk, xl, xh, s⟩ := x
  obtain ⟨⟨ok1, ok2, ok3, ok4⟩, A, c, rfl, hc, hAn, hs⟩ := hv.parts
  simp only [Rx.kind, Rx.lo, Rx.hi, Rx.kids] at ok1 ok2 ok3 ok4 hc hs ⊢
  have hns : nodesL s + 1 ≤ 22 := by simp only [nodes] at hx; omega
  have hsl : s.length ≤ 21 := by have := len_nodes s; omega
  have hu : 0 ≤ b % 256 ∧ b % 256 < 256 := by omega
  obtain ⟨i0, hi, hz0, hz1, hz2⟩ := info_parts info_eRegex
  clear hv hx
  unfold rxv
  obtain ⟨W, hW⟩ : ∃ W, ((w.alloc (.cells #[.int .i64 xk, .int .u8 xl, .int .u8 xh, .slice A s.length c] 25)).alloc (.cells #[.int .i64 0, .int .u8 0, .int .u8 0, .slice none 0 0] 25)).alloc (.cells #[] 25) = W := ⟨_, rfl⟩
  have hBW : Below w.heap.size w W := hW ▸ below_alloc3 (Below.refl _ _) (Nat.le_refl _) _ _ _
  have hsW : W.heap.size = w.heap.size + 3 := by rw [← hW]; simp
  have hr0 : W.heap[w.heap.size]? = some (.cells #[.int .i64 xk, .int .u8 xl, .int .u8 xh, .slice A s.length c] 25 (0, 0)) := hW ▸ (heap_alloc_old _ _ _ (by simp; omega)).trans ((heap_alloc_old _ _ _ (by simp)).trans (heap_alloc_new w _))
  have hr1 : W.heap[w.heap.size + 1]? = some (.cells #[.int .i64 0, .int .u8 0, .int .u8 0, .slice none 0 0] 25 (0, 0)) := hW ▸ (heap_alloc_old _ _ _ (by simp)).trans (heap_alloc_new_at _ _ (by simp))
  have hrow : RowT W (w.heap.size + 2) (fun b => b < w.heap.size ∨ w.heap.size + 2 ≤ b) 25 (.slice (some ⟨w.heap.size + 1 + 1, 0, none⟩) 0 0) [] := ⟨by
    rw [← hW]
    have := World.ownsRow_made (base := w.heap.size + 2) (e := 25) (size := 4) ((w.alloc (.cells #[.int .i64 xk, .int .u8 xl, .int .u8 xh, .slice A s.length c] 25)).alloc (.cells #[.int .i64 0, .int .u8 0, .int .u8 0, .slice none 0 0] 25)) #[] 0 (by simp) (by decide) (by simp)
    simpa using this, by simp⟩
  obtain ⟨p0, p1, p2, p3⟩ := four hr0
  have hl1 := Lib.hid (show ([] : List Tn).length + s.length ≤ maxLen by unfold maxLen; show 0 + s.length ≤ _; omega)
  have hl2 := Lib.hid (show (([] : List Tn).length + s.length) * 40 ≤ 140737488355328 by show (0 + s.length) * 40 ≤ _; omega)
  go_enter Tryz.func8, Tryz.ntmps8
  go_wp2_with (first
    | (go_at_call 24; refine Calls.mono (hA _) ?_; clear hA; rintro e w1 ⟨rfl, rfl⟩)
    | (at_builtin; (have hq1 := hrow; clear hq1; refine wpList_append_t _ rfl _ _ 23 rfl (w.heap.size + 2) 25 i0 (.agg #[.int .i64 0, .int .u8 0, .int .u8 0, .slice none 0 0]) 40 Tryz.underlying23 hi hz0 hz1 hz2 rfl _ _ (Lo w.heap.size) [] rfl hrow A s.length c s rfl rfl hAn hc (hs.below hBW) (fun b hb => ⟨.inl hb, by have : b < w.heap.size := hb; omega⟩) hl1.out hl2.out (by omega) ?_; intro v5 w5 ts5 e5 hr5 hB5; obtain ⟨A5, c5, rfl⟩ := hr5.val; have hr0' := (hB5.block w.heap.size (by omega)).trans hr0; have hr1' := (hB5.block (w.heap.size + 1) (by omega)).trans hr1; have hB5w : Below w.heap.size w w5 := hBW.trans (hB5.mono (by omega)); have hs5 := hB5.size; clear hr0 hr1 hrow hW p0 p1 p2 p3; generalize htd : ([] : List Tn) ++ ts5 = td at *; obtain ⟨htl, htm⟩ : td.length = s.length ∧ td.map Tn.x = s := (by rw [← htd]; exact td_of e5); replace htl := Lib.hid htl; replace htm := Lib.hid htm; clear e5 htd))
    | (at_builtin; (refine wpList_append_lies _ rfl _ _ 23 rfl (w.heap.size + 2) 25 i0 (.agg #[.int .i64 0, .int .u8 0, .int .u8 0, .slice none 0 0]) 4 40 Tryz.underlying23 hi hz0 hz1 hz2 rfl (by decide) _ td.length (td.flatMap Tn.cells) rfl (hr5.1.alloc _) ⟨w5.heap.size, 0, none⟩ 1 1 (Tn.cells ⟨.node 2 3 (b % 256) [], none, 0⟩) rfl rfl (World.news_of_block (cs := #[.int .i64 2, .int .u8 3, .int .u8 (b % 256), .slice none 0 0]) (t := 25) (fr := (0, 0)) (heap_alloc_new w5 _)) (tn_one1 _) (by decide) (by have := htl.out; unfold maxLen; omega) (by have := htl.out; omega) (by simp; omega) (w5.heap.size + 1) (by simp) ?_; intro g' cap' w7 hown7 hgrow7 hat7 hlt7; have hr07 := (hgrow7.block w.heap.size (by simp; omega) (fun e => by have := hr5.blk _ e.symm; omega)).trans ((Below.heap_alloc w5 _ w.heap.size (by omega)).trans hr0'); have hr17 := (hgrow7.block (w.heap.size + 1) (by simp; omega) (fun e => by have := hr5.blk _ e.symm; omega)).trans ((Below.heap_alloc w5 _ (w.heap.size + 1) (by omega)).trans hr1'); obtain ⟨⟨x0, x1, x2, x3⟩, xf0, xf1, xf2, xf3⟩ := four' hr07; obtain ⟨q0, q1, q2, q3⟩ := four hr17; have hf7 := four_frozen hr17)))
  have hr8 := RowT.snoc (w1 := w5.alloc (.cells #[.int .i64 2, .int .u8 3, .int .u8 (b % 256), .slice none 0 0] 25)) (t := ⟨.node 2 3 (b % 256) [], none, 0⟩) hr5 rfl ((Below.refl _ _).alloc (Nat.le_refl _) _) (rt_leaf _ _ 2 3 (b % 256) (by unfold I64; omega) (by decide) hu) hown7 hgrow7 (hat7.imp id (fun h => by rw [h]; simp))
  have hB7 : Below w.heap.size w w7 := (hB5w.alloc hB5w.size _).grown hgrow7 (by simp; omega) (fun j ej => by have := hr5.blk _ ej; omega)
  have hs7 := hgrow7.size
  simp at hs7
  have hR : ∀ W', (∀ k, k ≠ w.heap.size → k ≠ w.heap.size + 1 → W'.heap[k]? = w7.heap[k]?) → W'.heap.size = w7.heap.size → RowT W' (w.heap.size + 2) (fun b => b < w.heap.size ∨ w.heap.size + 2 ≤ b) 25 (.slice (some ⟨g', 0, none⟩) (td.length + 1) cap') (td ++ [⟨.node 2 3 (b % 256) [], none, 0⟩]) := fun W' h1 h2 => hr8.to (fun _ h => h) (Nat.le_of_eq h2.symm) (fun k _ hk => h1 k (by rcases hk with hk | hk | hk <;> omega) (by rcases hk with hk | hk | hk <;> omega))
  refine bodyPost_ret (v := rxv xk xl xh (some ⟨g', 0, none⟩) (td.length + 1) cap') (by unfold rxv; simp [results, Tryz.results8, go_sem, q0, q1, q2, q3]) rfl ?_
  obtain ⟨W9, hW9⟩ : ∃ W9, (((((w7.setCell ⟨w.heap.size, 3, none⟩ (.slice (some ⟨g', 0, none⟩) (td.length + 1) cap')).setCell ⟨w.heap.size + 1, 0, none⟩ (.int .i64 xk)).setCell ⟨w.heap.size + 1, 1, none⟩ (.int .u8 xl)).setCell ⟨w.heap.size + 1, 2, none⟩ (.int .u8 xh)).setCell ⟨w.heap.size + 1, 3, none⟩ (.slice (some ⟨g', 0, none⟩) (td.length + 1) cap')) = W9 := ⟨_, rfl⟩
  have hs9 : W9.heap.size = w7.heap.size := by rw [← hW9, fin4_size]; simp [World.setCell]
  have hB9 : Below w.heap.size w W9 := hW9 ▸ fin4_below (hB7.setCell (p := ⟨w.heap.size, 3, none⟩) (Nat.le_refl _) _) (Nat.le_succ _) _ _ _ _
  have hr9 := hR W9 (fun k h1 h2 => by rw [← hW9, fin4 _ _ _ _ h2]; exact Below.heap_setCell _ _ _ k h1) hs9
  rw [hW9]
  obtain ⟨r1, r2, r3, r4⟩ := hr9.list
  have hm : (td ++ [(⟨.node 2 3 (b % 256) [], none, 0⟩ : Tn)]).map Tn.x = s ++ [.node 2 3 (b % 256) []] := by rw [List.map_append, htm.out]; rfl
  rw [hm] at r4
  have hl : td.length + 1 = (s ++ [Rx.node 2 3 (b % 256) []]).length := by rw [htl.out]; simp
  rw [hl] at r2 ⊢
  refine ⟨.node xk xl xh (s ++ [Rx.node 2 3 (b % 256) []]), _, rfl, RtV.mk (S := Lo W9.heap.size) ⟨ok1, ok2, ok3, by simp; omega⟩ r2 r3 (r4.sub (fun b hb => hb.2)), hB9, ?_⟩
  simp only [nodes, nodesL_app, nodesL]; omega
end Go.Proofs.YtijcjknaphboeaaGreatDoor
