/-
  THE WALK of Spoilt: an expression with something changed.
  THE WALK of Spoilt where a Kid is added.
  THE WALK of Spoilt where Nots are put around.
  THE WALK of Spoilt where a row of Alls is put before the tree.
-/
import Derived.Test.YtnjkihbmhacgoaaGreatDoorRxMadeE
import Derived.Test.YtnjkihbmhacgoaaGreatDoorRxFlat
namespace Go.Proofs.YtnjkihbmhacgoaaGreatDoor
open Go.RowKit

/-- some expression, of old memory and new -/
def SpoOk (w : World) (e : Ending) (w' : World) : Prop := ∃ y v, e = .returned v ∧ RtV w' (Lo w'.heap.size) y v ∧ Below w.heap.size w w' ∧ nodes y ≤ 200
theorem u8_range (b : Int) : 0 ≤ IntKind.u8.wrap b ∧ IntKind.u8.wrap b < 256 := by
  have : IntKind.u8.wrap b = b % 256 := by simp [IntKind.wrap, IntKind.bits, IntKind.signed]
  omega

set_option maxHeartbeats 2000000 in
set_option maxRecDepth 100000 in
theorem spo_low (x : Rx) (v : Value) (how b : Int) (w : World) (k : Nat) (hk : k = 0 ∨ k = 1 ∨ k = 2 ∨ k = 4) (hA : ∀ w : World, Calls Tryz.prog 19 #[.int .i64 how, .int .i64 (7 : Nat)] w fun e w' => e = .returned (.int .i64 k) ∧ w = w') (hb : I64 b) (hv : RtV w (Lo w.heap.size) x v) (hx : nodes x ≤ 22) :
    Calls Tryz.prog 5 #[v, .int .i64 how, .int .i64 b] w (SpoOk w) := by
  have hb0 : ∀ o1 o2, Below w.heap.size w ((w.alloc o1).alloc o2) := fun o1 o2 => below_alloc2 (Below.refl _ _) (Nat.le_refl _) _ _
  obtain ⟨xk, xl, xh, s⟩ := x
  obtain ⟨⟨ok1, ok2, ok3, ok4⟩, A, c, rfl, hc, hAn, hs⟩ := hv.parts
  simp only [Rx.kind, Rx.lo, Rx.hi, Rx.kids] at ok1 ok2 ok3 ok4 hc hs ⊢
  have hns : nodesL s + 1 ≤ 22 := by simp only [nodes] at hx; omega
  have hu : 0 ≤ b % 256 ∧ b % 256 < 256 := by omega
  have hk' := Lib.hid hk
  clear hk hv hx
  unfold rxv
  rcases hk'.out with rfl | rfl | rfl | rfl
  · go_enter Tryz.func5, Tryz.ntmps5
    go_wp2_with (go_at_call 19; refine Calls.mono (hA _) ?_; clear hA; rintro e w1 ⟨rfl, rfl⟩)
    refine bodyPost_ret (v := rxv b xl xh A s.length c) (by unfold rxv; simp [results, Tryz.results5, go_sem]) rfl ?_
    exact ⟨.node b xl xh s, _, rfl, RtV.mk ⟨hb, ok2, ok3, ok4⟩ hc hAn ((hs.below (hb0 _ _)).mono (hb0 _ _).size), hb0 _ _, by simp only [nodes]; omega⟩
  · go_enter Tryz.func5, Tryz.ntmps5
    go_wp2_with (go_at_call 19; refine Calls.mono (hA _) ?_; clear hA; rintro e w1 ⟨rfl, rfl⟩)
    refine bodyPost_ret (v := rxv xk (b % 256) xh A s.length c) (by unfold rxv; simp [results, Tryz.results5, go_sem]) rfl ?_
    exact ⟨.node xk (b % 256) xh s, _, rfl, RtV.mk ⟨ok1, hu, ok3, ok4⟩ hc hAn ((hs.below (hb0 _ _)).mono (hb0 _ _).size), hb0 _ _, by simp only [nodes]; omega⟩
  · go_enter Tryz.func5, Tryz.ntmps5
    go_wp2_with (go_at_call 19; refine Calls.mono (hA _) ?_; clear hA; rintro e w1 ⟨rfl, rfl⟩)
    refine bodyPost_ret (v := rxv xk xl (b % 256) A s.length c) (by unfold rxv; simp [results, Tryz.results5, go_sem]) rfl ?_
    exact ⟨.node xk xl (b % 256) s, _, rfl, RtV.mk ⟨ok1, ok2, hu, ok4⟩ hc hAn ((hs.below (hb0 _ _)).mono (hb0 _ _).size), hb0 _ _, by simp only [nodes]; omega⟩
  · go_enter Tryz.func5, Tryz.ntmps5
    go_wp2_with (go_at_call 19; refine Calls.mono (hA _) ?_; clear hA; rintro e w1 ⟨rfl, rfl⟩)
    refine bodyPost_ret (v := rxv xk xl xh none 0 0) (by unfold rxv; simp [results, Tryz.results5, go_sem]) rfl ?_
    exact ⟨.node xk xl xh [], _, rfl, RtV.mk ⟨ok1, ok2, ok3, by simp⟩ (by simp) (fun _ => rfl) (by simp only [RtL]), hb0 _ _, by simp only [nodes, nodesL]; omega⟩
end Go.Proofs.YtnjkihbmhacgoaaGreatDoor

namespace Go.Proofs.YtnjkihbmhacgoaaGreatDoor
open Go.RowKit

theorem td_of {ts : List Tn} {s : List Rx} (e : ts.map Tn.x = s) : (([] : List Tn) ++ ts).length = s.length ∧ (([] : List Tn) ++ ts).map Tn.x = s := ⟨by rw [← e, List.length_map]; rfl, e⟩
set_option maxHeartbeats 2000000 in
set_option maxRecDepth 100000 in
theorem spo_add (x : Rx) (v : Value) (how b : Int) (w : World) (hA : ∀ w : World, Calls Tryz.prog 19 #[.int .i64 how, .int .i64 (7 : Nat)] w fun e w' => e = .returned (.int .i64 (3 : Nat)) ∧ w = w') (_hb : I64 b) (hv : RtV w (Lo w.heap.size) x v) (hx : nodes x ≤ 22) :
    Calls Tryz.prog 5 #[v, .int .i64 how, .int .i64 b] w (SpoOk w) := by
  obtain ⟨xk, xl, xh, s⟩ := x
  obtain ⟨⟨ok1, ok2, ok3, ok4⟩, A, c, rfl, hc, hAn, hs⟩ := hv.parts
  simp only [Rx.kind, Rx.lo, Rx.hi, Rx.kids] at ok1 ok2 ok3 ok4 hc hs ⊢
  have hns : nodesL s + 1 ≤ 22 := by simp only [nodes] at hx; omega
  have hsl : s.length ≤ 21 := by have := len_nodes s; omega
  have hu : 0 ≤ b % 256 ∧ b % 256 < 256 := by omega
  obtain ⟨i0, hi, hz0, hz1, hz2⟩ := info_parts info_eRegex
  clear hv hx
  unfold rxv
  obtain ⟨W, hW⟩ : ∃ W, ((w.alloc (.cells #[.int .i64 xk, .int .u8 xl, .int .u8 xh, .slice A s.length c] 25)).alloc (.cells #[.int .i64 0, .int .u8 0, .int .u8 0, .slice none 0 0] 25)).alloc (.cells #[] 25) = W := ⟨_, rfl⟩
  have hBW : Below w.heap.size w W := hW ▸ below_alloc3 (Below.refl _ _) (Nat.le_refl _) _ _ _
  have hsW : W.heap.size = w.heap.size + 3 := by rw [← hW]; simp
  have hr0 : W.heap[w.heap.size]? = some (.cells #[.int .i64 xk, .int .u8 xl, .int .u8 xh, .slice A s.length c] 25 (0, 0)) := hW ▸ (heap_alloc_old _ _ _ (by simp; omega)).trans ((heap_alloc_old _ _ _ (by simp)).trans (heap_alloc_new w _))
  have hr1 : W.heap[w.heap.size + 1]? = some (.cells #[.int .i64 0, .int .u8 0, .int .u8 0, .slice none 0 0] 25 (0, 0)) := hW ▸ (heap_alloc_old _ _ _ (by simp)).trans (heap_alloc_new_at _ _ (by simp))
  have hrow : RowT W (w.heap.size + 2) (fun b => b < w.heap.size ∨ w.heap.size + 2 ≤ b) 25 (.slice (some ⟨w.heap.size + 1 + 1, 0, none⟩) 0 0) [] := ⟨by
    rw [← hW]
    have := World.ownsRow_made (base := w.heap.size + 2) (e := 25) (size := 4) ((w.alloc (.cells #[.int .i64 xk, .int .u8 xl, .int .u8 xh, .slice A s.length c] 25)).alloc (.cells #[.int .i64 0, .int .u8 0, .int .u8 0, .slice none 0 0] 25)) #[] 0 (by simp) (by decide) (by simp)
    simpa using this, by simp⟩
  obtain ⟨p0, p1, p2, p3⟩ := four hr0
  have hl1 := Lib.hid (show ([] : List Tn).length + s.length ≤ maxLen by unfold maxLen; show 0 + s.length ≤ _; omega)
  have hl2 := Lib.hid (show (([] : List Tn).length + s.length) * 40 ≤ 140737488355328 by show (0 + s.length) * 40 ≤ _; omega)
  go_enter Tryz.func5, Tryz.ntmps5
  go_wp2_with (first
    | (go_at_call 19; refine Calls.mono (hA _) ?_; clear hA; rintro e w1 ⟨rfl, rfl⟩)
    | (at_builtin; (have hq1 := hrow; clear hq1; refine wpList_append_t _ rfl _ _ 23 rfl (w.heap.size + 2) 25 i0 (.agg #[.int .i64 0, .int .u8 0, .int .u8 0, .slice none 0 0]) 40 Tryz.underlying23 hi hz0 hz1 hz2 rfl _ _ (Lo w.heap.size) [] rfl hrow A s.length c s rfl rfl hAn hc (hs.below hBW) (fun b hb => ⟨.inl hb, by have : b < w.heap.size := hb; omega⟩) hl1.out hl2.out (by omega) ?_; intro v5 w5 ts5 e5 hr5 hB5; obtain ⟨A5, c5, rfl⟩ := hr5.val; have hr0' := (hB5.block w.heap.size (by omega)).trans hr0; have hr1' := (hB5.block (w.heap.size + 1) (by omega)).trans hr1; have hB5w : Below w.heap.size w w5 := hBW.trans (hB5.mono (by omega)); have hs5 := hB5.size; clear hr0 hr1 hrow hW p0 p1 p2 p3; generalize htd : ([] : List Tn) ++ ts5 = td at *; obtain ⟨htl, htm⟩ : td.length = s.length ∧ td.map Tn.x = s := (by rw [← htd]; exact td_of e5); replace htl := Lib.hid htl; replace htm := Lib.hid htm; clear e5 htd))
    | (at_builtin; (refine wpList_append_lies _ rfl _ _ 23 rfl (w.heap.size + 2) 25 i0 (.agg #[.int .i64 0, .int .u8 0, .int .u8 0, .slice none 0 0]) 4 40 Tryz.underlying23 hi hz0 hz1 hz2 rfl (by decide) _ td.length (td.flatMap Tn.cells) rfl (hr5.1.alloc _) ⟨w5.heap.size, 0, none⟩ 1 1 (Tn.cells ⟨.node 2 3 (b % 256) [], none, 0⟩) rfl rfl (World.news_of_block (cs := #[.int .i64 2, .int .u8 3, .int .u8 (b % 256), .slice none 0 0]) (t := 25) (fr := (0, 0)) (heap_alloc_new w5 _)) (tn_one1 _) (by decide) (by have := htl.out; unfold maxLen; omega) (by have := htl.out; omega) (by simp; omega) (w5.heap.size + 1) (by simp) ?_; intro g' cap' w7 hown7 hgrow7 hat7 hlt7; have hr07 := (hgrow7.block w.heap.size (by simp; omega) (fun e => by have := hr5.blk _ e.symm; omega)).trans ((Below.heap_alloc w5 _ w.heap.size (by omega)).trans hr0'); have hr17 := (hgrow7.block (w.heap.size + 1) (by simp; omega) (fun e => by have := hr5.blk _ e.symm; omega)).trans ((Below.heap_alloc w5 _ (w.heap.size + 1) (by omega)).trans hr1'); obtain ⟨⟨x0, x1, x2, x3⟩, xf0, xf1, xf2, xf3⟩ := four' hr07; obtain ⟨q0, q1, q2, q3⟩ := four hr17; have hf7 := four_frozen hr17)))
  have hr8 := RowT.snoc (w1 := w5.alloc (.cells #[.int .i64 2, .int .u8 3, .int .u8 (b % 256), .slice none 0 0] 25)) (t := ⟨.node 2 3 (b % 256) [], none, 0⟩) hr5 rfl ((Below.refl _ _).alloc (Nat.le_refl _) _) (rt_leaf _ _ 2 3 (b % 256) (by unfold I64; omega) (by decide) hu) hown7 hgrow7 (hat7.imp id (fun h => by rw [h]; simp))
  have hB7 : Below w.heap.size w w7 := (hB5w.alloc hB5w.size _).grown hgrow7 (by simp; omega) (fun j ej => by have := hr5.blk _ ej; omega)
  have hs7 := hgrow7.size
  simp at hs7
  have hR : ∀ W', (∀ k, k ≠ w.heap.size → k ≠ w.heap.size + 1 → W'.heap[k]? = w7.heap[k]?) → W'.heap.size = w7.heap.size → RowT W' (w.heap.size + 2) (fun b => b < w.heap.size ∨ w.heap.size + 2 ≤ b) 25 (.slice (some ⟨g', 0, none⟩) (td.length + 1) cap') (td ++ [⟨.node 2 3 (b % 256) [], none, 0⟩]) := fun W' h1 h2 => hr8.to (fun _ h => h) (Nat.le_of_eq h2.symm) (fun k _ hk => h1 k (by rcases hk with hk | hk | hk <;> omega) (by rcases hk with hk | hk | hk <;> omega))
  refine bodyPost_ret (v := rxv xk xl xh (some ⟨g', 0, none⟩) (td.length + 1) cap') (by unfold rxv; simp [results, Tryz.results5, go_sem, q0, q1, q2, q3]) rfl ?_
  obtain ⟨W9, hW9⟩ : ∃ W9, (((((w7.setCell ⟨w.heap.size, 3, none⟩ (.slice (some ⟨g', 0, none⟩) (td.length + 1) cap')).setCell ⟨w.heap.size + 1, 0, none⟩ (.int .i64 xk)).setCell ⟨w.heap.size + 1, 1, none⟩ (.int .u8 xl)).setCell ⟨w.heap.size + 1, 2, none⟩ (.int .u8 xh)).setCell ⟨w.heap.size + 1, 3, none⟩ (.slice (some ⟨g', 0, none⟩) (td.length + 1) cap')) = W9 := ⟨_, rfl⟩
  have hs9 : W9.heap.size = w7.heap.size := by rw [← hW9, fin4_size]; simp [World.setCell]
  have hB9 : Below w.heap.size w W9 := hW9 ▸ fin4_below (hB7.setCell (p := ⟨w.heap.size, 3, none⟩) (Nat.le_refl _) _) (Nat.le_succ _) _ _ _ _
  have hr9 := hR W9 (fun k h1 h2 => by rw [← hW9, fin4 _ _ _ _ h2]; exact Below.heap_setCell _ _ _ k h1) hs9
  rw [hW9]
  obtain ⟨r1, r2, r3, r4⟩ := hr9.list
  have hm : (td ++ [(⟨.node 2 3 (b % 256) [], none, 0⟩ : Tn)]).map Tn.x = s ++ [.node 2 3 (b % 256) []] := by rw [List.map_append, htm.out]; rfl
  rw [hm] at r4
  have hl : td.length + 1 = (s ++ [Rx.node 2 3 (b % 256) []]).length := by rw [htl.out]; simp
  rw [hl] at r2 ⊢
  refine ⟨.node xk xl xh (s ++ [Rx.node 2 3 (b % 256) []]), _, rfl, RtV.mk (S := Lo W9.heap.size) ⟨ok1, ok2, ok3, by simp; omega⟩ r2 r3 (r4.sub (fun b hb => hb.2)), hB9, ?_⟩
  simp only [nodes, nodesL_app, nodesL]; omega
end Go.Proofs.YtnjkihbmhacgoaaGreatDoor

namespace Go.Proofs.YtnjkihbmhacgoaaGreatDoor
open Go.RowKit

set_option maxHeartbeats 2000000 in
set_option maxRecDepth 100000 in
theorem spo_deep (x : Rx) (v : Value) (how b : Int) (w : World) (hA : ∀ w : World, Calls Tryz.prog 19 #[.int .i64 how, .int .i64 (7 : Nat)] w fun e w' => e = .returned (.int .i64 (5 : Nat)) ∧ w = w') (hb : I64 b) (hv : RtV w (Lo w.heap.size) x v) (hx : nodes x ≤ 22) :
    Calls Tryz.prog 5 #[v, .int .i64 how, .int .i64 b] w (SpoOk w) := by
  obtain ⟨_, A, c, rfl, _⟩ := hv.parts
  obtain ⟨k4, hk4, hA4⟩ := Around_nat b 40 hb (by decide) (by decide)
  have hwr : IntKind.i64.wrap (40 + (k4 : Int)) = 40 + (k4 : Int) := by simp [IntKind.wrap, IntKind.bits, IntKind.signed]; omega
  have hb0 : ∀ o1 o2, Below w.heap.size w ((w.alloc o1).alloc o2) := fun o1 o2 => below_alloc2 (Below.refl _ _) (Nat.le_refl _) _ _
  have hv0 := fun o1 o2 => hv.below (hb0 o1 o2)
  clear hv
  unfold rxv at hv0 ⊢
  go_enter Tryz.func5, Tryz.ntmps5
  go_wp2_with (go_at_call 19; refine Calls.mono (hA _) ?_; clear hA; rintro e w1 ⟨rfl, rfl⟩)
  go_loopw [7] (fun i wr => ∃ (j : Nat) (y : Rx) (A' : Option Addr) (c' : Nat), j ≤ 40 + k4 ∧ i = .int .i64 j ∧ Hid (nodes y ≤ 22 + j) ∧ wr.heap[w.heap.size]? = some (.cells #[.int .i64 y.kind, .int .u8 y.lo, .int .u8 y.hi, .slice A' y.kids.length c'] 25 (0, 0)) ∧
      wr.heap[w.heap.size + 1]? = some (.cells #[.int .i64 0, .int .u8 0, .int .u8 0, .slice none 0 0] 25 (0, 0)) ∧ RtV wr (Plus (Lo w.heap.size) (w.heap.size + 1 + 1) wr.heap.size) y (rxv y.kind y.lo y.hi A' y.kids.length c') ∧ Below w.heap.size w wr ∧ w.heap.size + 2 ≤ wr.heap.size) (fun i _ => 40 + k4 - (intOf i).toNat)
  case atStart => exact ⟨0, x, A, c, Nat.zero_le _, rfl, Lib.hid (by omega), (heap_alloc_old _ _ _ (by simp)).trans (heap_alloc_new w _), heap_alloc_new_at _ _ (by simp), (hv0 _ _).sub (fun _ h => .inl h), hb0 _ _, by simp⟩
  case round =>
    obtain ⟨j, y, A', c', hj, rfl, hn, hr0, hr1, hy, hW, hsz⟩ := hrel
    obtain ⟨⟨p0, p1, p2, p3⟩, pf0, pf1, pf2, pf3⟩ := four' hr0
    have hy4 := hy.okn
    by_cases hlt : j < 40 + k4
    · have hlt' : (j : Int) < 40 + (k4 : Int) := by omega
      clear hv0
      have m0 := fun o : Obj => (cell_old (w := wr) (B := w.heap.size) (i := 0) (by omega) o).trans p0
      have n0 := fun o : Obj => (frozen_old (w := wr) (B := w.heap.size) (i := 0) (by omega) o).trans pf0
      have m1 := fun o : Obj => (cell_old (w := wr) (B := w.heap.size) (i := 1) (by omega) o).trans p1
      have n1 := fun o : Obj => (frozen_old (w := wr) (B := w.heap.size) (i := 1) (by omega) o).trans pf1
      have m2 := fun o : Obj => (cell_old (w := wr) (B := w.heap.size) (i := 2) (by omega) o).trans p2
      have n2 := fun o : Obj => (frozen_old (w := wr) (B := w.heap.size) (i := 2) (by omega) o).trans pf2
      have m3 := fun o : Obj => (cell_old (w := wr) (B := w.heap.size) (i := 3) (by omega) o).trans p3
      have n3 := fun o : Obj => (frozen_old (w := wr) (B := w.heap.size) (i := 3) (by omega) o).trans pf3
      go_wp2_with (go_at_call 19; refine Calls.mono (hA4 _) ?_; rintro e w2 ⟨rfl, rfl⟩)
      have hblk : ∀ k, k < wr.heap.size → k ≠ w.heap.size → (((((wr.alloc (.cells #[.int .i64 y.kind, .int .u8 y.lo, .int .u8 y.hi, .slice A' y.kids.length c'] 25)).setCell ⟨w.heap.size, 0, none⟩ (.int .i64 6)).setCell ⟨w.heap.size, 1, none⟩ (.int .u8 0)).setCell ⟨w.heap.size, 2, none⟩ (.int .u8 0)).setCell ⟨w.heap.size, 3, none⟩ (.slice (some ⟨wr.heap.size, 0, none⟩) 1 1)).heap[k]? = wr.heap[k]? := fun k h1 h2 => by
        rw [fin4 _ _ _ _ h2]; exact Below.heap_alloc wr _ k h1
      go_roundw
      case rel =>
        refine ⟨j + 1, .node 6 0 0 [y], some ⟨wr.heap.size, 0, none⟩, 1, by omega, by go_num, Lib.hid (by have := hn.out; simp only [nodes, nodesL]; omega), ?_, ?_, ?_, ?_, ?_⟩
        · have hbox : (wr.alloc (.cells #[.int .i64 y.kind, .int .u8 y.lo, .int .u8 y.hi, .slice A' y.kids.length c'] 25)).heap[w.heap.size]? = some (.cells #[.int .i64 y.kind, .int .u8 y.lo, .int .u8 y.hi, .slice A' y.kids.length c'] 25 (0, 0)) := (Below.heap_alloc wr _ _ (by omega)).trans hr0
          exact (blk_set (blk_set (blk_set (blk_set hbox _) _) _) _)
        · rw [hblk _ (by omega) (by omega)]; exact hr1
        · have hnew : ∀ W, W.heap[wr.heap.size]? = some (.cells #[.int .i64 y.kind, .int .u8 y.lo, .int .u8 y.hi, .slice A' y.kids.length c'] 25 (0, 0)) → (∀ k, k < wr.heap.size → k ≠ w.heap.size → W.heap[k]? = wr.heap[k]?) → W.heap.size = wr.heap.size + 1 → RtV W (Plus (Lo w.heap.size) (w.heap.size + 1 + 1) W.heap.size) (.node 6 0 0 [y]) (rxv 6 0 0 (some ⟨wr.heap.size, 0, none⟩) 1 1) := fun W h1 h2 h3 => by
            refine RtV.mk (s := [y]) ⟨by unfold I64; omega, by decide, by decide, by simp⟩ (by simp) (fun h => nomatch h) ?_
            simp only [RtL]
            refine ⟨wr.heap.size, 0, A', c', rfl, .inr ⟨by omega, by omega⟩, four h1, RtV.to (fun b hb => ⟨?_, h2 b ?_ ?_⟩) y hy, trivial⟩
            · rcases hb with h | h
              · exact .inl h
              · exact .inr ⟨h.1, by omega⟩
            · rcases hb with h | h
              · have : b < w.heap.size := h; omega
              · exact h.2
            · rcases hb with h | h
              · have : b < w.heap.size := h; omega
              · omega
          refine hnew _ ?_ hblk (by rw [fin4_size]; simp)
          rw [fin4 _ _ _ _ (by omega)]
          exact heap_alloc_new wr _
        · exact fin4_below (hW.alloc hW.size _) (Nat.le_refl _) _ _ _ _
        · rw [fin4_size]; simp; omega
      case measure => simp [intOf]; omega
    · have hlt' : ¬ (j : Int) < 40 + (k4 : Int) := by omega
      obtain ⟨q0, q1, q2, q3⟩ := four hr1
      have hf1 := four_frozen hr1
      clear hv0
      go_wp2_with (go_at_call 19; refine Calls.mono (hA4 _) ?_; rintro e w2 ⟨rfl, rfl⟩)
      refine bodyPost_ret (v := rxv y.kind y.lo y.hi A' y.kids.length c') (by unfold rxv; simp [results, Tryz.results5, go_sem, q0, q1, q2, q3]) rfl ?_
      refine ⟨y, _, rfl, RtV.to (fun b hb => ⟨?_, fin4 _ _ _ _ ?_⟩) y hy, fin4_below hW (Nat.le_succ _) _ _ _ _, by have := hn.out; omega⟩
      · show b < _
        rw [fin4_size]
        rcases hb with h | h
        · have : b < w.heap.size := h; omega
        · exact h.2
      · rcases hb with h | h
        · have : b < w.heap.size := h; omega
        · omega
end Go.Proofs.YtnjkihbmhacgoaaGreatDoor

namespace Go.Proofs.YtnjkihbmhacgoaaGreatDoor
open Go.RowKit

set_option maxHeartbeats 2000000 in
set_option maxRecDepth 100000 in
theorem spo_row (x : Rx) (v : Value) (how b : Int) (w : World) (hA : ∀ w : World, Calls Tryz.prog 19 #[.int .i64 how, .int .i64 (7 : Nat)] w fun e w' => e = .returned (.int .i64 (6 : Nat)) ∧ w = w') (hb : I64 b) (hv : RtV w (Lo w.heap.size) x v) (hx : nodes x ≤ 22) :
    Calls Tryz.prog 5 #[v, .int .i64 how, .int .i64 b] w (SpoOk w) := by
  obtain ⟨_, A, c, rfl, _⟩ := hv.parts
  obtain ⟨k5, hk5, hA5⟩ := Around_nat b 50 hb (by decide) (by decide)
  have hwr : IntKind.i64.wrap (20 + (k5 : Int)) = 20 + (k5 : Int) := by simp [IntKind.wrap, IntKind.bits, IntKind.signed]; omega
  have hv0 := Lib.hid hv
  obtain ⟨i0, hi, hz0, hz1, hz2⟩ := info_parts info_eRegex
  clear hv
  unfold rxv
  go_enter Tryz.func5, Tryz.ntmps5
  go_wp2_with (go_at_call 19; refine Calls.mono (hA _) ?_; clear hA; rintro e w1 ⟨rfl, rfl⟩)
  go_loopw [8, 9] (fun u i wr => ∃ (j : Nat) (ts : List Tn), j ≤ 20 + k5 ∧ i = .int .i64 j ∧ Hid (ts.length = j ∧ nodesL (ts.map Tn.x) ≤ j) ∧ wr.heap[w.heap.size]? = some (.cells #[.int .i64 x.kind, .int .u8 x.lo, .int .u8 x.hi, .slice A x.kids.length c] 25 (0, 0)) ∧
      wr.heap[w.heap.size + 1]? = some (.cells #[.int .i64 0, .int .u8 0, .int .u8 0, .slice none 0 0] 25 (0, 0)) ∧ RowT wr (w.heap.size + 2) (fun b => b < w.heap.size ∨ w.heap.size + 2 ≤ b) 25 u ts ∧ Below w.heap.size w wr ∧ w.heap.size + 2 ≤ wr.heap.size) (fun _ i _ => 20 + k5 - (intOf i).toNat)
  case atStart => exact ⟨0, [], Nat.zero_le _, rfl, Lib.hid ⟨rfl, by simp [nodesL]⟩, (heap_alloc_old _ _ _ (by simp)).trans (heap_alloc_new w _), heap_alloc_new_at _ _ (by simp), RowT.nil _ _ _ _, below_alloc2 (Below.refl _ _) (Nat.le_refl _) _ _, by simp⟩
  case round =>
    obtain ⟨j, ts, hj, rfl, hts, hr0, hr1, hrow, hW, hsz⟩ := hrel
    have htl := hts.out.1
    subst htl
    by_cases hlt : ts.length < 20 + k5
    · have hlt' : (ts.length : Int) < 20 + (k5 : Int) := by omega
      go_wp2_with (first
        | (go_at_call 19; refine Calls.mono (hA5 _) ?_; clear hA5; rintro e w2 ⟨rfl, rfl⟩)
        | (at_builtin; refine wpList_append_lies _ rfl _ _ 23 rfl (w.heap.size + 2) 25 i0 (.agg #[.int .i64 0, .int .u8 0, .int .u8 0, .slice none 0 0]) 4 40 Tryz.underlying23 hi hz0 hz1 hz2 rfl (by decide) _ ts.length (ts.flatMap Tn.cells) rfl (hrow.1.alloc _) ⟨wr.heap.size, 0, none⟩ 1 1 (Tn.cells ⟨.node 5 0 0 [], none, 0⟩) rfl rfl (World.news_of_block (cs := #[.int .i64 5, .int .u8 0, .int .u8 0, .slice none 0 0]) (t := 25) (fr := (0, 0)) (heap_alloc_new wr _)) (tn_one1 _) (by decide) (by unfold maxLen; omega) (by omega) (by simp; omega) (wr.heap.size + 1) (by simp) ?_; intro g' cap' w5 hown5 hgrow5 hat5 hlt5))
      have hr5 := RowT.snoc (w1 := wr.alloc (.cells #[.int .i64 5, .int .u8 0, .int .u8 0, .slice none 0 0] 25)) (t := ⟨.node 5 0 0 [], none, 0⟩) hrow rfl ((Below.refl _ _).alloc (Nat.le_refl _) _) (rt_leaf _ _ 5 0 0 (by unfold I64; omega) (by decide) (by decide)) hown5 hgrow5 (hat5.imp id (fun h => by rw [h]; simp))
      have hblk : ∀ k, k < w.heap.size + 2 → w5.heap[k]? = wr.heap[k]? := fun k hk => (hgrow5.block k (by simp; omega) (fun e => by have := hrow.blk _ e.symm; omega)).trans (Below.heap_alloc wr _ k (by omega))
      have hB5 : Below w.heap.size w w5 := (hW.alloc hW.size _).grown hgrow5 (by simp; omega) (fun j ej => by have := hrow.blk _ ej; omega)
      have hs5 := hgrow5.size
      simp at hs5
      go_roundw
      case rel => exact ⟨ts.length + 1, _, by omega, by go_num, Lib.hid ⟨by simp, by rw [List.map_append, show ([(⟨.node 5 0 0 [], none, 0⟩ : Tn)]).map Tn.x = [Rx.node 5 0 0 []] from rfl, nodesL_app]; have := hts.out.2; simp only [nodesL, nodes]; omega⟩, (hblk _ (by omega)).trans hr0, (hblk _ (by omega)).trans hr1, hr5, hB5, by omega⟩
      case measure => simp [intOf]; omega
    · have hlt' : ¬ (ts.length : Int) < 20 + (k5 : Int) := by omega
      obtain ⟨p0, p1, p2, p3⟩ := four hr0
      obtain ⟨A2, c2, rfl⟩ := hrow.val
      go_wp2_with (first
        | (go_at_call 19; refine Calls.mono (hA5 _) ?_; clear hA5; rintro e w2 ⟨rfl, rfl⟩)
        | (at_builtin; refine wpList_append_lies _ rfl _ _ 23 rfl (w.heap.size + 2) 25 i0 (.agg #[.int .i64 0, .int .u8 0, .int .u8 0, .slice none 0 0]) 4 40 Tryz.underlying23 hi hz0 hz1 hz2 rfl (by decide) _ ts.length (ts.flatMap Tn.cells) rfl (hrow.1.alloc _) ⟨wr.heap.size, 0, none⟩ 1 1 (Tn.cells ⟨x, A, c⟩) rfl rfl (World.news_of_block (cs := #[.int .i64 x.kind, .int .u8 x.lo, .int .u8 x.hi, .slice A x.kids.length c]) (t := 25) (fr := (0, 0)) (heap_alloc_new wr _)) (tn_one1 _) (by decide) (by unfold maxLen; omega) (by omega) (by simp; omega) (wr.heap.size + 1) (by simp) ?_; intro g' cap' w7 hown7 hgrow7 hat7 hlt7; have hr07 := (hgrow7.block w.heap.size (by simp; omega) (fun e => by have := hrow.blk _ e.symm; omega)).trans ((Below.heap_alloc wr _ w.heap.size (by omega)).trans hr0); have hr17 := (hgrow7.block (w.heap.size + 1) (by simp; omega) (fun e => by have := hrow.blk _ e.symm; omega)).trans ((Below.heap_alloc wr _ (w.heap.size + 1) (by omega)).trans hr1); obtain ⟨⟨x0, x1, x2, x3⟩, xf0, xf1, xf2, xf3⟩ := four' hr07; obtain ⟨q0, q1, q2, q3⟩ := four hr17; have hf7 := four_frozen hr17))
      have hr8 := RowT.snoc (w1 := wr.alloc (.cells #[.int .i64 x.kind, .int .u8 x.lo, .int .u8 x.hi, .slice A x.kids.length c] 25)) (t := ⟨x, A, c⟩) hrow rfl ((Below.refl _ _).alloc (Nat.le_refl _) _) (RtV.to (fun b hb => ⟨⟨.inl hb, by have h1 : b < w.heap.size := hb; simp; omega, fun e => by have h1 : b < w.heap.size := hb; have := hrow.blk _ e.symm; omega⟩, (Below.heap_alloc wr _ b (by have h1 : b < w.heap.size := hb; omega)).trans (hW.block b hb)⟩) x hv0.out) hown7 hgrow7 (hat7.imp id (fun h => by rw [h]; simp))
      have hB7 : Below w.heap.size w w7 := (hW.alloc hW.size _).grown hgrow7 (by simp; omega) (fun j ej => by have := hrow.blk _ ej; omega)
      have hs7 := hgrow7.size
      simp at hs7
      refine bodyPost_ret (v := rxv 3 0 0 (some ⟨g', 0, none⟩) (ts.length + 1) cap') (by unfold rxv; simp [results, Tryz.results5, go_sem, q0, q1, q2, q3]) rfl ?_
      obtain ⟨W8, hW8⟩ : ∃ W8, ((((w7.setCell ⟨w.heap.size, 0, none⟩ (.int .i64 3)).setCell ⟨w.heap.size, 1, none⟩ (.int .u8 0)).setCell ⟨w.heap.size, 2, none⟩ (.int .u8 0)).setCell ⟨w.heap.size, 3, none⟩ (.slice (some ⟨g', 0, none⟩) (ts.length + 1) cap')) = W8 := ⟨_, rfl⟩
      have hs8 : W8.heap.size = w7.heap.size := by rw [← hW8, fin4_size]
      have hB8 : Below w.heap.size w W8 := hW8 ▸ fin4_below hB7 (Nat.le_refl _) _ _ _ _
      have hk8 : ∀ k, k ≠ w.heap.size → W8.heap[k]? = w7.heap[k]? := fun k h1 => by rw [← hW8]; exact fin4 _ _ _ _ h1
      rw [hW8]
      obtain ⟨W9, hW9⟩ : ∃ W9, ((((W8.setCell ⟨w.heap.size + 1, 0, none⟩ (.int .i64 3)).setCell ⟨w.heap.size + 1, 1, none⟩ (.int .u8 0)).setCell ⟨w.heap.size + 1, 2, none⟩ (.int .u8 0)).setCell ⟨w.heap.size + 1, 3, none⟩ (.slice (some ⟨g', 0, none⟩) (ts.length + 1) cap')) = W9 := ⟨_, rfl⟩
      have hs9 : W9.heap.size = w7.heap.size := by rw [← hW9, fin4_size, hs8]
      have hB9 : Below w.heap.size w W9 := hW9 ▸ fin4_below hB8 (Nat.le_succ _) _ _ _ _
      have hk9 : ∀ k, k ≠ w.heap.size → k ≠ w.heap.size + 1 → W9.heap[k]? = w7.heap[k]? := fun k h1 h2 => by rw [← hW9]; exact (fin4 _ _ _ _ h2).trans (hk8 k h1)
      rw [hW9]
      have hr9 := hr8.to (w' := W9) (fun _ h => h) (Nat.le_of_eq hs9.symm) (fun k _ hk => hk9 k (by rcases hk with hk | hk | hk <;> omega) (by rcases hk with hk | hk | hk <;> omega))
      obtain ⟨r1, r2, r3, r4⟩ := hr9.list
      have hm : (ts ++ [(⟨x, A, c⟩ : Tn)]).map Tn.x = ts.map Tn.x ++ [x] := by rw [List.map_append]; rfl
      rw [hm] at r4
      have hl : ts.length + 1 = (ts.map Tn.x ++ [x]).length := by simp
      have hn := hts.out.2
      rw [hl] at r2 ⊢
      refine ⟨.node 3 0 0 (ts.map Tn.x ++ [x]), _, rfl, RtV.mk (S := Lo W9.heap.size) ⟨by unfold I64; omega, by decide, by decide, by simp; omega⟩ r2 r3 (r4.sub (fun b hb => hb.2)), hB9, ?_⟩
      simp only [nodes, nodesL_app, nodesL]; omega

/-- SPOILT: some expression. -/
theorem spoilt_any (x : Rx) (v : Value) (how b : Int) (w : World) (hh : I64 how) (hb : I64 b) (hv : RtV w (Lo w.heap.size) x v) (hx : nodes x ≤ 22) :
    Calls Tryz.prog 5 #[v, .int .i64 how, .int .i64 b] w (SpoOk w) := by
  obtain ⟨k, hk, hA⟩ := Around_nat how 7 hh (by decide) (by decide)
  by_cases h3 : k = 3
  · subst h3; exact spo_add x v how b w hA hb hv hx
  · by_cases h5 : k = 5
    · subst h5; exact spo_deep x v how b w hA hb hv hx
    · by_cases h6 : k = 6
      · subst h6; exact spo_row x v how b w hA hb hv hx
      · exact spo_low x v how b w k (by omega) hA hb hv hx
end Go.Proofs.YtnjkihbmhacgoaaGreatDoor
