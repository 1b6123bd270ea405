/-
  THE WALK of Spoilt where a row of Alls is put before the tree.
-/
import Derived.Test.YtijcjknaphboeaaGreatDoorRxSpoC
namespace Go.Proofs.YtijcjknaphboeaaGreatDoor
open Go.RowKit

set_option maxHeartbeats 2000000 in
set_option maxRecDepth 100000 in
theorem spo_row (x : Rx) (v : Value) (how b : Int) (w : World) (hA : ∀ w : World, Calls Tryz.prog 24 #[.int .i64 how, .int .i64 (7 : Nat)] w fun e w' => e = .returned (.int .i64 (6 : Nat)) ∧ w = w') (hb : I64 b) (hv : RtV w (Lo w.heap.size) x v) (hx : nodes x ≤ 22) :
    Calls Tryz.prog 8 #[v, .int .i64 how, .int .i64 b] w (SpoOk w) := by
  obtain ⟨_, A, c, rfl, _⟩ := hv.parts
  obtain ⟨k5, hk5, hA5⟩ := Around_nat b 50 hb (by decide) (by decide)
  have hwr : IntKind.i64.wrap (20 + (k5 : Int)) = 20 + (k5 : Int) := by simp [IntKind.wrap, IntKind.bits, IntKind.signed]; omega
  have hv0 := Lib.hid hv
  obtain ⟨i0, hi, hz0, hz1, hz2⟩ := info_parts info_eRegex
  clear hv
  unfold rxv
  go_enter Tryz.func8, Tryz.ntmps8
  go_wp2_with (go_at_call 24; refine Calls.mono (hA _) ?_; clear hA; rintro e w1 ⟨rfl, rfl⟩)
  go_loopw [8, 9] (fun u i wr => ∃ (j : Nat) (ts : List Tn), j ≤ 20 + k5 ∧ i = .int .i64 j ∧ Hid (ts.length = j ∧ nodesL (ts.map Tn.x) ≤ j) ∧ wr.heap[w.heap.size]? = some (.cells #[.int .i64 x.kind, .int .u8 x.lo, .int .u8 x.hi, .slice A x.kids.length c] 25 (0, 0)) ∧
      wr.heap[w.heap.size + 1]? = some (.cells #[.int .i64 0, .int .u8 0, .int .u8 0, .slice none 0 0] 25 (0, 0)) ∧ RowT wr (w.heap.size + 2) (fun b => b < w.heap.size ∨ w.heap.size + 2 ≤ b) 25 u ts ∧ Below w.heap.size w wr ∧ w.heap.size + 2 ≤ wr.heap.size) (fun _ i _ => 20 + k5 - (intOf i).toNat)
  case atStart => exact ⟨0, [], Nat.zero_le _, rfl, Lib.hid ⟨rfl, by simp [nodesL]⟩, (heap_alloc_old _ _ _ (by simp)).trans (heap_alloc_new w _), heap_alloc_new_at _ _ (by simp), RowT.nil _ _ _ _, below_alloc2 (Below.refl _ _) (Nat.le_refl _) _ _, by simp⟩
  case round =>
    obtain ⟨j, ts, hj, rfl, hts, hr0, hr1, hrow, hW, hsz⟩ := hrel
    have htl := hts.out.1
    subst htl
    by_cases hlt : ts.length < 20 + k5
    · have hlt' : (ts.length : Int) < 20 + (k5 : Int) := by omega
      go_wp2_with (first
        | (go_at_call 24; refine Calls.mono (hA5 _) ?_; clear hA5; rintro e w2 ⟨rfl, rfl⟩)
        | (at_builtin; refine wpList_append_lies _ rfl _ _ 23 rfl (w.heap.size + 2) 25 i0 (.agg #[.int .i64 0, .int .u8 0, .int .u8 0, .slice none 0 0]) 4 40 Tryz.underlying23 hi hz0 hz1 hz2 rfl (by decide) _ ts.length (ts.flatMap Tn.cells) rfl (hrow.1.alloc _) ⟨wr.heap.size, 0, none⟩ 1 1 (Tn.cells ⟨.node 5 0 0 [], none, 0⟩) rfl rfl (World.news_of_block (cs := #[.int .i64 5, .int .u8 0, .int .u8 0, .slice none 0 0]) (t := 25) (fr := (0, 0)) (heap_alloc_new wr _)) (tn_one1 _) (by decide) (by unfold maxLen; omega) (by omega) (by simp; omega) (wr.heap.size + 1) (by simp) ?_; intro g' cap' w5 hown5 hgrow5 hat5 hlt5))
      have hr5 := RowT.snoc (w1 := wr.alloc (.cells #[.int .i64 5, .int .u8 0, .int .u8 0, .slice none 0 0] 25)) (t := ⟨.node 5 0 0 [], none, 0⟩) hrow rfl ((Below.refl _ _).alloc (Nat.le_refl _) _) (rt_leaf _ _ 5 0 0 (by unfold I64; omega) (by decide) (by decide)) hown5 hgrow5 (hat5.imp id (fun h => by rw [h]; simp))
      have hblk : ∀ k, k < w.heap.size + 2 → w5.heap[k]? = wr.heap[k]? := fun k hk => (hgrow5.block k (by simp; omega) (fun e => by have := hrow.blk _ e.symm; omega)).trans (Below.heap_alloc wr _ k (by omega))
      have hB5 : Below w.heap.size w w5 := (hW.alloc hW.size _).grown hgrow5 (by simp; omega) (fun j ej => by have := hrow.blk _ ej; omega)
      have hs5 := hgrow5.size
      simp at hs5
      go_roundw
      case rel => exact ⟨ts.length + 1, _, by omega, by go_num, Lib.hid ⟨by simp, by rw [List.map_append, show ([(⟨.node 5 0 0 [], none, 0⟩ : Tn)]).map Tn.x = [Rx.node 5 0 0 []] from rfl, nodesL_app]; have := hts.out.2; simp only [nodesL, nodes]; omega⟩, (hblk _ (by omega)).trans hr0, (hblk _ (by omega)).trans hr1, hr5, hB5, by omega⟩
      case measure => simp [intOf]; omega
    · have hlt' : ¬ (ts.length : Int) < 20 + (k5 : Int) := by omega
      obtain ⟨p0, p1, p2, p3⟩ := four hr0
      obtain ⟨A2, c2, rfl⟩ := hrow.val
      go_wp2_with (first
        | (go_at_call 24; refine Calls.mono (hA5 _) ?_; clear hA5; rintro e w2 ⟨rfl, rfl⟩)
        | (at_builtin; refine wpList_append_lies _ rfl _ _ 23 rfl (w.heap.size + 2) 25 i0 (.agg #[.int .i64 0, .int .u8 0, .int .u8 0, .slice none 0 0]) 4 40 Tryz.underlying23 hi hz0 hz1 hz2 rfl (by decide) _ ts.length (ts.flatMap Tn.cells) rfl (hrow.1.alloc _) ⟨wr.heap.size, 0, none⟩ 1 1 (Tn.cells ⟨x, A, c⟩) rfl rfl (World.news_of_block (cs := #[.int .i64 x.kind, .int .u8 x.lo, .int .u8 x.hi, .slice A x.kids.length c]) (t := 25) (fr := (0, 0)) (heap_alloc_new wr _)) (tn_one1 _) (by decide) (by unfold maxLen; omega) (by omega) (by simp; omega) (wr.heap.size + 1) (by simp) ?_; intro g' cap' w7 hown7 hgrow7 hat7 hlt7; have hr07 := (hgrow7.block w.heap.size (by simp; omega) (fun e => by have := hrow.blk _ e.symm; omega)).trans ((Below.heap_alloc wr _ w.heap.size (by omega)).trans hr0); have hr17 := (hgrow7.block (w.heap.size + 1) (by simp; omega) (fun e => by have := hrow.blk _ e.symm; omega)).trans ((Below.heap_alloc wr _ (w.heap.size + 1) (by omega)).trans hr1); obtain ⟨⟨x0, x1, x2, x3⟩, xf0, xf1, xf2, xf3⟩ := four' hr07; obtain ⟨q0, q1, q2, q3⟩ := four hr17; have hf7 := four_frozen hr17))
      have hr8 := RowT.snoc (w1 := wr.alloc (.cells #[.int .i64 x.kind, .int .u8 x.lo, .int .u8 x.hi, .slice A x.kids.length c] 25)) (t := ⟨x, A, c⟩) hrow rfl ((Below.refl _ _).alloc (Nat.le_refl _) _) (RtV.to (fun b hb => ⟨⟨.inl hb, by have h1 : b < w.heap.size := hb; simp; omega, fun e => by have h1 : b < w.heap.size := hb; have := hrow.blk _ e.symm; omega⟩, (Below.heap_alloc wr _ b (by have h1 : b < w.heap.size := hb; omega)).trans (hW.block b hb)⟩) x hv0.out) hown7 hgrow7 (hat7.imp id (fun h => by rw [h]; simp))
      have hB7 : Below w.heap.size w w7 := (hW.alloc hW.size _).grown hgrow7 (by simp; omega) (fun j ej => by have := hrow.blk _ ej; omega)
      have hs7 := hgrow7.size
      simp at hs7
      refine bodyPost_ret (v := rxv 3 0 0 (some ⟨g', 0, none⟩) (ts.length + 1) cap') (by unfold rxv; simp [results, Tryz.results8, go_sem, q0, q1, q2, q3]) rfl ?_
      obtain ⟨W8, hW8⟩ : ∃ W8, ((((w7.setCell ⟨w.heap.size, 0, none⟩ (.int .i64 3)).setCell ⟨w.heap.size, 1, none⟩ (.int .u8 0)).setCell ⟨w.heap.size, 2, none⟩ (.int .u8 0)).setCell ⟨w.heap.size, 3, none⟩ (.slice (some ⟨g', 0, none⟩) (ts.length + 1) cap')) = W8 := ⟨_, rfl⟩
      have hs8 : W8.heap.size = w7.heap.size := by rw [← hW8, fin4_size]
      have hB8 : Below w.heap.size w W8 := hW8 ▸ fin4_below hB7 (Nat.le_refl _) _ _ _ _
      have hk8 : ∀ k, k ≠ w.heap.size → W8.heap[k]? = w7.heap[k]? := fun k h1 => by rw [← hW8]; exact fin4 _ _ _ _ h1
      rw [hW8]
      obtain ⟨W9, hW9⟩ : ∃ W9, ((((W8.setCell ⟨w.heap.size + 1, 0, none⟩ (.int .i64 3)).setCell ⟨w.heap.size + 1, 1, none⟩ (.int .u8 0)).setCell ⟨w.heap.size + 1, 2, none⟩ (.int .u8 0)).setCell ⟨w.heap.size + 1, 3, none⟩ (.slice (some ⟨g', 0, none⟩) (ts.length + 1) cap')) = W9 := ⟨_, rfl⟩
      have hs9 : W9.heap.size = w7.heap.size := by rw [← hW9, fin4_size, hs8]
      have hB9 : Below w.heap.size w W9 := hW9 ▸ fin4_below hB8 (Nat.le_succ _) _ _ _ _
      have hk9 : ∀ k, k ≠ w.heap.size → k ≠ w.heap.size + 1 → W9.heap[k]? = w7.heap[k]? := fun k h1 h2 => by rw [← hW9]; exact (fin4 _ _ _ _ h2).trans (hk8 k h1)
      rw [hW9]
      have hr9 := hr8.to (w' := W9) (fun _ h => h) (Nat.le_of_eq hs9.symm) (fun k _ hk => hk9 k (by rcases hk with hk | hk | hk <;> omega) (by rcases hk with hk | hk | hk <;> omega))
      obtain ⟨r1, r2, r3, r4⟩ := hr9.list
      have hm : (ts ++ [(⟨x, A, c⟩ : Tn)]).map Tn.x = ts.map Tn.x ++ [x] := by rw [List.map_append]; rfl
      rw [hm] at r4
      have hl : ts.length + 1 = (ts.map Tn.x ++ [x]).length := by simp
      have hn := hts.out.2
      rw [hl] at r2 ⊢
      refine ⟨.node 3 0 0 (ts.map Tn.x ++ [x]), _, rfl, RtV.mk (S := Lo W9.heap.size) ⟨by unfold I64; omega, by decide, by decide, by simp; omega⟩ r2 r3 (r4.sub (fun b hb => hb.2)), hB9, ?_⟩
      simp only [nodes, nodesL_app, nodesL]; omega

/-- SPOILT: some expression. -/
theorem spoilt_any (x : Rx) (v : Value) (how b : Int) (w : World) (hh : I64 how) (hb : I64 b) (hv : RtV w (Lo w.heap.size) x v) (hx : nodes x ≤ 22) :
    Calls Tryz.prog 8 #[v, .int .i64 how, .int .i64 b] w (SpoOk w) := by
  obtain ⟨k, hk, hA⟩ := Around_nat how 7 hh (by decide) (by decide)
  by_cases h3 : k = 3
  · subst h3; exact spo_add x v how b w hA hb hv hx
  · by_cases h5 : k = 5
    · subst h5; exact spo_deep x v how b w hA hb hv hx
    · by_cases h6 : k = 6
      · subst h6; exact spo_row x v how b w hA hb hv hx
      · exact spo_low x v how b w k (by omega) hA hb hv hx
end Go.Proofs.YtijcjknaphboeaaGreatDoor
