/-
  THE WALK of the maker's regex where a Kid is made: Not and Star.
-/
import Derived.Test.YtnjkihbmhacgoaaGreatDoorRxMadeB
import Derived.Deep.AppendLies
namespace Go.Proofs.YtnjkihbmhacgoaaGreatDoor
open Go.RowKit

theorem undrew {w w' : World} {r : Option Nat} (h : w.drew.grownBy w' r) : w.grownBy w' r := ⟨h.os, h.tape, h.output, h.size, h.block⟩
theorem nb_step {d : Nat} (h : 2 ≤ d) (h9 : d ≤ 4) : nb (d - 1) + 1 ≤ nb d ∧ 2 * nb (d - 1) + 1 ≤ nb d := by
  obtain rfl | rfl | rfl : d = 2 ∨ d = 3 ∨ d = 4 := by omega
  all_goals decide

/-- the end where Kids were made -/
theorem mk_finK {w W : World} {g : Nat} {A : Option Addr} {n c d : Nat} {zs : List Int} {k : Int} (hk : 0 ≤ k ∧ k < 8) (hm : MkAt W g A n c zs) (hG : w.grownBy W (some g)) (hg : g < w.heap.size) {B : Option Addr} {cap : Nat} {ts : List Tn} (hrow : RowT W (w.heap.size + 2) (fun b => w.heap.size + 2 ≤ b) 25 (.slice B ts.length cap) ts)
    (hwf : wfR (.node k 0 0 (ts.map Tn.x)) = true) (hn : nodes (.node k 0 0 (ts.map Tn.x)) ≤ nb d) (hl : ts.length ≤ 1000) :
    MPost w g A n c zs (nb d) (.returned (rxv k 0 0 B ts.length cap)) ((((W.setCell ⟨w.heap.size, 0, none⟩ (.int .i64 k)).setCell ⟨w.heap.size, 1, none⟩ (.int .u8 0)).setCell ⟨w.heap.size, 2, none⟩ (.int .u8 0)).setCell ⟨w.heap.size, 3, none⟩ (.slice B ts.length cap)) := by
  have hrow' := hrow.to (w' := (((W.setCell ⟨w.heap.size, 0, none⟩ (.int .i64 k)).setCell ⟨w.heap.size, 1, none⟩ (.int .u8 0)).setCell ⟨w.heap.size, 2, none⟩ (.int .u8 0)).setCell ⟨w.heap.size, 3, none⟩ (.slice B ts.length cap)) (fun _ h => h) (by rw [fin4_size]; exact Nat.le_refl _) (fun b _ hb => fin4 _ _ _ _ (by rcases hb with hb | hb <;> omega))
  obtain ⟨r1, r2, r3, r4⟩ := hrow'.list
  refine ⟨.node k 0 0 (ts.map Tn.x), _, rfl, ?_, (((hm.set hg _ _).set hg _ _).set hg _ _).set hg _ _, fin4_grown hG (Nat.le_refl _) _ _ _ _, hwf, hn⟩
  have := RtV.mk (w := (((W.setCell ⟨w.heap.size, 0, none⟩ (.int .i64 k)).setCell ⟨w.heap.size, 1, none⟩ (.int .u8 0)).setCell ⟨w.heap.size, 2, none⟩ (.int .u8 0)).setCell ⟨w.heap.size, 3, none⟩ (.slice B ts.length cap)) (k := k) (l := 0) (h := 0) (s := ts.map Tn.x) (A := B) (c := cap) ⟨by unfold I64; omega, by decide, by decide, by rw [List.length_map]; omega⟩ (by rw [List.length_map]; exact r2) r3 (RtL.to (T := Mid w.heap.size ((((W.setCell ⟨w.heap.size, 0, none⟩ (.int .i64 k)).setCell ⟨w.heap.size, 1, none⟩ (.int .u8 0)).setCell ⟨w.heap.size, 2, none⟩ (.int .u8 0)).setCell ⟨w.heap.size, 3, none⟩ (.slice B ts.length cap)).heap.size) (fun b hb => ⟨⟨by have := hb.1; omega, hb.2⟩, rfl⟩) _ r4)
  rwa [List.length_map] at this
theorem mk_fin1 {w W : World} {g : Nat} {A : Option Addr} {n c d : Nat} {zs : List Int} {k : Int} (hk : k = 6 ∨ k = 7) (hm : MkAt W g A n c zs) (hG : w.grownBy W (some g)) (hg : g < w.heap.size) {B : Option Addr} {cap : Nat} {x : Rx} {A3 : Option Addr} {c3 : Nat} (hrow : RowT W (w.heap.size + 2) (fun b => w.heap.size + 2 ≤ b) 25 (.slice B 1 cap) ([] ++ [⟨x, A3, c3⟩]))
    (hwf : wfR x = true) (hn : nodes x + 1 ≤ nb d) :
    MPost w g A n c zs (nb d) (.returned (rxv k 0 0 B 1 cap)) ((((W.setCell ⟨w.heap.size, 0, none⟩ (.int .i64 k)).setCell ⟨w.heap.size, 1, none⟩ (.int .u8 0)).setCell ⟨w.heap.size, 2, none⟩ (.int .u8 0)).setCell ⟨w.heap.size, 3, none⟩ (.slice B 1 cap)) :=
  mk_finK (ts := [⟨x, A3, c3⟩]) (by omega) hm hG hg hrow (by rw [wfR_eq]; rcases hk with rfl | rfl <;> simp [wfK, wfL, hwf]) (by simp only [List.map_cons, List.map_nil, nodes, nodesL]; omega) (by simp)

set_option maxHeartbeats 4000000 in
set_option maxRecDepth 100000 in
theorem mreg_one (d : Nat) (hd : 2 ≤ d) (hd9 : d ≤ 4) (ih : MC (d - 1)) (g : Nat) (A : Option Addr) (n c : Nat) (zs : List Int) (w : World) (hmk : MkAt w g A n c zs) (hL : MkL n zs) (kk : Int) (hkk : kk = 6 ∨ kk = 7) (hC1 : Calls Tryz.prog 37 #[.pointer (some ⟨g, 0, none⟩), .int .i64 (14 : Nat)] (w.alloc (.cells #[.int .i64 0, .int .u8 0, .int .u8 0, .slice none 0 0] 25)) fun e w' => e = .returned (.int .i64 kk) ∧ MkAt w' g A n c zs ∧ (w.alloc (.cells #[.int .i64 0, .int .u8 0, .int .u8 0, .slice none 0 0] 25)).grownBy w' (some g) ∧ w'.heap.size = (w.alloc (.cells #[.int .i64 0, .int .u8 0, .int .u8 0, .slice none 0 0] 25)).heap.size) :
    Calls Tryz.prog 18 #[.pointer (some ⟨g, 0, none⟩), .int .i64 d] w (MPost w g A n c zs (nb d)) := by
  have hglt := hmk.lt
  have hc1 : decide ((d : Int) < 2) = false := decide_eq_false (by omega)
  have hdw : IntKind.i64.wrap ((d : Int) - 1) = ((d - 1 : Nat) : Int) := by simp [IntKind.wrap, IntKind.bits, IntKind.signed]; omega
  have hnb := nb_step hd hd9
  obtain ⟨i0, hi, hz0, hz1, hz2⟩ := info_parts info_eRegex
  have hkk' := Lib.hid hkk
  clear hkk
  rcases hkk'.out with rfl | rfl
  · go_enter Tryz.func18, Tryz.ntmps18
    go_wp2_with (go_at_call 37; refine Calls.mono hC1 ?_; clear hC1; rintro e w1 ⟨rfl, hm1, hg1, hs1⟩; simp at hs1)
    have hG1 : w.grownBy w1 (some g) := (World.grownBy_alloc w _ _).trans hg1
    have hr1 := keepG hg1 (heap_alloc_new w _) (by omega)
    obtain ⟨W2, hW2⟩ : ∃ W2, w1.alloc (.cells #[.int .i64 6, .int .u8 0, .int .u8 0, .slice none 0 0] 25) = W2 := ⟨_, rfl⟩
    have hm2 : MkAt W2 g A n c zs := hW2 ▸ hm1.alloc _
    have hG2 : w.grownBy W2 (some g) := hW2 ▸ hG1.trans (World.grownBy_alloc w1 _ _)
    have hr2 : W2.heap[w.heap.size]? = some (.cells #[.int .i64 0, .int .u8 0, .int .u8 0, .slice none 0 0] 25 (0, 0)) := hW2 ▸ (Below.heap_alloc w1 _ _ (by omega)).trans hr1
    have ho2 : W2.heap[w.heap.size + 1]? = some (.cells #[.int .i64 6, .int .u8 0, .int .u8 0, .slice none 0 0] 25 (0, 0)) := hW2 ▸ heap_alloc_new_at _ _ (by omega)
    have hs2 : W2.heap.size = w.heap.size + 2 := by rw [← hW2]; simp; omega
    rw [hW2]
    clear hW2 hm1 hG1 hr1 hg1
    have hI := ih g A n c zs W2.drew hm2.drew hL
    obtain ⟨⟨x0, x1, x2, x3⟩, xf0, xf1, xf2, xf3⟩ := four' ho2
    go_region_law (first
      | (refine step_append_lies _ (by rfl) _ _ _ (by rfl) (w.heap.size + 2) 25 i0 (.agg #[.int .i64 0, .int .u8 0, .int .u8 0, .slice none 0 0]) 4 40 Tryz.underlying23 hi hz0 hz1 hz2 rfl (by decide) (.slice none 0 0) 0 [] (by rfl) (World.ownsRow_nil _ _ _ _) ⟨w3.heap.size, 0, none⟩ 1 1 (Tn.cells ⟨x, A3, c3⟩) (by rfl) (by rfl) (World.news_of_block (cs := #[.int .i64 x.kind, .int .u8 x.lo, .int .u8 x.hi, .slice A3 x.kids.length c3]) (t := 25) (fr := (0, 0)) (heap_alloc_new w3 _)) (tn_one1 _) (by decide) (by decide) (by decide) (by simp; omega) (w3.heap.size + 1) (by simp) ?_; intro g' cap' w5 hown5 hgrow5 hat5 hlt5; have ho5 := (hgrow5.block (w.heap.size + 1) (by simp; omega) (by simp [Value.ownBlock])).trans ((Below.heap_alloc w3 _ (w.heap.size + 1) (by omega)).trans ho3); have hr5 := (hgrow5.block w.heap.size (by simp; omega) (by simp [Value.ownBlock])).trans ((Below.heap_alloc w3 _ w.heap.size (by omega)).trans hr3); obtain ⟨⟨z0, z1, z2, z3⟩, zf0, zf1, zf2, zf3⟩ := four' ho5)
      | (go_simp; go_at_call 18; refine Calls.mono hI ?_; clear hI; rintro e' w3 ⟨x, v3, rfl, hv3, hm3, hg3, hwx, hnx⟩; obtain ⟨_, A3, c3, rfl, hc3, hA3, hs3⟩ := hv3.parts; have hy3 := hg3.size; simp at hy3; have ho3 := keepG (b := w.heap.size + 1) hg3 ho2 (by omega); have hr3 := keepG (b := w.heap.size) hg3 hr2 (by omega); obtain ⟨y0, y1, y2, y3⟩ := four ho3; have hyo := fun o : Obj => (cell_old (w := w3) (B := w.heap.size + 1) (i := 3) (by omega) o).trans y3; simp only [rxv]))
    all_goals
      have hG3 := hG2.trans (undrew hg3)
      have hrow5 := RowT.snoc (w1 := w3.alloc (.cells #[.int .i64 x.kind, .int .u8 x.lo, .int .u8 x.hi, .slice A3 x.kids.length c3] 25)) (t := ⟨x, A3, c3⟩) (L := fun b => w.heap.size + 2 ≤ b) (RowT.nil w3 (w.heap.size + 2) _ 25) rfl ((Below.refl _ _).alloc (Nat.le_refl _) _) (RtV.to (fun b hb => ⟨⟨by have := hb.1; simp at this; omega, by have := hb.2; simp; omega, by simp [Value.ownBlock]⟩, Below.heap_alloc w3 _ b hb.2⟩) x hv3) hown5 hgrow5 (by simpa using hat5)
      have hG5 : w.grownBy w5 (some g) := (hG3.trans (World.grownBy_alloc w3 _ _)).trans ⟨hgrow5.os, hgrow5.tape, hgrow5.output, hgrow5.size, fun k hk _ => hgrow5.block k hk (by simp [Value.ownBlock])⟩
      have hm5 : MkAt w5 g A n c zs := (hm3.alloc (.cells #[.int .i64 x.kind, .int .u8 x.lo, .int .u8 x.hi, .slice A3 x.kids.length c3] 25)).below ((Below.refl (g + 1) _).grown hgrow5 (by simp; omega) (fun j ej => by simp [Value.ownBlock] at ej))
      obtain ⟨W6, hW6⟩ : ∃ W6, w5.setCell ⟨w.heap.size + 1, 3, none⟩ (.slice (some ⟨g', 0, none⟩) 1 cap') = W6 := ⟨_, rfl⟩
      have hm6 : MkAt W6 g A n c zs := hW6 ▸ hm5.set (by omega) _ _
      have hG6 : w.grownBy W6 (some g) := hW6 ▸ grown_far1 hG5 (by omega) _ _
      have ho6 : W6.heap[w.heap.size + 1]? = some (.cells #[.int .i64 6, .int .u8 0, .int .u8 0, .slice (some ⟨g', 0, none⟩) 1 cap'] 25 (0, 0)) := by
        rw [← hW6, blk_set ho5 _]; rfl
      have hr6 : W6.heap[w.heap.size]? = some (.cells #[.int .i64 0, .int .u8 0, .int .u8 0, .slice none 0 0] 25 (0, 0)) := by
        rw [← hW6, Below.heap_setCell _ _ _ _ (by simp)]; exact hr5
      have hrow6 : RowT W6 (w.heap.size + 2) (fun b => w.heap.size + 2 ≤ b) 25 (.slice (some ⟨g', 0, none⟩) 1 cap') ([] ++ [⟨x, A3, c3⟩]) := hW6 ▸ hrow5.to (fun _ h => h) (by simp [World.setCell]) (fun b _ hb => Below.heap_setCell _ _ _ b (by simp; omega))
      rw [hW6]
      clear hW6 hrow5 hm5 hm3 hG5 hG3 hr5 ho5 hown5 hgrow5 hat5 z0 z1 z2 z3 zf0 zf1 zf2 zf3 x0 x1 x2 x3 xf0 xf1 xf2 xf3 y0 y1 y2 y3 hr3 ho3 hg3 hv3 hs3
      obtain ⟨x0, x1, x2, x3⟩ := four ho6
      obtain ⟨q0, q1, q2, q3⟩ := four hr6
      have hf6 := four_frozen hr6
      go_wp2_with fail
      refine bodyPost_ret (v := rxv 6 0 0 (some ⟨g', 0, none⟩) 1 cap') (by unfold rxv; simp [results, Tryz.results18, go_sem, q0, q1, q2, q3]) rfl ?_
      exact mk_fin1 (by simp) hm6 hG6 hglt hrow6 hwx (by omega)
  · go_enter Tryz.func18, Tryz.ntmps18
    go_wp2_with (go_at_call 37; refine Calls.mono hC1 ?_; clear hC1; rintro e w1 ⟨rfl, hm1, hg1, hs1⟩; simp at hs1)
    have hG1 : w.grownBy w1 (some g) := (World.grownBy_alloc w _ _).trans hg1
    have hr1 := keepG hg1 (heap_alloc_new w _) (by omega)
    obtain ⟨W2, hW2⟩ : ∃ W2, w1.alloc (.cells #[.int .i64 7, .int .u8 0, .int .u8 0, .slice none 0 0] 25) = W2 := ⟨_, rfl⟩
    have hm2 : MkAt W2 g A n c zs := hW2 ▸ hm1.alloc _
    have hG2 : w.grownBy W2 (some g) := hW2 ▸ hG1.trans (World.grownBy_alloc w1 _ _)
    have hr2 : W2.heap[w.heap.size]? = some (.cells #[.int .i64 0, .int .u8 0, .int .u8 0, .slice none 0 0] 25 (0, 0)) := hW2 ▸ (Below.heap_alloc w1 _ _ (by omega)).trans hr1
    have ho2 : W2.heap[w.heap.size + 1]? = some (.cells #[.int .i64 7, .int .u8 0, .int .u8 0, .slice none 0 0] 25 (0, 0)) := hW2 ▸ heap_alloc_new_at _ _ (by omega)
    have hs2 : W2.heap.size = w.heap.size + 2 := by rw [← hW2]; simp; omega
    rw [hW2]
    clear hW2 hm1 hG1 hr1 hg1
    have hI := ih g A n c zs W2.drew hm2.drew hL
    obtain ⟨⟨x0, x1, x2, x3⟩, xf0, xf1, xf2, xf3⟩ := four' ho2
    go_region_law (first
      | (refine step_append_lies _ (by rfl) _ _ _ (by rfl) (w.heap.size + 2) 25 i0 (.agg #[.int .i64 0, .int .u8 0, .int .u8 0, .slice none 0 0]) 4 40 Tryz.underlying23 hi hz0 hz1 hz2 rfl (by decide) (.slice none 0 0) 0 [] (by rfl) (World.ownsRow_nil _ _ _ _) ⟨w3.heap.size, 0, none⟩ 1 1 (Tn.cells ⟨x, A3, c3⟩) (by rfl) (by rfl) (World.news_of_block (cs := #[.int .i64 x.kind, .int .u8 x.lo, .int .u8 x.hi, .slice A3 x.kids.length c3]) (t := 25) (fr := (0, 0)) (heap_alloc_new w3 _)) (tn_one1 _) (by decide) (by decide) (by decide) (by simp; omega) (w3.heap.size + 1) (by simp) ?_; intro g' cap' w5 hown5 hgrow5 hat5 hlt5; have ho5 := (hgrow5.block (w.heap.size + 1) (by simp; omega) (by simp [Value.ownBlock])).trans ((Below.heap_alloc w3 _ (w.heap.size + 1) (by omega)).trans ho3); have hr5 := (hgrow5.block w.heap.size (by simp; omega) (by simp [Value.ownBlock])).trans ((Below.heap_alloc w3 _ w.heap.size (by omega)).trans hr3); obtain ⟨⟨z0, z1, z2, z3⟩, zf0, zf1, zf2, zf3⟩ := four' ho5)
      | (go_simp; go_at_call 18; refine Calls.mono hI ?_; clear hI; rintro e' w3 ⟨x, v3, rfl, hv3, hm3, hg3, hwx, hnx⟩; obtain ⟨_, A3, c3, rfl, hc3, hA3, hs3⟩ := hv3.parts; have hy3 := hg3.size; simp at hy3; have ho3 := keepG (b := w.heap.size + 1) hg3 ho2 (by omega); have hr3 := keepG (b := w.heap.size) hg3 hr2 (by omega); obtain ⟨y0, y1, y2, y3⟩ := four ho3; have hyo := fun o : Obj => (cell_old (w := w3) (B := w.heap.size + 1) (i := 3) (by omega) o).trans y3; simp only [rxv]))
    all_goals
      have hG3 := hG2.trans (undrew hg3)
      have hrow5 := RowT.snoc (w1 := w3.alloc (.cells #[.int .i64 x.kind, .int .u8 x.lo, .int .u8 x.hi, .slice A3 x.kids.length c3] 25)) (t := ⟨x, A3, c3⟩) (L := fun b => w.heap.size + 2 ≤ b) (RowT.nil w3 (w.heap.size + 2) _ 25) rfl ((Below.refl _ _).alloc (Nat.le_refl _) _) (RtV.to (fun b hb => ⟨⟨by have := hb.1; simp at this; omega, by have := hb.2; simp; omega, by simp [Value.ownBlock]⟩, Below.heap_alloc w3 _ b hb.2⟩) x hv3) hown5 hgrow5 (by simpa using hat5)
      have hG5 : w.grownBy w5 (some g) := (hG3.trans (World.grownBy_alloc w3 _ _)).trans ⟨hgrow5.os, hgrow5.tape, hgrow5.output, hgrow5.size, fun k hk _ => hgrow5.block k hk (by simp [Value.ownBlock])⟩
      have hm5 : MkAt w5 g A n c zs := (hm3.alloc (.cells #[.int .i64 x.kind, .int .u8 x.lo, .int .u8 x.hi, .slice A3 x.kids.length c3] 25)).below ((Below.refl (g + 1) _).grown hgrow5 (by simp; omega) (fun j ej => by simp [Value.ownBlock] at ej))
      obtain ⟨W6, hW6⟩ : ∃ W6, w5.setCell ⟨w.heap.size + 1, 3, none⟩ (.slice (some ⟨g', 0, none⟩) 1 cap') = W6 := ⟨_, rfl⟩
      have hm6 : MkAt W6 g A n c zs := hW6 ▸ hm5.set (by omega) _ _
      have hG6 : w.grownBy W6 (some g) := hW6 ▸ grown_far1 hG5 (by omega) _ _
      have ho6 : W6.heap[w.heap.size + 1]? = some (.cells #[.int .i64 7, .int .u8 0, .int .u8 0, .slice (some ⟨g', 0, none⟩) 1 cap'] 25 (0, 0)) := by
        rw [← hW6, blk_set ho5 _]; rfl
      have hr6 : W6.heap[w.heap.size]? = some (.cells #[.int .i64 0, .int .u8 0, .int .u8 0, .slice none 0 0] 25 (0, 0)) := by
        rw [← hW6, Below.heap_setCell _ _ _ _ (by simp)]; exact hr5
      have hrow6 : RowT W6 (w.heap.size + 2) (fun b => w.heap.size + 2 ≤ b) 25 (.slice (some ⟨g', 0, none⟩) 1 cap') ([] ++ [⟨x, A3, c3⟩]) := hW6 ▸ hrow5.to (fun _ h => h) (by simp [World.setCell]) (fun b _ hb => Below.heap_setCell _ _ _ b (by simp; omega))
      rw [hW6]
      clear hW6 hrow5 hm5 hm3 hG5 hG3 hr5 ho5 hown5 hgrow5 hat5 z0 z1 z2 z3 zf0 zf1 zf2 zf3 x0 x1 x2 x3 xf0 xf1 xf2 xf3 y0 y1 y2 y3 hr3 ho3 hg3 hv3 hs3
      obtain ⟨x0, x1, x2, x3⟩ := four ho6
      obtain ⟨q0, q1, q2, q3⟩ := four hr6
      have hf6 := four_frozen hr6
      go_wp2_with fail
      refine bodyPost_ret (v := rxv 7 0 0 (some ⟨g', 0, none⟩) 1 cap') (by unfold rxv; simp [results, Tryz.results18, go_sem, q0, q1, q2, q3]) rfl ?_
      exact mk_fin1 (by simp) hm6 hG6 hglt hrow6 hwx (by omega)
end Go.Proofs.YtnjkihbmhacgoaaGreatDoor
