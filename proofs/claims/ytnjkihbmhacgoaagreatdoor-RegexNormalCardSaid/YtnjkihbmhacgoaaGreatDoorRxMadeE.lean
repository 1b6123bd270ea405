/-
  THE WALK of the maker's regex where a list of Kids is made: Cat, Alt, All. (Written by gen/genmadeD.py.)
  THE WALK of Made: an expression of numbers, at most 22 nodes, well formed.
-/
import Derived.Test.YtnjkihbmhacgoaaGreatDoorRxMadeC
namespace Go.Proofs.YtnjkihbmhacgoaaGreatDoor
open Go.RowKit

theorem nodesL_app1 (s : List Rx) (x : Rx) : nodesL (s ++ [x]) = nodesL s + nodes x := by rw [nodesL_app]; simp [nodesL]
theorem wfL_snoc {s : List Rx} {x : Rx} (h1 : wfL s = true) (h2 : wfR x = true) : wfL (s ++ [x]) = true := wf_all.2 fun y hy => by
  rcases List.mem_append.1 hy with h | h
  · exact wf_all.1 h1 y h
  · rw [List.mem_singleton.1 h]; exact h2
theorem wf_kids3 {k : Int} (hk : k = 3 ∨ k = 4 ∨ k = 5) {l : List Rx} (h : wfL l = true) : wfR (.node k 0 0 l) = true := by
  rw [wfR_eq]; rcases hk with rfl | rfl | rfl <;> simp [wfK, h]
theorem grown_new {w W W5 : World} {r row : Option Nat} (h : w.grownBy W r) (hg : W.grownBy W5 row) (hr : ∀ j, row = some j → w.heap.size ≤ j) : w.grownBy W5 r :=
  ⟨hg.os.trans h.os, hg.tape.trans h.tape, hg.output.trans h.output, Nat.le_trans h.size hg.size, fun k hk hne =>
    (hg.block k (Nat.lt_of_lt_of_le hk h.size) (fun e => by have := hr k e.symm; omega)).trans (h.block k hk hne)⟩
/-- a row across a maker's call -/
theorem RowT.keepG {w w' : World} {g base : Nat} {L : Nat → Prop} {e : TypeId} {v : Value} {ts : List Tn} (h : RowT w base L e v ts) (hG : w.grownBy w' (some g)) (hg : g < base) (hL : ∀ b, L b → base ≤ b) : RowT w' base L e v ts :=
  h.to (fun _ h => h) hG.size (fun b hb hk => hG.block b hb (fun e => by
    injection e with e
    rcases hk with h1 | h1
    · omega
    · have := hL b h1; omega))

set_option maxHeartbeats 4000000 in
set_option maxRecDepth 100000 in
theorem mreg_many (d : Nat) (hd : d = 2 ∨ d = 3) (ih : MC (d - 1)) (g : Nat) (A : Option Addr) (n c : Nat) (zs : List Int) (w : World) (hmk : MkAt w g A n c zs) (hL : MkL n zs) (kk : Int) (hkk : kk = 3 ∨ kk = 4 ∨ kk = 5) (hC1 : Calls Tryz.prog 37 #[.pointer (some ⟨g, 0, none⟩), .int .i64 (14 : Nat)] (w.alloc (.cells #[.int .i64 0, .int .u8 0, .int .u8 0, .slice none 0 0] 25)) fun e w' => e = .returned (.int .i64 kk) ∧ MkAt w' g A n c zs ∧ (w.alloc (.cells #[.int .i64 0, .int .u8 0, .int .u8 0, .slice none 0 0] 25)).grownBy w' (some g) ∧ w'.heap.size = (w.alloc (.cells #[.int .i64 0, .int .u8 0, .int .u8 0, .slice none 0 0] 25)).heap.size) :
    Calls Tryz.prog 18 #[.pointer (some ⟨g, 0, none⟩), .int .i64 d] w (MPost w g A n c zs (nb d)) := by
  have hglt := hmk.lt
  have hdw : IntKind.i64.wrap ((d : Int) - 1) = ((d - 1 : Nat) : Int) := by simp [IntKind.wrap, IntKind.bits, IntKind.signed]; omega
  have hc1 : decide ((d : Int) < 2) = false := decide_eq_false (by omega)
  have hc4 : ((d : Int) == 4) = false := by simp; omega
  have hnb : Hid (∀ m q : Nat, m < 3 → q ≤ m * nb (d - 1) → q + 1 ≤ nb d) := Lib.hid (fun m q h1 h2 => by rcases hd with rfl | rfl <;> simp only [nb] at * <;> omega)
  clear hd
  obtain ⟨i0, hi, hz0, hz1, hz2⟩ := info_parts info_eRegex
  have hkk' := Lib.hid hkk
  clear hkk
  rcases hkk'.out with rfl | rfl | rfl
  · go_enter Tryz.func18, Tryz.ntmps18
    go_wp2_with (go_at_call 37; refine Calls.mono hC1 ?_; clear hC1; rintro e w1 ⟨rfl, hm1, hg1, hs1⟩; simp at hs1)
    have hG1 : w.grownBy w1 (some g) := (World.grownBy_alloc w _ _).trans hg1
    have hr1 := keepG hg1 (heap_alloc_new w _) (by omega)
    obtain ⟨W2, hW2⟩ : ∃ W2, w1.alloc (.cells #[.int .i64 3, .int .u8 0, .int .u8 0, .slice none 0 0] 25) = W2 := ⟨_, rfl⟩
    have hm2 : MkAt W2 g A n c zs := hW2 ▸ hm1.alloc _
    have hG2 : w.grownBy W2 (some g) := hW2 ▸ hG1.trans (World.grownBy_alloc w1 _ _)
    have hr2 : W2.heap[w.heap.size]? = some (.cells #[.int .i64 0, .int .u8 0, .int .u8 0, .slice none 0 0] 25 (0, 0)) := hW2 ▸ (Below.heap_alloc w1 _ _ (by omega)).trans hr1
    have ho2 : W2.heap[w.heap.size + 1]? = some (.cells #[.int .i64 3, .int .u8 0, .int .u8 0, .slice none 0 0] 25 (0, 0)) := hW2 ▸ heap_alloc_new_at _ _ (by omega)
    have hs2 : W2.heap.size = w.heap.size + 2 := by rw [← hW2]; simp; omega
    rw [hW2]
    clear hW2 hm1 hG1 hr1 hg1
    obtain ⟨k4, hk4, hC4⟩ := hL.next hm2 3 (by decide) (by decide)
    refine Calls.mono hC4 ?_
    clear hC4
    rintro e w4 ⟨rfl, hm4, hg4, hs4⟩
    have hG4 := hG2.trans hg4
    have hr4 := keepG hg4 hr2 (by omega)
    have ho4 := keepG hg4 ho2 (by omega)
    clear hm2 hG2 hr2 ho2 hg4
    dsimp only
    go_wp2_with fail
    have hsz0 : w.heap.size + 2 ≤ w4.heap.size := by omega
    go_loopw [8] (fun i wr => ∃ (j : Nat) (u : Value) (ts : List Tn), j ≤ k4 ∧ i = .int .i64 j ∧ Hid (ts.length = j ∧ wfL (ts.map Tn.x) = true ∧ nodesL (ts.map Tn.x) ≤ j * nb (d - 1)) ∧ wr.heap[w.heap.size]? = some (.cells #[.int .i64 0, .int .u8 0, .int .u8 0, .slice none 0 0] 25 (0, 0)) ∧
        wr.heap[w.heap.size + 1]? = some (.cells #[.int .i64 3, .int .u8 0, .int .u8 0, u] 25 (0, 0)) ∧ RowT wr (w.heap.size + 2) (fun b => w.heap.size + 2 ≤ b) 25 u ts ∧ MkAt wr g A n c zs ∧ w.grownBy wr (some g) ∧ w.heap.size + 2 ≤ wr.heap.size) (fun i _ => k4 - (intOf i).toNat)
    case atStart => exact ⟨0, .slice none 0 0, [], Nat.zero_le _, rfl, Lib.hid ⟨rfl, rfl, by simp [nodesL]⟩, hr4, ho4, RowT.nil _ _ _ _, hm4, hG4, hsz0⟩
    case round =>
      obtain ⟨j, u, ts, hj, rfl, hts, hr, ho, hrow, hm, hG, hsz⟩ := hrel
      clear hr4 ho4 hm4 hG4 hsz0
      by_cases hlt : j < k4
      · have hI := ih g A n c zs wr.drew hm.drew hL
        obtain ⟨⟨x0, x1, x2, x3⟩, xf0, xf1, xf2, xf3⟩ := four' ho
        have htl := hts.out.1
        subst htl
        go_wp2_with fail
        go_region_law (first
          | (refine step_append_lies _ (by rfl) _ _ _ (by rfl) (w.heap.size + 2) 25 i0 (.agg #[.int .i64 0, .int .u8 0, .int .u8 0, .slice none 0 0]) 4 40 Tryz.underlying23 hi hz0 hz1 hz2 rfl (by decide) u ts.length (ts.flatMap Tn.cells) (by rfl) (hrow3.1.alloc _) ⟨w3.heap.size, 0, none⟩ 1 1 (Tn.cells ⟨x, A3, c3⟩) (by rfl) (by rfl) (World.news_of_block (cs := #[.int .i64 x.kind, .int .u8 x.lo, .int .u8 x.hi, .slice A3 x.kids.length c3]) (t := 25) (fr := (0, 0)) (heap_alloc_new w3 _)) (tn_one1 _) (by decide) (by unfold maxLen; omega) (by omega) (by simp; omega) (w3.heap.size + 1) (by simp) ?_; intro g' cap' w5 hown5 hgrow5 hat5 hlt5; have ho5 := (hgrow5.block (w.heap.size + 1) (by simp; omega) (fun e => by have := hrow3.blk _ e.symm; omega)).trans ((Below.heap_alloc w3 _ (w.heap.size + 1) (by omega)).trans ho3); have hr5 := (hgrow5.block w.heap.size (by simp; omega) (fun e => by have := hrow3.blk _ e.symm; omega)).trans ((Below.heap_alloc w3 _ w.heap.size (by omega)).trans hr3); obtain ⟨⟨z0, z1, z2, z3⟩, zf0, zf1, zf2, zf3⟩ := four' ho5)
          | (go_simp; go_at_call 18; refine Calls.mono hI ?_; clear hI; rintro e' w3 ⟨x, v3, rfl, hv3, hm3, hg3, hwx, hnx⟩; obtain ⟨_, A3, c3, rfl, hc3, hA3, hs3⟩ := hv3.parts; have hy3 := hg3.size; simp at hy3; have ho3 := keepG (b := w.heap.size + 1) hg3 ho (by omega); have hr3 := keepG (b := w.heap.size) hg3 hr (by omega); have hrow3 := hrow.keepG (undrew hg3) (by omega) (fun _ h => h); obtain ⟨y0, y1, y2, y3⟩ := four ho3; have hyo := fun o : Obj => (cell_old (w := w3) (B := w.heap.size + 1) (i := 3) (by omega) o).trans y3; simp only [rxv]))
        all_goals
          have hG3 := hG.trans (undrew hg3)
          have hrow5 := RowT.snoc (w1 := w3.alloc (.cells #[.int .i64 x.kind, .int .u8 x.lo, .int .u8 x.hi, .slice A3 x.kids.length c3] 25)) (t := ⟨x, A3, c3⟩) hrow3 rfl ((Below.refl _ _).alloc (Nat.le_refl _) _) (RtV.to (fun b hb => ⟨⟨by have := hb.1; simp at this; omega, by have := hb.2; simp; omega, fun e => by have h6 := (own_blk_lt hrow.1 e).2; have h7 := hb.1; simp at h7; omega⟩, Below.heap_alloc w3 _ b hb.2⟩) x hv3) hown5 hgrow5 (by simpa using hat5)
          have hG5 : w.grownBy w5 (some g) := grown_new (hG3.trans (World.grownBy_alloc w3 _ _)) hgrow5 (fun j ej => by have := hrow3.blk _ ej; omega)
          have hm5 : MkAt w5 g A n c zs := (hm3.alloc (.cells #[.int .i64 x.kind, .int .u8 x.lo, .int .u8 x.hi, .slice A3 x.kids.length c3] 25)).below ((Below.refl (g + 1) _).grown hgrow5 (by simp; omega) (fun j ej => by have := hrow3.blk _ ej; omega))
          have hs5 := hgrow5.size
          simp at hs5
          go_wp2
          go_roundw
          case rel =>
            refine ⟨ts.length + 1, .slice (some ⟨g', 0, none⟩) (ts.length + 1) cap', ts ++ [⟨x, A3, c3⟩], by omega, by go_num, Lib.hid ⟨by simp, by rw [List.map_append]; exact wfL_snoc hts.out.2.1 hwx, ?_⟩, ?_, ?_, ?_, hm5.set (by omega) _ _, grown_far1 hG5 (by omega) _ _, by simp [World.setCell]; omega⟩
            · rw [List.map_append]
              show nodesL (ts.map Tn.x ++ [x]) ≤ _
              rw [nodesL_app1, Nat.succ_mul]
              have := hts.out.2.2
              omega
            · rw [Below.heap_setCell _ _ _ _ (by simp)]; exact hr5
            · rw [blk_set ho5 _]; rfl
            · exact hrow5.to (fun _ h => h) (by simp [World.setCell]) (fun b _ hb => Below.heap_setCell _ _ _ b (by simp; omega))
          case measure => simp [intOf]; omega
      · obtain rfl : j = k4 := by omega
        obtain ⟨x0, x1, x2, x3⟩ := four ho
        obtain ⟨q0, q1, q2, q3⟩ := four hr
        have hfr := four_frozen hr
        obtain ⟨A1, c1, rfl⟩ := hrow.val
        go_wp2_with fail
        refine bodyPost_ret (v := rxv 3 0 0 A1 ts.length c1) (by unfold rxv; simp [results, Tryz.results18, go_sem, q0, q1, q2, q3]) rfl ?_
        exact mk_finK (by omega) hm hG hglt hrow (wf_kids3 (by simp) hts.out.2.1) (by simp only [nodes]; exact hnb.out j _ (by omega) hts.out.2.2) (by have := hts.out.1; omega)
  · go_enter Tryz.func18, Tryz.ntmps18
    go_wp2_with (go_at_call 37; refine Calls.mono hC1 ?_; clear hC1; rintro e w1 ⟨rfl, hm1, hg1, hs1⟩; simp at hs1)
    have hG1 : w.grownBy w1 (some g) := (World.grownBy_alloc w _ _).trans hg1
    have hr1 := keepG hg1 (heap_alloc_new w _) (by omega)
    obtain ⟨W2, hW2⟩ : ∃ W2, w1.alloc (.cells #[.int .i64 4, .int .u8 0, .int .u8 0, .slice none 0 0] 25) = W2 := ⟨_, rfl⟩
    have hm2 : MkAt W2 g A n c zs := hW2 ▸ hm1.alloc _
    have hG2 : w.grownBy W2 (some g) := hW2 ▸ hG1.trans (World.grownBy_alloc w1 _ _)
    have hr2 : W2.heap[w.heap.size]? = some (.cells #[.int .i64 0, .int .u8 0, .int .u8 0, .slice none 0 0] 25 (0, 0)) := hW2 ▸ (Below.heap_alloc w1 _ _ (by omega)).trans hr1
    have ho2 : W2.heap[w.heap.size + 1]? = some (.cells #[.int .i64 4, .int .u8 0, .int .u8 0, .slice none 0 0] 25 (0, 0)) := hW2 ▸ heap_alloc_new_at _ _ (by omega)
    have hs2 : W2.heap.size = w.heap.size + 2 := by rw [← hW2]; simp; omega
    rw [hW2]
    clear hW2 hm1 hG1 hr1 hg1
    obtain ⟨k4, hk4, hC4⟩ := hL.next hm2 3 (by decide) (by decide)
    refine Calls.mono hC4 ?_
    clear hC4
    rintro e w4 ⟨rfl, hm4, hg4, hs4⟩
    have hG4 := hG2.trans hg4
    have hr4 := keepG hg4 hr2 (by omega)
    have ho4 := keepG hg4 ho2 (by omega)
    clear hm2 hG2 hr2 ho2 hg4
    dsimp only
    go_wp2_with fail
    have hsz0 : w.heap.size + 2 ≤ w4.heap.size := by omega
    go_loopw [8] (fun i wr => ∃ (j : Nat) (u : Value) (ts : List Tn), j ≤ k4 ∧ i = .int .i64 j ∧ Hid (ts.length = j ∧ wfL (ts.map Tn.x) = true ∧ nodesL (ts.map Tn.x) ≤ j * nb (d - 1)) ∧ wr.heap[w.heap.size]? = some (.cells #[.int .i64 0, .int .u8 0, .int .u8 0, .slice none 0 0] 25 (0, 0)) ∧
        wr.heap[w.heap.size + 1]? = some (.cells #[.int .i64 4, .int .u8 0, .int .u8 0, u] 25 (0, 0)) ∧ RowT wr (w.heap.size + 2) (fun b => w.heap.size + 2 ≤ b) 25 u ts ∧ MkAt wr g A n c zs ∧ w.grownBy wr (some g) ∧ w.heap.size + 2 ≤ wr.heap.size) (fun i _ => k4 - (intOf i).toNat)
    case atStart => exact ⟨0, .slice none 0 0, [], Nat.zero_le _, rfl, Lib.hid ⟨rfl, rfl, by simp [nodesL]⟩, hr4, ho4, RowT.nil _ _ _ _, hm4, hG4, hsz0⟩
    case round =>
      obtain ⟨j, u, ts, hj, rfl, hts, hr, ho, hrow, hm, hG, hsz⟩ := hrel
      clear hr4 ho4 hm4 hG4 hsz0
      by_cases hlt : j < k4
      · have hI := ih g A n c zs wr.drew hm.drew hL
        obtain ⟨⟨x0, x1, x2, x3⟩, xf0, xf1, xf2, xf3⟩ := four' ho
        have htl := hts.out.1
        subst htl
        go_wp2_with fail
        go_region_law (first
          | (refine step_append_lies _ (by rfl) _ _ _ (by rfl) (w.heap.size + 2) 25 i0 (.agg #[.int .i64 0, .int .u8 0, .int .u8 0, .slice none 0 0]) 4 40 Tryz.underlying23 hi hz0 hz1 hz2 rfl (by decide) u ts.length (ts.flatMap Tn.cells) (by rfl) (hrow3.1.alloc _) ⟨w3.heap.size, 0, none⟩ 1 1 (Tn.cells ⟨x, A3, c3⟩) (by rfl) (by rfl) (World.news_of_block (cs := #[.int .i64 x.kind, .int .u8 x.lo, .int .u8 x.hi, .slice A3 x.kids.length c3]) (t := 25) (fr := (0, 0)) (heap_alloc_new w3 _)) (tn_one1 _) (by decide) (by unfold maxLen; omega) (by omega) (by simp; omega) (w3.heap.size + 1) (by simp) ?_; intro g' cap' w5 hown5 hgrow5 hat5 hlt5; have ho5 := (hgrow5.block (w.heap.size + 1) (by simp; omega) (fun e => by have := hrow3.blk _ e.symm; omega)).trans ((Below.heap_alloc w3 _ (w.heap.size + 1) (by omega)).trans ho3); have hr5 := (hgrow5.block w.heap.size (by simp; omega) (fun e => by have := hrow3.blk _ e.symm; omega)).trans ((Below.heap_alloc w3 _ w.heap.size (by omega)).trans hr3); obtain ⟨⟨z0, z1, z2, z3⟩, zf0, zf1, zf2, zf3⟩ := four' ho5)
          | (go_simp; go_at_call 18; refine Calls.mono hI ?_; clear hI; rintro e' w3 ⟨x, v3, rfl, hv3, hm3, hg3, hwx, hnx⟩; obtain ⟨_, A3, c3, rfl, hc3, hA3, hs3⟩ := hv3.parts; have hy3 := hg3.size; simp at hy3; have ho3 := keepG (b := w.heap.size + 1) hg3 ho (by omega); have hr3 := keepG (b := w.heap.size) hg3 hr (by omega); have hrow3 := hrow.keepG (undrew hg3) (by omega) (fun _ h => h); obtain ⟨y0, y1, y2, y3⟩ := four ho3; have hyo := fun o : Obj => (cell_old (w := w3) (B := w.heap.size + 1) (i := 3) (by omega) o).trans y3; simp only [rxv]))
        all_goals
          have hG3 := hG.trans (undrew hg3)
          have hrow5 := RowT.snoc (w1 := w3.alloc (.cells #[.int .i64 x.kind, .int .u8 x.lo, .int .u8 x.hi, .slice A3 x.kids.length c3] 25)) (t := ⟨x, A3, c3⟩) hrow3 rfl ((Below.refl _ _).alloc (Nat.le_refl _) _) (RtV.to (fun b hb => ⟨⟨by have := hb.1; simp at this; omega, by have := hb.2; simp; omega, fun e => by have h6 := (own_blk_lt hrow.1 e).2; have h7 := hb.1; simp at h7; omega⟩, Below.heap_alloc w3 _ b hb.2⟩) x hv3) hown5 hgrow5 (by simpa using hat5)
          have hG5 : w.grownBy w5 (some g) := grown_new (hG3.trans (World.grownBy_alloc w3 _ _)) hgrow5 (fun j ej => by have := hrow3.blk _ ej; omega)
          have hm5 : MkAt w5 g A n c zs := (hm3.alloc (.cells #[.int .i64 x.kind, .int .u8 x.lo, .int .u8 x.hi, .slice A3 x.kids.length c3] 25)).below ((Below.refl (g + 1) _).grown hgrow5 (by simp; omega) (fun j ej => by have := hrow3.blk _ ej; omega))
          have hs5 := hgrow5.size
          simp at hs5
          go_wp2
          go_roundw
          case rel =>
            refine ⟨ts.length + 1, .slice (some ⟨g', 0, none⟩) (ts.length + 1) cap', ts ++ [⟨x, A3, c3⟩], by omega, by go_num, Lib.hid ⟨by simp, by rw [List.map_append]; exact wfL_snoc hts.out.2.1 hwx, ?_⟩, ?_, ?_, ?_, hm5.set (by omega) _ _, grown_far1 hG5 (by omega) _ _, by simp [World.setCell]; omega⟩
            · rw [List.map_append]
              show nodesL (ts.map Tn.x ++ [x]) ≤ _
              rw [nodesL_app1, Nat.succ_mul]
              have := hts.out.2.2
              omega
            · rw [Below.heap_setCell _ _ _ _ (by simp)]; exact hr5
            · rw [blk_set ho5 _]; rfl
            · exact hrow5.to (fun _ h => h) (by simp [World.setCell]) (fun b _ hb => Below.heap_setCell _ _ _ b (by simp; omega))
          case measure => simp [intOf]; omega
      · obtain rfl : j = k4 := by omega
        obtain ⟨x0, x1, x2, x3⟩ := four ho
        obtain ⟨q0, q1, q2, q3⟩ := four hr
        have hfr := four_frozen hr
        obtain ⟨A1, c1, rfl⟩ := hrow.val
        go_wp2_with fail
        refine bodyPost_ret (v := rxv 4 0 0 A1 ts.length c1) (by unfold rxv; simp [results, Tryz.results18, go_sem, q0, q1, q2, q3]) rfl ?_
        exact mk_finK (by omega) hm hG hglt hrow (wf_kids3 (by simp) hts.out.2.1) (by simp only [nodes]; exact hnb.out j _ (by omega) hts.out.2.2) (by have := hts.out.1; omega)
  · go_enter Tryz.func18, Tryz.ntmps18
    go_wp2_with (go_at_call 37; refine Calls.mono hC1 ?_; clear hC1; rintro e w1 ⟨rfl, hm1, hg1, hs1⟩; simp at hs1)
    have hG1 : w.grownBy w1 (some g) := (World.grownBy_alloc w _ _).trans hg1
    have hr1 := keepG hg1 (heap_alloc_new w _) (by omega)
    obtain ⟨W2, hW2⟩ : ∃ W2, w1.alloc (.cells #[.int .i64 5, .int .u8 0, .int .u8 0, .slice none 0 0] 25) = W2 := ⟨_, rfl⟩
    have hm2 : MkAt W2 g A n c zs := hW2 ▸ hm1.alloc _
    have hG2 : w.grownBy W2 (some g) := hW2 ▸ hG1.trans (World.grownBy_alloc w1 _ _)
    have hr2 : W2.heap[w.heap.size]? = some (.cells #[.int .i64 0, .int .u8 0, .int .u8 0, .slice none 0 0] 25 (0, 0)) := hW2 ▸ (Below.heap_alloc w1 _ _ (by omega)).trans hr1
    have ho2 : W2.heap[w.heap.size + 1]? = some (.cells #[.int .i64 5, .int .u8 0, .int .u8 0, .slice none 0 0] 25 (0, 0)) := hW2 ▸ heap_alloc_new_at _ _ (by omega)
    have hs2 : W2.heap.size = w.heap.size + 2 := by rw [← hW2]; simp; omega
    rw [hW2]
    clear hW2 hm1 hG1 hr1 hg1
    obtain ⟨k4, hk4, hC4⟩ := hL.next hm2 3 (by decide) (by decide)
    refine Calls.mono hC4 ?_
    clear hC4
    rintro e w4 ⟨rfl, hm4, hg4, hs4⟩
    have hG4 := hG2.trans hg4
    have hr4 := keepG hg4 hr2 (by omega)
    have ho4 := keepG hg4 ho2 (by omega)
    clear hm2 hG2 hr2 ho2 hg4
    dsimp only
    go_wp2_with fail
    have hsz0 : w.heap.size + 2 ≤ w4.heap.size := by omega
    go_loopw [8] (fun i wr => ∃ (j : Nat) (u : Value) (ts : List Tn), j ≤ k4 ∧ i = .int .i64 j ∧ Hid (ts.length = j ∧ wfL (ts.map Tn.x) = true ∧ nodesL (ts.map Tn.x) ≤ j * nb (d - 1)) ∧ wr.heap[w.heap.size]? = some (.cells #[.int .i64 0, .int .u8 0, .int .u8 0, .slice none 0 0] 25 (0, 0)) ∧
        wr.heap[w.heap.size + 1]? = some (.cells #[.int .i64 5, .int .u8 0, .int .u8 0, u] 25 (0, 0)) ∧ RowT wr (w.heap.size + 2) (fun b => w.heap.size + 2 ≤ b) 25 u ts ∧ MkAt wr g A n c zs ∧ w.grownBy wr (some g) ∧ w.heap.size + 2 ≤ wr.heap.size) (fun i _ => k4 - (intOf i).toNat)
    case atStart => exact ⟨0, .slice none 0 0, [], Nat.zero_le _, rfl, Lib.hid ⟨rfl, rfl, by simp [nodesL]⟩, hr4, ho4, RowT.nil _ _ _ _, hm4, hG4, hsz0⟩
    case round =>
      obtain ⟨j, u, ts, hj, rfl, hts, hr, ho, hrow, hm, hG, hsz⟩ := hrel
      clear hr4 ho4 hm4 hG4 hsz0
      by_cases hlt : j < k4
      · have hI := ih g A n c zs wr.drew hm.drew hL
        obtain ⟨⟨x0, x1, x2, x3⟩, xf0, xf1, xf2, xf3⟩ := four' ho
        have htl := hts.out.1
        subst htl
        go_wp2_with fail
        go_region_law (first
          | (refine step_append_lies _ (by rfl) _ _ _ (by rfl) (w.heap.size + 2) 25 i0 (.agg #[.int .i64 0, .int .u8 0, .int .u8 0, .slice none 0 0]) 4 40 Tryz.underlying23 hi hz0 hz1 hz2 rfl (by decide) u ts.length (ts.flatMap Tn.cells) (by rfl) (hrow3.1.alloc _) ⟨w3.heap.size, 0, none⟩ 1 1 (Tn.cells ⟨x, A3, c3⟩) (by rfl) (by rfl) (World.news_of_block (cs := #[.int .i64 x.kind, .int .u8 x.lo, .int .u8 x.hi, .slice A3 x.kids.length c3]) (t := 25) (fr := (0, 0)) (heap_alloc_new w3 _)) (tn_one1 _) (by decide) (by unfold maxLen; omega) (by omega) (by simp; omega) (w3.heap.size + 1) (by simp) ?_; intro g' cap' w5 hown5 hgrow5 hat5 hlt5; have ho5 := (hgrow5.block (w.heap.size + 1) (by simp; omega) (fun e => by have := hrow3.blk _ e.symm; omega)).trans ((Below.heap_alloc w3 _ (w.heap.size + 1) (by omega)).trans ho3); have hr5 := (hgrow5.block w.heap.size (by simp; omega) (fun e => by have := hrow3.blk _ e.symm; omega)).trans ((Below.heap_alloc w3 _ w.heap.size (by omega)).trans hr3); obtain ⟨⟨z0, z1, z2, z3⟩, zf0, zf1, zf2, zf3⟩ := four' ho5)
          | (go_simp; go_at_call 18; refine Calls.mono hI ?_; clear hI; rintro e' w3 ⟨x, v3, rfl, hv3, hm3, hg3, hwx, hnx⟩; obtain ⟨_, A3, c3, rfl, hc3, hA3, hs3⟩ := hv3.parts; have hy3 := hg3.size; simp at hy3; have ho3 := keepG (b := w.heap.size + 1) hg3 ho (by omega); have hr3 := keepG (b := w.heap.size) hg3 hr (by omega); have hrow3 := hrow.keepG (undrew hg3) (by omega) (fun _ h => h); obtain ⟨y0, y1, y2, y3⟩ := four ho3; have hyo := fun o : Obj => (cell_old (w := w3) (B := w.heap.size + 1) (i := 3) (by omega) o).trans y3; simp only [rxv]))
        all_goals
          have hG3 := hG.trans (undrew hg3)
          have hrow5 := RowT.snoc (w1 := w3.alloc (.cells #[.int .i64 x.kind, .int .u8 x.lo, .int .u8 x.hi, .slice A3 x.kids.length c3] 25)) (t := ⟨x, A3, c3⟩) hrow3 rfl ((Below.refl _ _).alloc (Nat.le_refl _) _) (RtV.to (fun b hb => ⟨⟨by have := hb.1; simp at this; omega, by have := hb.2; simp; omega, fun e => by have h6 := (own_blk_lt hrow.1 e).2; have h7 := hb.1; simp at h7; omega⟩, Below.heap_alloc w3 _ b hb.2⟩) x hv3) hown5 hgrow5 (by simpa using hat5)
          have hG5 : w.grownBy w5 (some g) := grown_new (hG3.trans (World.grownBy_alloc w3 _ _)) hgrow5 (fun j ej => by have := hrow3.blk _ ej; omega)
          have hm5 : MkAt w5 g A n c zs := (hm3.alloc (.cells #[.int .i64 x.kind, .int .u8 x.lo, .int .u8 x.hi, .slice A3 x.kids.length c3] 25)).below ((Below.refl (g + 1) _).grown hgrow5 (by simp; omega) (fun j ej => by have := hrow3.blk _ ej; omega))
          have hs5 := hgrow5.size
          simp at hs5
          go_wp2
          go_roundw
          case rel =>
            refine ⟨ts.length + 1, .slice (some ⟨g', 0, none⟩) (ts.length + 1) cap', ts ++ [⟨x, A3, c3⟩], by omega, by go_num, Lib.hid ⟨by simp, by rw [List.map_append]; exact wfL_snoc hts.out.2.1 hwx, ?_⟩, ?_, ?_, ?_, hm5.set (by omega) _ _, grown_far1 hG5 (by omega) _ _, by simp [World.setCell]; omega⟩
            · rw [List.map_append]
              show nodesL (ts.map Tn.x ++ [x]) ≤ _
              rw [nodesL_app1, Nat.succ_mul]
              have := hts.out.2.2
              omega
            · rw [Below.heap_setCell _ _ _ _ (by simp)]; exact hr5
            · rw [blk_set ho5 _]; rfl
            · exact hrow5.to (fun _ h => h) (by simp [World.setCell]) (fun b _ hb => Below.heap_setCell _ _ _ b (by simp; omega))
          case measure => simp [intOf]; omega
      · obtain rfl : j = k4 := by omega
        obtain ⟨x0, x1, x2, x3⟩ := four ho
        obtain ⟨q0, q1, q2, q3⟩ := four hr
        have hfr := four_frozen hr
        obtain ⟨A1, c1, rfl⟩ := hrow.val
        go_wp2_with fail
        refine bodyPost_ret (v := rxv 5 0 0 A1 ts.length c1) (by unfold rxv; simp [results, Tryz.results18, go_sem, q0, q1, q2, q3]) rfl ?_
        exact mk_finK (by omega) hm hG hglt hrow (wf_kids3 (by simp) hts.out.2.1) (by simp only [nodes]; exact hnb.out j _ (by omega) hts.out.2.2) (by have := hts.out.1; omega)

set_option maxHeartbeats 4000000 in
set_option maxRecDepth 100000 in
theorem mreg_many4 (d : Nat) (hd : d = 4) (ih : MC (d - 1)) (g : Nat) (A : Option Addr) (n c : Nat) (zs : List Int) (w : World) (hmk : MkAt w g A n c zs) (hL : MkL n zs) (kk : Int) (hkk : kk = 3 ∨ kk = 4 ∨ kk = 5) (hC1 : Calls Tryz.prog 37 #[.pointer (some ⟨g, 0, none⟩), .int .i64 (14 : Nat)] (w.alloc (.cells #[.int .i64 0, .int .u8 0, .int .u8 0, .slice none 0 0] 25)) fun e w' => e = .returned (.int .i64 kk) ∧ MkAt w' g A n c zs ∧ (w.alloc (.cells #[.int .i64 0, .int .u8 0, .int .u8 0, .slice none 0 0] 25)).grownBy w' (some g) ∧ w'.heap.size = (w.alloc (.cells #[.int .i64 0, .int .u8 0, .int .u8 0, .slice none 0 0] 25)).heap.size) :
    Calls Tryz.prog 18 #[.pointer (some ⟨g, 0, none⟩), .int .i64 d] w (MPost w g A n c zs (nb d)) := by
  have hglt := hmk.lt
  have hdw : IntKind.i64.wrap ((d : Int) - 1) = ((d - 1 : Nat) : Int) := by simp [IntKind.wrap, IntKind.bits, IntKind.signed]; omega
  have hc1 : decide ((d : Int) < 2) = false := decide_eq_false (by omega)
  have hc4 : ((d : Int) == 4) = true := by simp; omega
  have hnb : Hid (∀ m q : Nat, m < 4 → q ≤ m * nb (d - 1) → q + 1 ≤ nb d) := Lib.hid (fun m q h1 h2 => by subst hd; simp only [nb] at *; omega)
  clear hd
  obtain ⟨i0, hi, hz0, hz1, hz2⟩ := info_parts info_eRegex
  have hkk' := Lib.hid hkk
  clear hkk
  rcases hkk'.out with rfl | rfl | rfl
  · go_enter Tryz.func18, Tryz.ntmps18
    go_wp2_with (go_at_call 37; refine Calls.mono hC1 ?_; clear hC1; rintro e w1 ⟨rfl, hm1, hg1, hs1⟩; simp at hs1)
    have hG1 : w.grownBy w1 (some g) := (World.grownBy_alloc w _ _).trans hg1
    have hr1 := keepG hg1 (heap_alloc_new w _) (by omega)
    obtain ⟨W2, hW2⟩ : ∃ W2, w1.alloc (.cells #[.int .i64 3, .int .u8 0, .int .u8 0, .slice none 0 0] 25) = W2 := ⟨_, rfl⟩
    have hm2 : MkAt W2 g A n c zs := hW2 ▸ hm1.alloc _
    have hG2 : w.grownBy W2 (some g) := hW2 ▸ hG1.trans (World.grownBy_alloc w1 _ _)
    have hr2 : W2.heap[w.heap.size]? = some (.cells #[.int .i64 0, .int .u8 0, .int .u8 0, .slice none 0 0] 25 (0, 0)) := hW2 ▸ (Below.heap_alloc w1 _ _ (by omega)).trans hr1
    have ho2 : W2.heap[w.heap.size + 1]? = some (.cells #[.int .i64 3, .int .u8 0, .int .u8 0, .slice none 0 0] 25 (0, 0)) := hW2 ▸ heap_alloc_new_at _ _ (by omega)
    have hs2 : W2.heap.size = w.heap.size + 2 := by rw [← hW2]; simp; omega
    rw [hW2]
    clear hW2 hm1 hG1 hr1 hg1
    obtain ⟨k4, hk4, hC4⟩ := hL.next hm2 3 (by decide) (by decide)
    refine Calls.mono hC4 ?_
    clear hC4
    rintro e w4 ⟨rfl, hm4, hg4, hs4⟩
    have hG4 := hG2.trans hg4
    have hr4 := keepG hg4 hr2 (by omega)
    have ho4 := keepG hg4 ho2 (by omega)
    clear hm2 hG2 hr2 ho2 hg4
    dsimp only
    go_wp2_with fail
    obtain ⟨k5, hk5, hC5⟩ := hL.next hm4 4 (by decide) (by decide)
    refine Calls.mono hC5 ?_
    clear hC5
    rintro e w5 ⟨rfl, hm5, hg5, hs5⟩
    have hG5 := hG4.trans hg5
    have hr5 := keepG hg5 hr4 (by omega)
    have ho5 := keepG hg5 ho4 (by omega)
    clear hm4 hG4 hr4 ho4 hg5
    dsimp only
    go_wp2_with fail
    have hsz0 : w.heap.size + 2 ≤ w5.heap.size := by omega
    go_loopw [8] (fun i wr => ∃ (j : Nat) (u : Value) (ts : List Tn), j ≤ k5 ∧ i = .int .i64 j ∧ Hid (ts.length = j ∧ wfL (ts.map Tn.x) = true ∧ nodesL (ts.map Tn.x) ≤ j * nb (d - 1)) ∧ wr.heap[w.heap.size]? = some (.cells #[.int .i64 0, .int .u8 0, .int .u8 0, .slice none 0 0] 25 (0, 0)) ∧
        wr.heap[w.heap.size + 1]? = some (.cells #[.int .i64 3, .int .u8 0, .int .u8 0, u] 25 (0, 0)) ∧ RowT wr (w.heap.size + 2) (fun b => w.heap.size + 2 ≤ b) 25 u ts ∧ MkAt wr g A n c zs ∧ w.grownBy wr (some g) ∧ w.heap.size + 2 ≤ wr.heap.size) (fun i _ => k5 - (intOf i).toNat)
    case atStart => exact ⟨0, .slice none 0 0, [], Nat.zero_le _, rfl, Lib.hid ⟨rfl, rfl, by simp [nodesL]⟩, hr5, ho5, RowT.nil _ _ _ _, hm5, hG5, hsz0⟩
    case round =>
      obtain ⟨j, u, ts, hj, rfl, hts, hr, ho, hrow, hm, hG, hsz⟩ := hrel
      clear hr5 ho5 hm5 hG5 hsz0
      by_cases hlt : j < k5
      · have hI := ih g A n c zs wr.drew hm.drew hL
        obtain ⟨⟨x0, x1, x2, x3⟩, xf0, xf1, xf2, xf3⟩ := four' ho
        have htl := hts.out.1
        subst htl
        go_wp2_with fail
        go_region_law (first
          | (refine step_append_lies _ (by rfl) _ _ _ (by rfl) (w.heap.size + 2) 25 i0 (.agg #[.int .i64 0, .int .u8 0, .int .u8 0, .slice none 0 0]) 4 40 Tryz.underlying23 hi hz0 hz1 hz2 rfl (by decide) u ts.length (ts.flatMap Tn.cells) (by rfl) (hrow3.1.alloc _) ⟨w3.heap.size, 0, none⟩ 1 1 (Tn.cells ⟨x, A3, c3⟩) (by rfl) (by rfl) (World.news_of_block (cs := #[.int .i64 x.kind, .int .u8 x.lo, .int .u8 x.hi, .slice A3 x.kids.length c3]) (t := 25) (fr := (0, 0)) (heap_alloc_new w3 _)) (tn_one1 _) (by decide) (by unfold maxLen; omega) (by omega) (by simp; omega) (w3.heap.size + 1) (by simp) ?_; intro g' cap' w5 hown5 hgrow5 hat5 hlt5; have ho5 := (hgrow5.block (w.heap.size + 1) (by simp; omega) (fun e => by have := hrow3.blk _ e.symm; omega)).trans ((Below.heap_alloc w3 _ (w.heap.size + 1) (by omega)).trans ho3); have hr5 := (hgrow5.block w.heap.size (by simp; omega) (fun e => by have := hrow3.blk _ e.symm; omega)).trans ((Below.heap_alloc w3 _ w.heap.size (by omega)).trans hr3); obtain ⟨⟨z0, z1, z2, z3⟩, zf0, zf1, zf2, zf3⟩ := four' ho5)
          | (go_simp; go_at_call 18; refine Calls.mono hI ?_; clear hI; rintro e' w3 ⟨x, v3, rfl, hv3, hm3, hg3, hwx, hnx⟩; obtain ⟨_, A3, c3, rfl, hc3, hA3, hs3⟩ := hv3.parts; have hy3 := hg3.size; simp at hy3; have ho3 := keepG (b := w.heap.size + 1) hg3 ho (by omega); have hr3 := keepG (b := w.heap.size) hg3 hr (by omega); have hrow3 := hrow.keepG (undrew hg3) (by omega) (fun _ h => h); obtain ⟨y0, y1, y2, y3⟩ := four ho3; have hyo := fun o : Obj => (cell_old (w := w3) (B := w.heap.size + 1) (i := 3) (by omega) o).trans y3; simp only [rxv]))
        all_goals
          have hG3 := hG.trans (undrew hg3)
          have hrow5 := RowT.snoc (w1 := w3.alloc (.cells #[.int .i64 x.kind, .int .u8 x.lo, .int .u8 x.hi, .slice A3 x.kids.length c3] 25)) (t := ⟨x, A3, c3⟩) hrow3 rfl ((Below.refl _ _).alloc (Nat.le_refl _) _) (RtV.to (fun b hb => ⟨⟨by have := hb.1; simp at this; omega, by have := hb.2; simp; omega, fun e => by have h6 := (own_blk_lt hrow.1 e).2; have h7 := hb.1; simp at h7; omega⟩, Below.heap_alloc w3 _ b hb.2⟩) x hv3) hown5 hgrow5 (by simpa using hat5)
          have hG5 : w.grownBy w5 (some g) := grown_new (hG3.trans (World.grownBy_alloc w3 _ _)) hgrow5 (fun j ej => by have := hrow3.blk _ ej; omega)
          have hm5 : MkAt w5 g A n c zs := (hm3.alloc (.cells #[.int .i64 x.kind, .int .u8 x.lo, .int .u8 x.hi, .slice A3 x.kids.length c3] 25)).below ((Below.refl (g + 1) _).grown hgrow5 (by simp; omega) (fun j ej => by have := hrow3.blk _ ej; omega))
          have hs5 := hgrow5.size
          simp at hs5
          go_wp2
          go_roundw
          case rel =>
            refine ⟨ts.length + 1, .slice (some ⟨g', 0, none⟩) (ts.length + 1) cap', ts ++ [⟨x, A3, c3⟩], by omega, by go_num, Lib.hid ⟨by simp, by rw [List.map_append]; exact wfL_snoc hts.out.2.1 hwx, ?_⟩, ?_, ?_, ?_, hm5.set (by omega) _ _, grown_far1 hG5 (by omega) _ _, by simp [World.setCell]; omega⟩
            · rw [List.map_append]
              show nodesL (ts.map Tn.x ++ [x]) ≤ _
              rw [nodesL_app1, Nat.succ_mul]
              have := hts.out.2.2
              omega
            · rw [Below.heap_setCell _ _ _ _ (by simp)]; exact hr5
            · rw [blk_set ho5 _]; rfl
            · exact hrow5.to (fun _ h => h) (by simp [World.setCell]) (fun b _ hb => Below.heap_setCell _ _ _ b (by simp; omega))
          case measure => simp [intOf]; omega
      · obtain rfl : j = k5 := by omega
        obtain ⟨x0, x1, x2, x3⟩ := four ho
        obtain ⟨q0, q1, q2, q3⟩ := four hr
        have hfr := four_frozen hr
        obtain ⟨A1, c1, rfl⟩ := hrow.val
        go_wp2_with fail
        refine bodyPost_ret (v := rxv 3 0 0 A1 ts.length c1) (by unfold rxv; simp [results, Tryz.results18, go_sem, q0, q1, q2, q3]) rfl ?_
        exact mk_finK (by omega) hm hG hglt hrow (wf_kids3 (by simp) hts.out.2.1) (by simp only [nodes]; exact hnb.out j _ (by omega) hts.out.2.2) (by have := hts.out.1; omega)
  · go_enter Tryz.func18, Tryz.ntmps18
    go_wp2_with (go_at_call 37; refine Calls.mono hC1 ?_; clear hC1; rintro e w1 ⟨rfl, hm1, hg1, hs1⟩; simp at hs1)
    have hG1 : w.grownBy w1 (some g) := (World.grownBy_alloc w _ _).trans hg1
    have hr1 := keepG hg1 (heap_alloc_new w _) (by omega)
    obtain ⟨W2, hW2⟩ : ∃ W2, w1.alloc (.cells #[.int .i64 4, .int .u8 0, .int .u8 0, .slice none 0 0] 25) = W2 := ⟨_, rfl⟩
    have hm2 : MkAt W2 g A n c zs := hW2 ▸ hm1.alloc _
    have hG2 : w.grownBy W2 (some g) := hW2 ▸ hG1.trans (World.grownBy_alloc w1 _ _)
    have hr2 : W2.heap[w.heap.size]? = some (.cells #[.int .i64 0, .int .u8 0, .int .u8 0, .slice none 0 0] 25 (0, 0)) := hW2 ▸ (Below.heap_alloc w1 _ _ (by omega)).trans hr1
    have ho2 : W2.heap[w.heap.size + 1]? = some (.cells #[.int .i64 4, .int .u8 0, .int .u8 0, .slice none 0 0] 25 (0, 0)) := hW2 ▸ heap_alloc_new_at _ _ (by omega)
    have hs2 : W2.heap.size = w.heap.size + 2 := by rw [← hW2]; simp; omega
    rw [hW2]
    clear hW2 hm1 hG1 hr1 hg1
    obtain ⟨k4, hk4, hC4⟩ := hL.next hm2 3 (by decide) (by decide)
    refine Calls.mono hC4 ?_
    clear hC4
    rintro e w4 ⟨rfl, hm4, hg4, hs4⟩
    have hG4 := hG2.trans hg4
    have hr4 := keepG hg4 hr2 (by omega)
    have ho4 := keepG hg4 ho2 (by omega)
    clear hm2 hG2 hr2 ho2 hg4
    dsimp only
    go_wp2_with fail
    obtain ⟨k5, hk5, hC5⟩ := hL.next hm4 4 (by decide) (by decide)
    refine Calls.mono hC5 ?_
    clear hC5
    rintro e w5 ⟨rfl, hm5, hg5, hs5⟩
    have hG5 := hG4.trans hg5
    have hr5 := keepG hg5 hr4 (by omega)
    have ho5 := keepG hg5 ho4 (by omega)
    clear hm4 hG4 hr4 ho4 hg5
    dsimp only
    go_wp2_with fail
    have hsz0 : w.heap.size + 2 ≤ w5.heap.size := by omega
    go_loopw [8] (fun i wr => ∃ (j : Nat) (u : Value) (ts : List Tn), j ≤ k5 ∧ i = .int .i64 j ∧ Hid (ts.length = j ∧ wfL (ts.map Tn.x) = true ∧ nodesL (ts.map Tn.x) ≤ j * nb (d - 1)) ∧ wr.heap[w.heap.size]? = some (.cells #[.int .i64 0, .int .u8 0, .int .u8 0, .slice none 0 0] 25 (0, 0)) ∧
        wr.heap[w.heap.size + 1]? = some (.cells #[.int .i64 4, .int .u8 0, .int .u8 0, u] 25 (0, 0)) ∧ RowT wr (w.heap.size + 2) (fun b => w.heap.size + 2 ≤ b) 25 u ts ∧ MkAt wr g A n c zs ∧ w.grownBy wr (some g) ∧ w.heap.size + 2 ≤ wr.heap.size) (fun i _ => k5 - (intOf i).toNat)
    case atStart => exact ⟨0, .slice none 0 0, [], Nat.zero_le _, rfl, Lib.hid ⟨rfl, rfl, by simp [nodesL]⟩, hr5, ho5, RowT.nil _ _ _ _, hm5, hG5, hsz0⟩
    case round =>
      obtain ⟨j, u, ts, hj, rfl, hts, hr, ho, hrow, hm, hG, hsz⟩ := hrel
      clear hr5 ho5 hm5 hG5 hsz0
      by_cases hlt : j < k5
      · have hI := ih g A n c zs wr.drew hm.drew hL
        obtain ⟨⟨x0, x1, x2, x3⟩, xf0, xf1, xf2, xf3⟩ := four' ho
        have htl := hts.out.1
        subst htl
        go_wp2_with fail
        go_region_law (first
          | (refine step_append_lies _ (by rfl) _ _ _ (by rfl) (w.heap.size + 2) 25 i0 (.agg #[.int .i64 0, .int .u8 0, .int .u8 0, .slice none 0 0]) 4 40 Tryz.underlying23 hi hz0 hz1 hz2 rfl (by decide) u ts.length (ts.flatMap Tn.cells) (by rfl) (hrow3.1.alloc _) ⟨w3.heap.size, 0, none⟩ 1 1 (Tn.cells ⟨x, A3, c3⟩) (by rfl) (by rfl) (World.news_of_block (cs := #[.int .i64 x.kind, .int .u8 x.lo, .int .u8 x.hi, .slice A3 x.kids.length c3]) (t := 25) (fr := (0, 0)) (heap_alloc_new w3 _)) (tn_one1 _) (by decide) (by unfold maxLen; omega) (by omega) (by simp; omega) (w3.heap.size + 1) (by simp) ?_; intro g' cap' w5 hown5 hgrow5 hat5 hlt5; have ho5 := (hgrow5.block (w.heap.size + 1) (by simp; omega) (fun e => by have := hrow3.blk _ e.symm; omega)).trans ((Below.heap_alloc w3 _ (w.heap.size + 1) (by omega)).trans ho3); have hr5 := (hgrow5.block w.heap.size (by simp; omega) (fun e => by have := hrow3.blk _ e.symm; omega)).trans ((Below.heap_alloc w3 _ w.heap.size (by omega)).trans hr3); obtain ⟨⟨z0, z1, z2, z3⟩, zf0, zf1, zf2, zf3⟩ := four' ho5)
          | (go_simp; go_at_call 18; refine Calls.mono hI ?_; clear hI; rintro e' w3 ⟨x, v3, rfl, hv3, hm3, hg3, hwx, hnx⟩; obtain ⟨_, A3, c3, rfl, hc3, hA3, hs3⟩ := hv3.parts; have hy3 := hg3.size; simp at hy3; have ho3 := keepG (b := w.heap.size + 1) hg3 ho (by omega); have hr3 := keepG (b := w.heap.size) hg3 hr (by omega); have hrow3 := hrow.keepG (undrew hg3) (by omega) (fun _ h => h); obtain ⟨y0, y1, y2, y3⟩ := four ho3; have hyo := fun o : Obj => (cell_old (w := w3) (B := w.heap.size + 1) (i := 3) (by omega) o).trans y3; simp only [rxv]))
        all_goals
          have hG3 := hG.trans (undrew hg3)
          have hrow5 := RowT.snoc (w1 := w3.alloc (.cells #[.int .i64 x.kind, .int .u8 x.lo, .int .u8 x.hi, .slice A3 x.kids.length c3] 25)) (t := ⟨x, A3, c3⟩) hrow3 rfl ((Below.refl _ _).alloc (Nat.le_refl _) _) (RtV.to (fun b hb => ⟨⟨by have := hb.1; simp at this; omega, by have := hb.2; simp; omega, fun e => by have h6 := (own_blk_lt hrow.1 e).2; have h7 := hb.1; simp at h7; omega⟩, Below.heap_alloc w3 _ b hb.2⟩) x hv3) hown5 hgrow5 (by simpa using hat5)
          have hG5 : w.grownBy w5 (some g) := grown_new (hG3.trans (World.grownBy_alloc w3 _ _)) hgrow5 (fun j ej => by have := hrow3.blk _ ej; omega)
          have hm5 : MkAt w5 g A n c zs := (hm3.alloc (.cells #[.int .i64 x.kind, .int .u8 x.lo, .int .u8 x.hi, .slice A3 x.kids.length c3] 25)).below ((Below.refl (g + 1) _).grown hgrow5 (by simp; omega) (fun j ej => by have := hrow3.blk _ ej; omega))
          have hs5 := hgrow5.size
          simp at hs5
          go_wp2
          go_roundw
          case rel =>
            refine ⟨ts.length + 1, .slice (some ⟨g', 0, none⟩) (ts.length + 1) cap', ts ++ [⟨x, A3, c3⟩], by omega, by go_num, Lib.hid ⟨by simp, by rw [List.map_append]; exact wfL_snoc hts.out.2.1 hwx, ?_⟩, ?_, ?_, ?_, hm5.set (by omega) _ _, grown_far1 hG5 (by omega) _ _, by simp [World.setCell]; omega⟩
            · rw [List.map_append]
              show nodesL (ts.map Tn.x ++ [x]) ≤ _
              rw [nodesL_app1, Nat.succ_mul]
              have := hts.out.2.2
              omega
            · rw [Below.heap_setCell _ _ _ _ (by simp)]; exact hr5
            · rw [blk_set ho5 _]; rfl
            · exact hrow5.to (fun _ h => h) (by simp [World.setCell]) (fun b _ hb => Below.heap_setCell _ _ _ b (by simp; omega))
          case measure => simp [intOf]; omega
      · obtain rfl : j = k5 := by omega
        obtain ⟨x0, x1, x2, x3⟩ := four ho
        obtain ⟨q0, q1, q2, q3⟩ := four hr
        have hfr := four_frozen hr
        obtain ⟨A1, c1, rfl⟩ := hrow.val
        go_wp2_with fail
        refine bodyPost_ret (v := rxv 4 0 0 A1 ts.length c1) (by unfold rxv; simp [results, Tryz.results18, go_sem, q0, q1, q2, q3]) rfl ?_
        exact mk_finK (by omega) hm hG hglt hrow (wf_kids3 (by simp) hts.out.2.1) (by simp only [nodes]; exact hnb.out j _ (by omega) hts.out.2.2) (by have := hts.out.1; omega)
  · go_enter Tryz.func18, Tryz.ntmps18
    go_wp2_with (go_at_call 37; refine Calls.mono hC1 ?_; clear hC1; rintro e w1 ⟨rfl, hm1, hg1, hs1⟩; simp at hs1)
    have hG1 : w.grownBy w1 (some g) := (World.grownBy_alloc w _ _).trans hg1
    have hr1 := keepG hg1 (heap_alloc_new w _) (by omega)
    obtain ⟨W2, hW2⟩ : ∃ W2, w1.alloc (.cells #[.int .i64 5, .int .u8 0, .int .u8 0, .slice none 0 0] 25) = W2 := ⟨_, rfl⟩
    have hm2 : MkAt W2 g A n c zs := hW2 ▸ hm1.alloc _
    have hG2 : w.grownBy W2 (some g) := hW2 ▸ hG1.trans (World.grownBy_alloc w1 _ _)
    have hr2 : W2.heap[w.heap.size]? = some (.cells #[.int .i64 0, .int .u8 0, .int .u8 0, .slice none 0 0] 25 (0, 0)) := hW2 ▸ (Below.heap_alloc w1 _ _ (by omega)).trans hr1
    have ho2 : W2.heap[w.heap.size + 1]? = some (.cells #[.int .i64 5, .int .u8 0, .int .u8 0, .slice none 0 0] 25 (0, 0)) := hW2 ▸ heap_alloc_new_at _ _ (by omega)
    have hs2 : W2.heap.size = w.heap.size + 2 := by rw [← hW2]; simp; omega
    rw [hW2]
    clear hW2 hm1 hG1 hr1 hg1
    obtain ⟨k4, hk4, hC4⟩ := hL.next hm2 3 (by decide) (by decide)
    refine Calls.mono hC4 ?_
    clear hC4
    rintro e w4 ⟨rfl, hm4, hg4, hs4⟩
    have hG4 := hG2.trans hg4
    have hr4 := keepG hg4 hr2 (by omega)
    have ho4 := keepG hg4 ho2 (by omega)
    clear hm2 hG2 hr2 ho2 hg4
    dsimp only
    go_wp2_with fail
    obtain ⟨k5, hk5, hC5⟩ := hL.next hm4 4 (by decide) (by decide)
    refine Calls.mono hC5 ?_
    clear hC5
    rintro e w5 ⟨rfl, hm5, hg5, hs5⟩
    have hG5 := hG4.trans hg5
    have hr5 := keepG hg5 hr4 (by omega)
    have ho5 := keepG hg5 ho4 (by omega)
    clear hm4 hG4 hr4 ho4 hg5
    dsimp only
    go_wp2_with fail
    have hsz0 : w.heap.size + 2 ≤ w5.heap.size := by omega
    go_loopw [8] (fun i wr => ∃ (j : Nat) (u : Value) (ts : List Tn), j ≤ k5 ∧ i = .int .i64 j ∧ Hid (ts.length = j ∧ wfL (ts.map Tn.x) = true ∧ nodesL (ts.map Tn.x) ≤ j * nb (d - 1)) ∧ wr.heap[w.heap.size]? = some (.cells #[.int .i64 0, .int .u8 0, .int .u8 0, .slice none 0 0] 25 (0, 0)) ∧
        wr.heap[w.heap.size + 1]? = some (.cells #[.int .i64 5, .int .u8 0, .int .u8 0, u] 25 (0, 0)) ∧ RowT wr (w.heap.size + 2) (fun b => w.heap.size + 2 ≤ b) 25 u ts ∧ MkAt wr g A n c zs ∧ w.grownBy wr (some g) ∧ w.heap.size + 2 ≤ wr.heap.size) (fun i _ => k5 - (intOf i).toNat)
    case atStart => exact ⟨0, .slice none 0 0, [], Nat.zero_le _, rfl, Lib.hid ⟨rfl, rfl, by simp [nodesL]⟩, hr5, ho5, RowT.nil _ _ _ _, hm5, hG5, hsz0⟩
    case round =>
      obtain ⟨j, u, ts, hj, rfl, hts, hr, ho, hrow, hm, hG, hsz⟩ := hrel
      clear hr5 ho5 hm5 hG5 hsz0
      by_cases hlt : j < k5
      · have hI := ih g A n c zs wr.drew hm.drew hL
        obtain ⟨⟨x0, x1, x2, x3⟩, xf0, xf1, xf2, xf3⟩ := four' ho
        have htl := hts.out.1
        subst htl
        go_wp2_with fail
        go_region_law (first
          | (refine step_append_lies _ (by rfl) _ _ _ (by rfl) (w.heap.size + 2) 25 i0 (.agg #[.int .i64 0, .int .u8 0, .int .u8 0, .slice none 0 0]) 4 40 Tryz.underlying23 hi hz0 hz1 hz2 rfl (by decide) u ts.length (ts.flatMap Tn.cells) (by rfl) (hrow3.1.alloc _) ⟨w3.heap.size, 0, none⟩ 1 1 (Tn.cells ⟨x, A3, c3⟩) (by rfl) (by rfl) (World.news_of_block (cs := #[.int .i64 x.kind, .int .u8 x.lo, .int .u8 x.hi, .slice A3 x.kids.length c3]) (t := 25) (fr := (0, 0)) (heap_alloc_new w3 _)) (tn_one1 _) (by decide) (by unfold maxLen; omega) (by omega) (by simp; omega) (w3.heap.size + 1) (by simp) ?_; intro g' cap' w5 hown5 hgrow5 hat5 hlt5; have ho5 := (hgrow5.block (w.heap.size + 1) (by simp; omega) (fun e => by have := hrow3.blk _ e.symm; omega)).trans ((Below.heap_alloc w3 _ (w.heap.size + 1) (by omega)).trans ho3); have hr5 := (hgrow5.block w.heap.size (by simp; omega) (fun e => by have := hrow3.blk _ e.symm; omega)).trans ((Below.heap_alloc w3 _ w.heap.size (by omega)).trans hr3); obtain ⟨⟨z0, z1, z2, z3⟩, zf0, zf1, zf2, zf3⟩ := four' ho5)
          | (go_simp; go_at_call 18; refine Calls.mono hI ?_; clear hI; rintro e' w3 ⟨x, v3, rfl, hv3, hm3, hg3, hwx, hnx⟩; obtain ⟨_, A3, c3, rfl, hc3, hA3, hs3⟩ := hv3.parts; have hy3 := hg3.size; simp at hy3; have ho3 := keepG (b := w.heap.size + 1) hg3 ho (by omega); have hr3 := keepG (b := w.heap.size) hg3 hr (by omega); have hrow3 := hrow.keepG (undrew hg3) (by omega) (fun _ h => h); obtain ⟨y0, y1, y2, y3⟩ := four ho3; have hyo := fun o : Obj => (cell_old (w := w3) (B := w.heap.size + 1) (i := 3) (by omega) o).trans y3; simp only [rxv]))
        all_goals
          have hG3 := hG.trans (undrew hg3)
          have hrow5 := RowT.snoc (w1 := w3.alloc (.cells #[.int .i64 x.kind, .int .u8 x.lo, .int .u8 x.hi, .slice A3 x.kids.length c3] 25)) (t := ⟨x, A3, c3⟩) hrow3 rfl ((Below.refl _ _).alloc (Nat.le_refl _) _) (RtV.to (fun b hb => ⟨⟨by have := hb.1; simp at this; omega, by have := hb.2; simp; omega, fun e => by have h6 := (own_blk_lt hrow.1 e).2; have h7 := hb.1; simp at h7; omega⟩, Below.heap_alloc w3 _ b hb.2⟩) x hv3) hown5 hgrow5 (by simpa using hat5)
          have hG5 : w.grownBy w5 (some g) := grown_new (hG3.trans (World.grownBy_alloc w3 _ _)) hgrow5 (fun j ej => by have := hrow3.blk _ ej; omega)
          have hm5 : MkAt w5 g A n c zs := (hm3.alloc (.cells #[.int .i64 x.kind, .int .u8 x.lo, .int .u8 x.hi, .slice A3 x.kids.length c3] 25)).below ((Below.refl (g + 1) _).grown hgrow5 (by simp; omega) (fun j ej => by have := hrow3.blk _ ej; omega))
          have hs5 := hgrow5.size
          simp at hs5
          go_wp2
          go_roundw
          case rel =>
            refine ⟨ts.length + 1, .slice (some ⟨g', 0, none⟩) (ts.length + 1) cap', ts ++ [⟨x, A3, c3⟩], by omega, by go_num, Lib.hid ⟨by simp, by rw [List.map_append]; exact wfL_snoc hts.out.2.1 hwx, ?_⟩, ?_, ?_, ?_, hm5.set (by omega) _ _, grown_far1 hG5 (by omega) _ _, by simp [World.setCell]; omega⟩
            · rw [List.map_append]
              show nodesL (ts.map Tn.x ++ [x]) ≤ _
              rw [nodesL_app1, Nat.succ_mul]
              have := hts.out.2.2
              omega
            · rw [Below.heap_setCell _ _ _ _ (by simp)]; exact hr5
            · rw [blk_set ho5 _]; rfl
            · exact hrow5.to (fun _ h => h) (by simp [World.setCell]) (fun b _ hb => Below.heap_setCell _ _ _ b (by simp; omega))
          case measure => simp [intOf]; omega
      · obtain rfl : j = k5 := by omega
        obtain ⟨x0, x1, x2, x3⟩ := four ho
        obtain ⟨q0, q1, q2, q3⟩ := four hr
        have hfr := four_frozen hr
        obtain ⟨A1, c1, rfl⟩ := hrow.val
        go_wp2_with fail
        refine bodyPost_ret (v := rxv 5 0 0 A1 ts.length c1) (by unfold rxv; simp [results, Tryz.results18, go_sem, q0, q1, q2, q3]) rfl ?_
        exact mk_finK (by omega) hm hG hglt hrow (wf_kids3 (by simp) hts.out.2.1) (by simp only [nodes]; exact hnb.out j _ (by omega) hts.out.2.2) (by have := hts.out.1; omega)

end Go.Proofs.YtnjkihbmhacgoaaGreatDoor

namespace Go.Proofs.YtnjkihbmhacgoaaGreatDoor
open Go.RowKit

theorem mc_of (d : Nat) (hd : 1 ≤ d) (hd4 : d ≤ 4) (ih : 2 ≤ d → MC (d - 1)) : MC d := by
  intro g A n c zs w hmk hL
  obtain ⟨k1, hk1, hC1⟩ := hL.next (hmk.alloc (.cells #[.int .i64 0, .int .u8 0, .int .u8 0, .slice none 0 0] 25)) 14 (by decide) (by decide)
  by_cases hp : d < 2 ∨ 7 < k1
  · exact mreg_leaf d hd (by omega) g A n c zs w hmk hL k1 hk1 hC1 hp
  · have hd2 : 2 ≤ d := by omega
    have ih' := ih hd2
    by_cases h2 : k1 ≤ 2
    · exact mreg_low d hd2 (by omega) g A n c zs w hmk hL k1 (by omega) hC1
    · by_cases h5 : k1 ≤ 5
      · by_cases h4 : d = 4
        · exact mreg_many4 d h4 ih' g A n c zs w hmk hL k1 (by omega) hC1
        · exact mreg_many d (by omega) ih' g A n c zs w hmk hL k1 (by omega) hC1
      · exact mreg_one d hd2 hd4 ih' g A n c zs w hmk hL k1 (by omega) hC1
theorem mc1 : MC 1 := mc_of 1 (by decide) (by decide) (fun h => absurd h (by decide))
theorem mc2 : MC 2 := mc_of 2 (by decide) (by decide) (fun _ => mc1)
theorem mc3 : MC 3 := mc_of 3 (by decide) (by decide) (fun _ => mc2)
theorem mc4 : MC 4 := mc_of 4 (by decide) (by decide) (fun _ => mc3)

/-- a generator's answer: some expression of new memory -/
def MadeOk (w : World) (e : Ending) (w' : World) : Prop := ∃ x v, e = .returned v ∧ RtV w' (Mid w.heap.size w'.heap.size) x v ∧ Below w.heap.size w w' ∧ wfR x = true ∧ nodes x ≤ 22
set_option maxHeartbeats 1000000 in
theorem made_any (A : Option Addr) (n c : Nat) (zs : List Int) (w : World) (hL : MkL n zs) (hr : RdI w w.heap.size .i64 A zs) : Calls Tryz.prog 4 #[.slice A n c] w (MadeOk w) := by
  have hb0 : ∀ o1 o2, Below w.heap.size w ((w.alloc o1).alloc o2) := fun o1 o2 => below_alloc2 (Below.refl _ _) (Nat.le_refl _) _ _
  obtain ⟨W, hW⟩ : ∃ W, (w.alloc (.cells #[.int .i64 0, .int .u8 0, .int .u8 0, .slice none 0 0] 25)).alloc (.cells #[.slice A n c, .int .i64 0] 50) = W := ⟨_, rfl⟩
  have hm : MkAt W (w.heap.size + 1) A n c zs := ⟨0, hW ▸ heap_alloc_new_at _ _ (by simp), (hW ▸ hr.below (hb0 _ _)).mono (by omega)⟩
  have hr0 : W.heap[w.heap.size]? = some (.cells #[.int .i64 0, .int .u8 0, .int .u8 0, .slice none 0 0] 25 (0, 0)) := hW ▸ (heap_alloc_old _ _ _ (by simp)).trans (heap_alloc_new w _)
  have hB : Below w.heap.size w W := hW ▸ hb0 _ _
  have hs : W.heap.size = w.heap.size + 2 := by rw [← hW]; simp
  have hC := mc4 (w.heap.size + 1) A n c zs W hm hL
  clear hr hm
  go_enter Tryz.func4, Tryz.ntmps4
  go_wp2_with (go_at_call 18; refine Calls.mono hC ?_; clear hC; rintro e w1 ⟨x, v, rfl, hv, hm1, hg1, hwx, hnx⟩; obtain ⟨_, A1, c1, rfl, _⟩ := hv.parts; have hr1 := keepG (b := w.heap.size) hg1 hr0 (by omega); obtain ⟨q0, q1, q2, q3⟩ := four hr1; have hf1 := four_frozen hr1; simp only [rxv])
  refine bodyPost_ret (v := rxv x.kind x.lo x.hi A1 x.kids.length c1) (by unfold rxv; simp [results, Tryz.results4, go_sem, q0, q1, q2, q3]) rfl ?_
  refine ⟨x, _, rfl, RtV.to (fun b hb => ⟨⟨by have := hb.1; omega, by rw [fin4_size]; exact hb.2⟩, fin4 _ _ _ _ (by have := hb.1; omega)⟩) x hv, fin4_below (hB.grown hg1 hB.size (fun j ej => by injection ej with ej; omega)) (Nat.le_refl _) _ _ _ _, hwx, hnx⟩
end Go.Proofs.YtnjkihbmhacgoaaGreatDoor
