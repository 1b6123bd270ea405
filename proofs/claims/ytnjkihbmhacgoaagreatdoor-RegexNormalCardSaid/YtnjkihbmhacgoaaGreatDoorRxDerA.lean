/-
  THE WALKS of join; of derivative at a range and at a star.
  THE WALKS of derivative at a range and at a star.
-/
import Derived.Test.YtnjkihbmhacgoaaGreatDoorRxNorm
import Derived.Deep.RegionLaw
namespace Go.Proofs.YtnjkihbmhacgoaaGreatDoor
open Go.RowKit

theorem plus_sub0 {S : Nat → Prop} {n m b : Nat} (hS : SOk S n) (hb : Plus S (n + 1) m b) : b ≠ n ∧ Plus S n m b := by
  rcases hb with hb | ⟨h1, h2⟩
  · exact ⟨by have := hS b hb; omega, .inl hb⟩
  · exact ⟨by omega, .inr ⟨by omega, h2⟩⟩

set_option maxHeartbeats 2000000 in
set_option maxRecDepth 100000 in
theorem join_any (k : Int) (s : List Rx) (A : Option Addr) (c : Nat) (f : Value) (S : Nat → Prop) (w : World) (hforms : FormsAt w S f) (hs : RtL w S s A) (hS : SOk S w.heap.size) (hc : s.length ≤ c) (hA : A = none → c = 0) (hsl : s.length ≤ 1048576) (hwf : wfR (.node k 0 0 s) = true) (hN : nodesL s ≤ 1000000) (hF : Fit1 (.node k 0 0 s)) :
    Calls Tryz.prog 77 #[f, .int .i64 k, .slice A s.length c] w fun e w' => GivesS S w (nfK (.node k 0 0 s)) e w' := by
  have hk8 := wf_kind hwf
  obtain ⟨mb, es, clock, rfl, hmb, hent⟩ := hforms
  obtain ⟨jl, fv, hlook, hkv⟩ := hent k hk8.1 hk8.2
  clear hent
  have hB : ∀ o, Below w.heap.size w (w.alloc o) := fun o => (Below.refl _ _).alloc (Nat.le_refl _) o
  have hV : RtV w S (.node k 0 0 s) (rxv k 0 0 A s.length c) := RtV.mk ⟨by unfold I64; omega, by decide, by decide, hsl⟩ hc hA hs
  have hlk := fun o => run_lookup_int (P := Tryz.prog) (w := w.alloc o) (t := 54) (kt := 3) (et := 56) Tryz.underlying54 Tryz.underlying3 (((hB o).block mb (Array.getElem?_eq_some_iff.1 hmb).1).trans hmb) hlook
  obtain ⟨z, hz⟩ : ∃ z : Obj, z = .cells #[.int .i64 0, .int .u8 0, .int .u8 0, .slice none 0 0] 30 (0, 0) := ⟨_, rfl⟩
  have hcases := kind_cases (w := w.alloc z) (x := .node k 0 0 s) (hkv.keep hS (hB z)) (hS.mono (by simp)) hwf hN hF (hV.keep hS (hB z))
  have hn1 := heap_alloc_new w z
  subst hz
  obtain ⟨res, hres⟩ : ∃ res, nfK (.node k 0 0 s) = res := ⟨_, rfl⟩
  rw [hres] at hcases ⊢
  clear hres hV hkv hs hlook hwf hF
  unfold rxv at hcases
  have hfin : ∀ (e : Ending) (w1 : World), GivesS S (w.alloc (.cells #[.int .i64 0, .int .u8 0, .int .u8 0, .slice none 0 0] 30 (0, 0))) res e w1 → ∃ A2 d2, e = .returned (rxv res.kind res.lo res.hi A2 res.kids.length d2) ∧ RtV w1 (Plus S (w.heap.size + 1) w1.heap.size) res (rxv res.kind res.lo res.hi A2 res.kids.length d2) ∧ Below w.heap.size w w1 ∧ w1.heap[w.heap.size]? = some (.cells #[.int .i64 0, .int .u8 0, .int .u8 0, .slice none 0 0] 30 (0, 0)) := fun e w1 ⟨v1, he1, hv1, hw1⟩ => by
    obtain ⟨_, A2, d2, rfl, _⟩ := hv1.parts
    exact ⟨A2, d2, he1, hv1.sub (fun b hb => by rcases hb with h1 | h1; exact .inl h1; exact .inr ⟨by have := h1.1; simp at this; omega, h1.2⟩), (hB _).trans (hw1.mono (by simp)), (hw1.block _ (by simp)).trans hn1⟩
  rcases hcases with ⟨rfl, hC⟩ | ⟨b1, b2, b3, rfl, hC⟩ | ⟨rfl, hC⟩ | ⟨b1, b2, rfl, hC⟩
  · go_enter Tryz.func77, Tryz.ntmps77
    go_wp2_with (go_at_call 39; refine Calls.mono hC ?_; clear hC; intro e w1 hg; obtain ⟨A2, d2, rfl, hv2, hB2, hn2⟩ := hfin e w1 hg; obtain ⟨q0, q1, q2, q3⟩ := four hn2; have hf2 := four_frozen hn2; simp only [rxv])
    refine bodyPost_ret (v := rxv res.kind res.lo res.hi A2 res.kids.length d2) (by unfold rxv; simp [results, Tryz.results77, go_sem, q0, q1, q2, q3]) rfl ?_
    exact fin_gives hB2 (Nat.le_refl _) hS hv2 (fun b hb => plus_sub0 hS hb)
  · go_enter Tryz.func77, Tryz.ntmps77
    go_wp2_with (go_at_call 56; refine Calls.mono hC ?_; clear hC; intro e w1 hg; obtain ⟨A2, d2, rfl, hv2, hB2, hn2⟩ := hfin e w1 hg; obtain ⟨q0, q1, q2, q3⟩ := four hn2; have hf2 := four_frozen hn2; simp only [rxv])
    refine bodyPost_ret (v := rxv res.kind res.lo res.hi A2 res.kids.length d2) (by unfold rxv; simp [results, Tryz.results77, go_sem, q0, q1, q2, q3]) rfl ?_
    exact fin_gives hB2 (Nat.le_refl _) hS hv2 (fun b hb => plus_sub0 hS hb)
  · go_enter Tryz.func77, Tryz.ntmps77
    go_wp2_with (go_at_call 43; refine Calls.mono hC ?_; clear hC; intro e w1 hg; obtain ⟨A2, d2, rfl, hv2, hB2, hn2⟩ := hfin e w1 hg; obtain ⟨q0, q1, q2, q3⟩ := four hn2; have hf2 := four_frozen hn2; simp only [rxv])
    refine bodyPost_ret (v := rxv res.kind res.lo res.hi A2 res.kids.length d2) (by unfold rxv; simp [results, Tryz.results77, go_sem, q0, q1, q2, q3]) rfl ?_
    exact fin_gives hB2 (Nat.le_refl _) hS hv2 (fun b hb => plus_sub0 hS hb)
  · go_enter Tryz.func77, Tryz.ntmps77
    go_wp2_with (go_at_call 44; refine Calls.mono hC ?_; clear hC; intro e w1 hg; obtain ⟨A2, d2, rfl, hv2, hB2, hn2⟩ := hfin e w1 hg; obtain ⟨q0, q1, q2, q3⟩ := four hn2; have hf2 := four_frozen hn2; simp only [rxv])
    refine bodyPost_ret (v := rxv res.kind res.lo res.hi A2 res.kids.length d2) (by unfold rxv; simp [results, Tryz.results77, go_sem, q0, q1, q2, q3]) rfl ?_
    exact fin_gives hB2 (Nat.le_refl _) hS hv2 (fun b hb => plus_sub0 hS hb)
end Go.Proofs.YtnjkihbmhacgoaaGreatDoor

namespace Go.Proofs.YtnjkihbmhacgoaaGreatDoor
open Go.RowKit

theorem fit_seq (s : List Rx) : Fit1 (.node 3 0 0 s) := ⟨fun h => absurd h (by simp [Rx.kind]), fun h => absurd h (by simp [Rx.kind])⟩
/-- what derivative gives of an expression by a byte -/
def DC (x : Rx) (c : Int) (y : Rx) : Prop := ∀ (v f : Value) (S : Nat → Prop) (w : World), FormsAt w S f → RtV w S x v → SOk S w.heap.size → Calls Tryz.prog 54 #[f, v, .int .u8 c] w fun e w' => GivesS S w y e w'

theorem dc_range_in (l h c : Int) (h1 : l ≤ c) (h2 : c ≤ h) : DC (.node 2 l h []) c oneR := by
  intro v f S w hforms hv hS
  have hb0 : ∀ o1 o2, Below w.heap.size w ((w.alloc o1).alloc o2) := fun o1 o2 => below_alloc2 (Below.refl _ _) (Nat.le_refl _) _ _
  obtain ⟨⟨ok1, ok2, ok3, ok4⟩, A, d, rfl, hc, hA, hs⟩ := hv.parts
  have hC := fun W => contains_any 2 l h A 0 d c W
  rw [decide_eq_true h1, decide_eq_true h2] at hC
  obtain ⟨mb, es, clock, rfl, hmb, hent⟩ := hforms
  clear hv hs hent
  simp only [Rx.kind, Rx.lo, Rx.hi, Rx.kids, List.length_nil] at ok1 ok2 ok3 ok4 hc ⊢
  unfold rxv at hC ⊢
  go_enter Tryz.func54, Tryz.ntmps54
  go_wp2_with (go_at_call 65; refine Calls.mono (hC _) ?_; clear hC; rintro e w1 ⟨rfl, hw1⟩; have hB1 := (hb0 _ _).trans (hw1.mono (by simp; omega)); have hn1 := (hw1.block (w.heap.size + 1) (by simp)).trans (heap_alloc_new_at _ _ (by simp)); obtain ⟨q0, q1, q2, q3⟩ := four hn1; have hf1 := four_frozen hn1)
  refine bodyPost_ret (v := rxv 1 0 0 none 0 0) (by unfold rxv; simp [results, Tryz.results54, go_sem, q0, q1, q2, q3]) rfl ?_
  exact fin_gives (x := oneR) hB1 (Nat.le_succ _) hS (rtx_one _ S) (fun b hb => ⟨by have := hS b hb; omega, .inl hb⟩)

theorem dc_range_out (l h c : Int) (h1 : ¬ (l ≤ c ∧ c ≤ h)) : DC (.node 2 l h []) c nilR := by
  intro v f S w hforms hv hS
  have hb0 : ∀ o1 o2, Below w.heap.size w ((w.alloc o1).alloc o2) := fun o1 o2 => below_alloc2 (Below.refl _ _) (Nat.le_refl _) _ _
  obtain ⟨⟨ok1, ok2, ok3, ok4⟩, A, d, rfl, hc, hA, hs⟩ := hv.parts
  have hC := fun W => contains_any 2 l h A 0 d c W
  rw [show (decide (l ≤ c) && decide (c ≤ h)) = false by simpa [Bool.and_eq_false_iff] using h1] at hC
  obtain ⟨mb, es, clock, rfl, hmb, hent⟩ := hforms
  clear hv hs hent
  simp only [Rx.kind, Rx.lo, Rx.hi, Rx.kids, List.length_nil] at ok1 ok2 ok3 ok4 hc ⊢
  unfold rxv at hC ⊢
  go_enter Tryz.func54, Tryz.ntmps54
  go_wp2_with (go_at_call 65; refine Calls.mono (hC _) ?_; clear hC; rintro e w1 ⟨rfl, hw1⟩; have hB1 := (hb0 _ _).trans (hw1.mono (by simp; omega)); have hn1 := (hw1.block (w.heap.size + 1) (by simp)).trans (heap_alloc_new_at _ _ (by simp)); obtain ⟨q0, q1, q2, q3⟩ := four hn1; have hf1 := four_frozen hn1)
  refine bodyPost_ret (v := rxv 0 0 0 none 0 0) (by unfold rxv; simp [results, Tryz.results54, go_sem, q0, q1, q2, q3]) rfl ?_
  exact fin_gives (x := nilR) hB1 (Nat.le_succ _) hS (rtx_nil _ S) (fun b hb => ⟨by have := hS b hb; omega, .inl hb⟩)

theorem cells8 {w' : World} {S : Nat → Prop} {y x : Rx} {A1 A : Option Addr} {c1 c : Nat} (h1 : RtV w' S y (rxv y.kind y.lo y.hi A1 y.kids.length c1)) (h2 : RtV w' S x (rxv x.kind x.lo x.hi A x.kids.length c)) {g : Nat} (hg : w'.heap[g]? = some (.cells #[.int .i64 y.kind, .int .u8 y.lo, .int .u8 y.hi, .slice A1 y.kids.length c1, .int .i64 x.kind, .int .u8 x.lo, .int .u8 x.hi, .slice A x.kids.length c] 30 (0, 0))) (hS : S g) : RtL w' S [y, x] (some ⟨g, 0, none⟩) := by
  refine rtl_of_cells (ts := [⟨y, A1, c1⟩, ⟨x, A, c⟩]) hS 0 (fun j u hj => ?_) (fun t ht => ?_)
  · rw [Nat.zero_add, cell_of_row _ g j _ _ _ hg]
    simpa [Tn.cells] using hj
  · simp only [List.mem_cons, List.not_mem_nil, or_false] at ht
    rcases ht with rfl | rfl
    · exact h1
    · exact h2

set_option maxHeartbeats 2000000 in
set_option maxRecDepth 100000 in
theorem dc_star (l h c : Int) (k y : Rx) (hd : DC k c y) (hwx : wfR (.node 7 l h [k]) = true) (hwy : wfR y = true) (hn : nodes y + nodes k ≤ 1000) : DC (.node 7 l h [k]) c (nfK (.node 3 0 0 [y, .node 7 l h [k]])) := by
  intro v f S w hforms hv hS
  have hb0 : ∀ o1 o2, Below w.heap.size w ((w.alloc o1).alloc o2) := fun o1 o2 => below_alloc2 (Below.refl _ _) (Nat.le_refl _) _ _
  have hv0 := hv
  obtain ⟨⟨ok1, ok2, ok3, ok4⟩, A, d, rfl, hc, hA, hs⟩ := hv.parts
  simp only [Rx.kind, Rx.lo, Rx.hi, Rx.kids, List.length_cons, List.length_nil, Nat.zero_add] at ok1 ok2 ok3 ok4 hc hv0 hs ⊢
  obtain ⟨b, o, A1, c1, rfl, hb, h4, hkv, _⟩ := hs.one
  have hforms0 := hforms
  obtain ⟨mb, es, clock, rfl, hmb, hent⟩ := hforms
  have hJ : ∀ (W W' : World) (g : Nat) (A3 : Option Addr) (c3 : Nat), Below w.heap.size w W → Below W.heap.size W W' → RtV W (Plus S (w.heap.size + 1 + 1) W.heap.size) y (rxv y.kind y.lo y.hi A3 y.kids.length c3) → W'.heap[g]? = some (.cells #[.int .i64 y.kind, .int .u8 y.lo, .int .u8 y.hi, .slice A3 y.kids.length c3, .int .i64 7, .int .u8 l, .int .u8 h, .slice (some ⟨b, o, none⟩) 1 d] 30 (0, 0)) → w.heap.size + 1 + 1 ≤ g → w.heap.size + 1 + 1 ≤ W.heap.size →
      Calls Tryz.prog 77 #[.map (some mb), .int .i64 3, .slice (some ⟨g, 0, none⟩) 2 2] W' fun e w' => GivesS (Plus S (w.heap.size + 1 + 1) W'.heap.size) W' (nfK (.node 3 0 0 [y, .node 7 l h [k]])) e w' := fun W W' g A3 c3 hW hW' hy hg hgn hwn => by
    have hB := hW.trans (hW'.mono hW.size)
    have hS2 : SOk (Plus S (w.heap.size + 1 + 1) W'.heap.size) W'.heap.size := fun b hb => by
      rcases hb with h | h
      · exact Nat.lt_of_lt_of_le (hS b h) hB.size
      · exact h.2
    have hlw : wfL [y, .node 7 l h [k]] = true := by simp only [wfL, hwy, hwx]; rfl
    have hW's := hW'.size
    refine join_any 3 [y, .node 7 l h [k]] _ 2 _ _ W' ((hforms0.keep hS hB).sub (fun _ h => .inl h)) ?_ hS2 (Nat.le_refl _) (fun h => nomatch h) (by simp) (by rw [wfR_eq]; simp [wfK, hlw]) (by simp only [nodesL, nodes]; omega) (fit_seq _)
    exact cells8 (RtV.to (fun b hb => ⟨by rcases hb with h | h; exact .inl h; exact .inr ⟨h.1, by omega⟩, hW'.block b (by rcases hb with h | h; exact Nat.lt_of_lt_of_le (hS b h) hW.size; exact h.2)⟩) y hy) ((hv0.keep hS hB).sub (fun _ h => .inl h)) hg (.inr ⟨hgn, (Array.getElem?_eq_some_iff.1 hg).1⟩)
  have hD : ∀ W, Below w.heap.size w W → Calls Tryz.prog 54 #[.map (some mb), rxv k.kind k.lo k.hi A1 k.kids.length c1, .int .u8 c] W fun e w' => GivesS S W y e w' := fun W hW => hd _ _ S W (hforms0.keep hS hW) (hkv.keep hS hW) (hS.mono hW.size)
  have hk4 : ∀ W, Below w.heap.size w W → At4 W b o k.kind k.lo k.hi (.slice A1 k.kids.length c1) := fun W hW => h4.to (hW.block b (hS b hb))
  obtain ⟨W0, hW0⟩ : ∃ W0, (w.alloc (.cells #[.int .i64 7, .int .u8 l, .int .u8 h, .slice (some ⟨b, o, none⟩) 1 d] 30)).alloc (.cells #[.int .i64 0, .int .u8 0, .int .u8 0, .slice none 0 0] 30) = W0 := ⟨_, rfl⟩
  have hz0 : W0.heap.size = w.heap.size + 2 := by rw [← hW0]; simp
  have hB0 : Below w.heap.size w W0 := hW0 ▸ hb0 _ _
  have hr0 : W0.heap[w.heap.size]? = some (.cells #[.int .i64 7, .int .u8 l, .int .u8 h, .slice (some ⟨b, o, none⟩) 1 d] 30 (0, 0)) := by rw [← hW0]; exact (heap_alloc_old _ _ _ (by simp)).trans (heap_alloc_new w _)
  have hr1 : W0.heap[w.heap.size + 1]? = some (.cells #[.int .i64 0, .int .u8 0, .int .u8 0, .slice none 0 0] 30 (0, 0)) := by rw [← hW0]; exact heap_alloc_new_at _ _ (by simp)
  obtain ⟨res, hres⟩ : ∃ res, nfK (.node 3 0 0 [y, .node 7 l h [k]]) = res := ⟨_, rfl⟩
  rw [hres] at hJ ⊢
  clear hd hent hforms0 hv hs hkv hv0 hres
  obtain ⟨p0, p1, p2, p3⟩ := four hr0
  obtain ⟨e0, e1, e2, e3⟩ := hk4 W0 hB0
  unfold rxv at hD ⊢
  go_enter Tryz.func54, Tryz.ntmps54
  go_wp2_with fail
  clear hW0
  have hdr : Below W0.heap.size W0 W0.drew := (Below.refl _ _).drew
  go_region_law (first
    | (go_simp; go_at_call 54; refine Calls.mono (hD _ (hB0.trans (hdr.mono (by omega)))) ?_; rintro e' w1 ⟨v1, rfl, hv1, hw1⟩; obtain ⟨_, A3, c3, rfl, hc3, hA3, hs3⟩ := hv1.parts; have hy1 := hw1.size; simp at hy1; have hB1 : Below W0.heap.size W0 w1 := hdr.trans (hw1.mono (by simp)); obtain ⟨u0, u1, u2, u3⟩ := four ((hB1.block w.heap.size (by omega)).trans hr0); have hn1 := (hB1.block (w.heap.size + 1) (by omega)).trans hr1; simp only [rxv])
    | (go_simp; go_at_call 77; refine Calls.mono (hJ w1 _ w1.heap.size A3 c3 (hB0.trans (hB1.mono (by omega))) ((Below.refl _ _).alloc (Nat.le_refl _) _) (hv1.sub (fun b hb => by rcases hb with h | h; exact .inl h; exact .inr ⟨by have := h.1; simp at this; omega, h.2⟩)) (heap_alloc_new w1 _) (by omega) (by omega)) ?_; rintro e' w2 ⟨v2, rfl, hv2, hw2⟩; obtain ⟨_, A4, c4, rfl, hc4, hA4, hs4⟩ := hv2.parts; have hy2 := hw2.size; simp at hy2; have hn2 := (hw2.block (w.heap.size + 1) (by simp; omega)).trans ((Below.heap_alloc w1 _ (w.heap.size + 1) (by omega)).trans hn1); obtain ⟨q0, q1, q2, q3⟩ := four hn2; have hf2 := four_frozen hn2; simp only [rxv]))
  all_goals
    go_wp2_with fail
    refine bodyPost_ret (v := rxv res.kind res.lo res.hi A4 res.kids.length c4) (by unfold rxv; simp [results, Tryz.results54, go_sem, q0, q1, q2, q3]) rfl ?_
    exact fin_gives ((hB0.trans (hB1.mono (by omega))).trans ((((Below.refl _ w1).alloc (Nat.le_refl _) _).mono (by omega)).trans (hw2.mono (by simp; omega)))) (Nat.le_succ _) hS hv2 (fun b hb => plus_sub hS (by
      rcases hb with (h1 | h1) | h1
      · exact .inl h1
      · exact .inr ⟨h1.1, by have := h1.2; simp at this; omega⟩
      · exact .inr ⟨by have := h1.1; simp at this; omega, h1.2⟩))
end Go.Proofs.YtnjkihbmhacgoaaGreatDoor
