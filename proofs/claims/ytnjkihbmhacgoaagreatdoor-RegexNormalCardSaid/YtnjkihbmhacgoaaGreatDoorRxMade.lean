/-
  THE WALKS of Pick and of the maker's next.
  THE WALKS of the maker's regex, and of Made.
-/
import Derived.Test.YtnjkihbmhacgoaaGreatDoorRxForm
import Derived.Test.YtnjkihbmhacgoaaGreatDoorRef
import Derived.Deep.RegionLaw
import Derived.Test.YtnjkihbmhacgoaaGreatDoorRxAtom
namespace Go.Proofs.YtnjkihbmhacgoaaGreatDoor
open Go.RowKit

theorem pick_any (A : Option Addr) (n c : Nat) (zs : List Int) (i : Int) (m : Nat) (hn : n = zs.length) (hz : ∀ z ∈ zs, I64 z) (_hlen : zs.length ≤ 9223372036854775807) (hm : 1 ≤ m) (hm2 : m ≤ 1000000) :
    ∃ k : Nat, k < m ∧ ∀ w : World, RdI w w.heap.size .i64 A zs → Calls Tryz.prog 55 #[.slice A n c, .int .i64 i, .int .i64 m] w fun e w' => e = .returned (.int .i64 k) ∧ w = w' := by
  by_cases h0 : i < 0
  · refine ⟨0, by omega, fun w _ => ?_⟩
    have h0' : decide (i < 0) = true := decide_eq_true h0
    go_enter Tryz.func55, Tryz.ntmps55
    go_wp2_with fail
    go_ret
    exact ⟨rfl, rfl⟩
  · have h0' : decide (i < 0) = false := decide_eq_false h0
    by_cases h1 : (n : Int) ≤ i
    · refine ⟨0, by omega, fun w _ => ?_⟩
      have h1' : decide ((n : Int) ≤ i) = true := decide_eq_true h1
      go_enter Tryz.func55, Tryz.ntmps55
      go_wp2_with fail
      go_ret
      exact ⟨rfl, rfl⟩
    · have h1' : decide ((n : Int) ≤ i) = false := decide_eq_false h1
      obtain ⟨j, rfl⟩ : ∃ j : Nat, i = j := ⟨i.toNat, by omega⟩
      have hj : j < zs.length := by omega
      have hzj : I64 (zs[j]?.getD 0) := hz _ (by rw [List.getElem?_eq_getElem hj]; exact List.getElem_mem hj)
      obtain ⟨k, hk, hA⟩ := Around_nat (zs[j]?.getD 0) m hzj hm hm2
      refine ⟨k, hk, fun w hr => ?_⟩
      obtain ⟨b, o, rfl, _, hcell⟩ := hr.at_ hj
      generalize zs[j]?.getD 0 = z at *
      subst hn
      clear hr
      go_enter Tryz.func55, Tryz.ntmps55
      go_wp2_with (go_at_call 19; refine Calls.mono (hA _) ?_; clear hA; rintro e w1 ⟨rfl, rfl⟩)
      go_ret
      exact ⟨rfl, rfl⟩

/-- block g holds a maker over the list zs -/
def MkAt (w : World) (g : Nat) (A : Option Addr) (n c : Nat) (zs : List Int) : Prop := ∃ a : Int, w.heap[g]? = some (.cells #[.slice A n c, .int .i64 a] 50 (0, 0)) ∧ RdI w g .i64 A zs
theorem MkAt.lt {w : World} {g : Nat} {A : Option Addr} {n c : Nat} {zs : List Int} (h : MkAt w g A n c zs) : g < w.heap.size := by
  obtain ⟨a, h1, _⟩ := h
  exact (Array.getElem?_eq_some_iff.1 h1).1
theorem MkAt.below {w w' : World} {g : Nat} {A : Option Addr} {n c : Nat} {zs : List Int} (h : MkAt w g A n c zs) (hb : Below (g + 1) w w') : MkAt w' g A n c zs := by
  obtain ⟨a, h1, h2⟩ := h
  exact ⟨a, (hb.block g (by omega)).trans h1, h2.below (hb.mono (by omega))⟩
theorem mk_two {w : World} {g : Nat} {u v : Value} {t : TypeId} (h : w.heap[g]? = some (.cells #[u, v] t (0, 0))) : w.cell? ⟨g, 0, none⟩ = some u ∧ w.cell? ⟨g, 1, none⟩ = some v ∧ w.frozen? ⟨g, 1, none⟩ = false :=
  ⟨by rw [cell_of_row w g 0 _ t _ h]; rfl, by rw [cell_of_row w g 1 _ t _ h]; rfl, by simp [World.frozen?, h]⟩

set_option maxHeartbeats 1000000 in
theorem next_any (g : Nat) (A : Option Addr) (n c : Nat) (zs : List Int) (m : Nat) (w : World) (hmk : MkAt w g A n c zs) (hn : n = zs.length) (hz : ∀ z ∈ zs, I64 z) (hlen : zs.length ≤ 9223372036854775807) (hm : 1 ≤ m) (hm2 : m ≤ 1000000) :
    ∃ k : Nat, k < m ∧ Calls Tryz.prog 37 #[.pointer (some ⟨g, 0, none⟩), .int .i64 m] w fun e w' => e = .returned (.int .i64 k) ∧ MkAt w' g A n c zs ∧ w.grownBy w' (some g) ∧ w'.heap.size = w.heap.size := by
  obtain ⟨a, h1, h2⟩ := hmk
  obtain ⟨p0, p1, pf⟩ := mk_two h1
  have hlt := (Array.getElem?_eq_some_iff.1 h1).1
  have hP := fun i => pick_any A n c zs i m hn hz hlen hm hm2
  have hR : ∀ x, RdI (w.setCell ⟨g, 1, none⟩ x) g .i64 A zs := fun x => rd_far h2 (by simp) x
  have hset : ∀ x, (w.setCell ⟨g, 1, none⟩ x).heap[g]? = some (.cells #[.slice A n c, x] 50 (0, 0)) := fun x => by rw [blk_set h1]; rfl
  have hsz : ∀ x, (w.setCell ⟨g, 1, none⟩ x).heap.size = w.heap.size := fun x => by simp [World.setCell]
  have hg : ∀ x, w.grownBy (w.setCell ⟨g, 1, none⟩ x) (some g) := fun x => ⟨rfl, rfl, rfl, by rw [hsz]; exact Nat.le_refl _, fun k _ hne => Below.heap_setCell w ⟨g, 1, none⟩ x k (fun e => hne (by rw [e]))⟩
  obtain ⟨a1, hx⟩ : ∃ a1, IntKind.i64.wrap (a + 1) = a1 := ⟨_, rfl⟩
  obtain ⟨a2, hy⟩ : ∃ a2, IntKind.i64.wrap (a1 - 1) = a2 := ⟨_, rfl⟩
  obtain ⟨k, hk, hC⟩ := pick_any A n c zs a2 m hn hz hlen hm hm2
  have hC' := hC (w.setCell ⟨g, 1, none⟩ (.int .i64 a1)).drew (((hR (.int .i64 a1)).mono (by show g ≤ (w.setCell _ _).heap.size; rw [hsz]; omega)).below (Below.refl _ _).drew)
  have hset' := Lib.hid (hset (.int .i64 a1))
  obtain ⟨q0, q1, _⟩ := mk_two (hset (.int .i64 a1))
  replace hR := Lib.hid (hR (.int .i64 a1))
  replace hg := Lib.hid (hg (.int .i64 a1))
  replace hsz := Lib.hid (hsz (.int .i64 a1))
  clear hset hC hP hz h2 hlen hn
  refine ⟨k, hk, ?_⟩
  go_enter Tryz.func37, Tryz.ntmps37
  go_wp2_with fail
  go_region_law (go_simp; go_at_call 55; refine Calls.mono hC' ?_; rintro e' w1 ⟨rfl, rfl⟩)
  all_goals
    go_wp2_with fail
    go_ret
    exact ⟨rfl, ⟨a1, hset'.out, hR.out⟩, ⟨hg.out.os, hg.out.tape, hg.out.output, hg.out.size, hg.out.block⟩, hsz.out⟩
end Go.Proofs.YtnjkihbmhacgoaaGreatDoor

namespace Go.Proofs.YtnjkihbmhacgoaaGreatDoor
open Go.RowKit

/-- how many nodes an expression of a depth has at most -/
def nb : Nat → Nat
  | 0 => 1
  | 1 => 1
  | 2 => 3
  | 3 => 7
  | _ => 22
/-- the list that a maker reads -/
structure MkL (n : Nat) (zs : List Int) : Prop where
  hn : n = zs.length
  hz : ∀ z ∈ zs, I64 z
  hl : zs.length ≤ 9223372036854775807
def MPost (w : World) (g : Nat) (A : Option Addr) (n c : Nat) (zs : List Int) (N : Nat) (e : Ending) (w' : World) : Prop := ∃ x v, e = .returned v ∧ RtV w' (Mid w.heap.size w'.heap.size) x v ∧ MkAt w' g A n c zs ∧ w.grownBy w' (some g) ∧ wfR x = true ∧ nodes x ≤ N
/-- regex's contract at a depth -/
def MC (d : Nat) : Prop := ∀ (g : Nat) (A : Option Addr) (n c : Nat) (zs : List Int) (w : World), MkAt w g A n c zs → MkL n zs → Calls Tryz.prog 18 #[.pointer (some ⟨g, 0, none⟩), .int .i64 d] w (MPost w g A n c zs (nb d))

theorem MkL.next {n : Nat} {zs : List Int} (h : MkL n zs) {g : Nat} {A : Option Addr} {c : Nat} {w : World} (hm : MkAt w g A n c zs) (m : Nat) (h1 : 1 ≤ m) (h2 : m ≤ 1000000) :
    ∃ k : Nat, k < m ∧ Calls Tryz.prog 37 #[.pointer (some ⟨g, 0, none⟩), .int .i64 m] w fun e w' => e = .returned (.int .i64 k) ∧ MkAt w' g A n c zs ∧ w.grownBy w' (some g) ∧ w'.heap.size = w.heap.size := next_any g A n c zs m w hm h.hn h.hz h.hl h1 h2
theorem MkAt.alloc {w : World} {g : Nat} {A : Option Addr} {n c : Nat} {zs : List Int} (h : MkAt w g A n c zs) (o : Obj) : MkAt (w.alloc o) g A n c zs := h.below ((Below.refl _ _).alloc (by have := h.lt; omega) o)

theorem MkAt.set {w : World} {g : Nat} {A : Option Addr} {n c : Nat} {zs : List Int} (h : MkAt w g A n c zs) {N : Nat} (hN : g < N) (i : Nat) (x : Value) : MkAt (w.setCell ⟨N, i, none⟩ x) g A n c zs := h.below ((Below.refl _ _).setCell (p := ⟨N, i, none⟩) (by simp; omega) x)
theorem MkAt.drew {w : World} {g : Nat} {A : Option Addr} {n c : Nat} {zs : List Int} (h : MkAt w g A n c zs) : MkAt w.drew g A n c zs := h
/-- what a maker's call leaves: all but block g, and what was made -/
theorem keepG {w w' : World} {g b : Nat} {o : Obj} (h : w.grownBy w' (some g)) (hb : w.heap[b]? = some o) (hne : b ≠ g) : w'.heap[b]? = some o :=
  (h.block b (Array.getElem?_eq_some_iff.1 hb).1 (fun e => by injection e with e; exact hne e)).trans hb
/-- the end of a leaf -/
theorem mk_fin {w W : World} {g : Nat} {A : Option Addr} {n c d : Nat} {zs : List Int} (hm : MkAt W g A n c zs) (hG : w.grownBy W (some g)) (hg : g < w.heap.size) {k lo hi : Int} (hk : k = 0 ∧ lo = 0 ∧ hi = 0 ∨ k = 1 ∧ lo = 0 ∧ hi = 0 ∨ k = 2 ∧ 0 ≤ lo ∧ lo ≤ hi ∧ hi < 256) :
    MPost w g A n c zs (nb d) (.returned (rxv k lo hi none 0 0)) ((((W.setCell ⟨w.heap.size, 0, none⟩ (.int .i64 k)).setCell ⟨w.heap.size, 1, none⟩ (.int .u8 lo)).setCell ⟨w.heap.size, 2, none⟩ (.int .u8 hi)).setCell ⟨w.heap.size, 3, none⟩ (.slice none 0 0)) :=
  ⟨.node k lo hi [], _, rfl, rt_leaf _ _ k lo hi (by unfold I64; omega) (by omega) (by omega), (((hm.set hg _ _).set hg _ _).set hg _ _).set hg _ _, fin4_grown hG (Nat.le_refl _) _ _ _ _, by
    rcases hk with ⟨rfl, rfl, rfl⟩ | ⟨rfl, rfl, rfl⟩ | ⟨rfl, h1, h2, h3⟩
    · decide
    · decide
    · rw [wfR_eq]; simp [wfK, h2], by simp only [nodes, nodesL]; unfold nb; split <;> omega⟩

theorem MPost.alloc {w w' : World} {g : Nat} {A : Option Addr} {n c N : Nat} {zs : List Int} {e : Ending} (h : MPost w g A n c zs N e w') (o : Obj) : MPost w g A n c zs N e (w'.alloc o) := by
  obtain ⟨x, v, h1, h2, h3, h4, h5, h6⟩ := h
  exact ⟨x, v, h1, RtV.to (fun b hb => ⟨⟨hb.1, by have := hb.2; simp; omega⟩, Below.heap_alloc w' o b hb.2⟩) x h2, h3.alloc o, h4.trans (World.grownBy_alloc w' o (some g)), h5, h6⟩
/-- the bytes of the table -/
theorem bytes_tab {W : World} {b k : Nat} (h : k < 10) (hb : W.heap[b]? = some (.cells #[.int .u8 97, .int .u8 98, .int .u8 97, .int .u8 98, .int .u8 99, .int .u8 0, .int .u8 39, .int .u8 92, .int .u8 255, .int .u8 32] 5 (0, 0))) : ∃ x : Int, (0 ≤ x ∧ x < 256) ∧ W.cell? ⟨b, k, none⟩ = some (.int .u8 x) := by
  have e := cell_of_row W b k _ _ _ hb
  obtain rfl | rfl | rfl | rfl | rfl | rfl | rfl | rfl | rfl | rfl : k = 0 ∨ k = 1 ∨ k = 2 ∨ k = 3 ∨ k = 4 ∨ k = 5 ∨ k = 6 ∨ k = 7 ∨ k = 8 ∨ k = 9 := by omega
  all_goals exact ⟨_, by decide, e⟩

set_option maxHeartbeats 2000000 in
set_option maxRecDepth 100000 in
theorem mreg_leaf (d : Nat) (hd : 1 ≤ d) (hd9 : d ≤ 9) (g : Nat) (A : Option Addr) (n c : Nat) (zs : List Int) (w : World) (hmk : MkAt w g A n c zs) (hL : MkL n zs) (k1 : Nat) (hk1 : k1 < 14) (hC1 : Calls Tryz.prog 37 #[.pointer (some ⟨g, 0, none⟩), .int .i64 (14 : Nat)] (w.alloc (.cells #[.int .i64 0, .int .u8 0, .int .u8 0, .slice none 0 0] 25)) fun e w' => e = .returned (.int .i64 k1) ∧ MkAt w' g A n c zs ∧ (w.alloc (.cells #[.int .i64 0, .int .u8 0, .int .u8 0, .slice none 0 0] 25)).grownBy w' (some g) ∧ w'.heap.size = (w.alloc (.cells #[.int .i64 0, .int .u8 0, .int .u8 0, .slice none 0 0] 25)).heap.size)
    (hp : d < 2 ∨ 7 < k1) : Calls Tryz.prog 18 #[.pointer (some ⟨g, 0, none⟩), .int .i64 d] w (MPost w g A n c zs (nb d)) := by
  have hglt := hmk.lt
  have hcase : (decide ((d : Int) < 2) = true) ∨ (decide ((d : Int) < 2) = false ∧ decide (7 < (k1 : Int)) = true) := by
    by_cases h : d < 2
    · exact .inl (decide_eq_true (by omega))
    · exact .inr ⟨decide_eq_false (by omega), decide_eq_true (by omega)⟩
  have hkt : ∀ (W : World) (b k2 : Nat), k2 < 6 → W.heap[b]? = some (.cells #[.int .i64 2, .int .i64 2, .int .i64 2, .int .i64 2, .int .i64 1, .int .i64 0] 3 (0, 0)) → ∃ kk : Int, (kk = 0 ∨ kk = 1 ∨ kk = 2) ∧ W.cell? ⟨b, k2, none⟩ = some (.int .i64 kk) := fun W b k2 h hb => by
    have e := cell_of_row W b k2 _ _ _ hb
    obtain rfl | rfl | rfl | rfl | rfl | rfl : k2 = 0 ∨ k2 = 1 ∨ k2 = 2 ∨ k2 = 3 ∨ k2 = 4 ∨ k2 = 5 := by omega
    · exact ⟨2, by decide, e⟩
    · exact ⟨2, by decide, e⟩
    · exact ⟨2, by decide, e⟩
    · exact ⟨2, by decide, e⟩
    · exact ⟨1, by decide, e⟩
    · exact ⟨0, by decide, e⟩
  clear hp
  rcases hcase with hc1 | ⟨hc1, hc2⟩
  all_goals
    go_enter Tryz.func18, Tryz.ntmps18
    go_wp2_with (go_at_call 37; refine Calls.mono hC1 ?_; clear hC1; rintro e w1 ⟨rfl, hm1, hg1, hs1⟩; simp at hs1)
    have hG1 : w.grownBy w1 (some g) := (World.grownBy_alloc w _ _).trans hg1
    have hr1 := keepG hg1 (heap_alloc_new w _) (by omega)
    obtain ⟨k2, hk2, hC2⟩ := hL.next (hm1.alloc (.cells #[.int .i64 2, .int .i64 2, .int .i64 2, .int .i64 2, .int .i64 1, .int .i64 0] 3)) 6 (by decide) (by decide)
    refine Calls.mono hC2 ?_
    clear hC2
    rintro e w2 ⟨rfl, hm2, hg2, hs2⟩
    simp at hs2
    have hG2 : w.grownBy w2 (some g) := hG1.trans ((World.grownBy_alloc w1 _ _).trans hg2)
    have hr2 := keepG hg2 ((Below.heap_alloc w1 _ w.heap.size (by omega)).trans hr1) (by omega)
    obtain ⟨kk, hkk, hck⟩ := hkt w2 w1.heap.size k2 hk2 (keepG hg2 (heap_alloc_new w1 _) (by omega))
    rw [hs1] at hck
    have z1 : (0 : Int) ≤ (k2 : Int) := by omega
    have z2 : (k2 : Int) < 6 := by omega
    clear hkt hm1 hg1 hr1 hg2 hG1
    obtain ⟨q0, q1, q2, q3⟩ := four hr2
    have hf2 := four_frozen hr2
    have hrest := hG2.size
    dsimp only
    have hco : ∀ (c0 c1 c2 c3 : Value) (o : Obj) (i : Nat), (((((w2.setCell ⟨w.heap.size, 0, none⟩ c0).setCell ⟨w.heap.size, 1, none⟩ c1).setCell ⟨w.heap.size, 2, none⟩ c2).setCell ⟨w.heap.size, 3, none⟩ c3).alloc o).cell? ⟨w.heap.size, i, none⟩ = ((((w2.setCell ⟨w.heap.size, 0, none⟩ c0).setCell ⟨w.heap.size, 1, none⟩ c1).setCell ⟨w.heap.size, 2, none⟩ c2).setCell ⟨w.heap.size, 3, none⟩ c3).cell? ⟨w.heap.size, i, none⟩ := fun _ _ _ _ o _ => cell_old (by rw [fin4_size]; omega) o
    replace hco := Lib.hid hco
    rcases hkk with rfl | rfl | rfl
    · go_wp2_with fail
      refine bodyPost_ret (v := rxv 0 0 0 none 0 0) (by unfold rxv; simp [results, Tryz.results18, go_sem, q0, q1, q2, q3, hco.out]) rfl ?_
      exact (mk_fin hm2 hG2 hglt (by simp)).alloc _
    · go_wp2_with fail
      refine bodyPost_ret (v := rxv 1 0 0 none 0 0) (by unfold rxv; simp [results, Tryz.results18, go_sem, q0, q1, q2, q3, hco.out]) rfl ?_
      exact (mk_fin hm2 hG2 hglt (by simp)).alloc _
    · clear hco
      go_wp2_with fail
      -- the two bytes
      obtain ⟨k3, hk3, hC3⟩ := hL.next ((hm2.alloc (.cells #[.int .i64 2, .int .u8 0, .int .u8 0, .slice none 0 0] 25)).alloc (.cells #[.int .u8 97, .int .u8 98, .int .u8 97, .int .u8 98, .int .u8 99, .int .u8 0, .int .u8 39, .int .u8 92, .int .u8 255, .int .u8 32] 5)) 10 (by decide) (by decide)
      refine Calls.mono hC3 ?_
      clear hC3
      rintro e w3 ⟨rfl, hm3, hg3, hs3⟩
      simp at hs3
      have hG3 : w.grownBy w3 (some g) := hG2.trans ((World.grownBy_alloc w2 _ _).trans ((World.grownBy_alloc _ _ _).trans hg3))
      have hr3 := keepG hg3 ((below_alloc2 (Below.refl w2.heap.size w2) (Nat.le_refl _) _ _).block w.heap.size (by omega) |>.trans hr2) (by omega)
      have ho3 := keepG hg3 ((heap_alloc_old _ _ _ (by simp)).trans (heap_alloc_new w2 _)) (by omega)
      have ht3 := keepG (b := w2.heap.size + 1) hg3 (heap_alloc_new_at (w2.alloc (.cells #[.int .i64 2, .int .u8 0, .int .u8 0, .slice none 0 0] 25)) _ (by simp)) (by omega)
      obtain ⟨lo, hlo, hcl⟩ := bytes_tab hk3 ht3
      rw [hs2, hs1] at hcl
      obtain ⟨⟨x0, x1, x2, x3⟩, xf0, xf1, xf2, xf3⟩ := four' ho3
      rw [hs2, hs1] at x0 x1 x2 x3 xf0 xf1 xf2 xf3
      have y1 : (0 : Int) ≤ (k3 : Int) := by omega
      have y2 : (k3 : Int) < 10 := by omega
      clear ht3 q0 q1 q2 q3 hf2 hck z1 z2 hr2 hG2 hm2 hg3
      dsimp only
      go_wp2_with fail
      have hN : w2.heap.size = w.heap.size + 1 + 1 := by omega
      rw [hN] at ho3
      obtain ⟨W4, hW4⟩ : ∃ W4, (w3.setCell ⟨w.heap.size + 1 + 1, 1, none⟩ (.int .u8 lo)).setCell ⟨w.heap.size + 1 + 1, 2, none⟩ (.int .u8 lo) = W4 := ⟨_, rfl⟩
      have hm4 : MkAt W4 g A n c zs := hW4 ▸ (hm3.set (by omega) _ _).set (by omega) _ _
      have hG4 : w.grownBy W4 (some g) := hW4 ▸ grown_far1 (grown_far1 hG3 (by omega) _ _) (by omega) _ _
      have ho4 : W4.heap[w.heap.size + 1 + 1]? = some (.cells #[.int .i64 2, .int .u8 lo, .int .u8 lo, .slice none 0 0] 25 (0, 0)) := by
        rw [← hW4, blk_set (blk_set ho3 _) _]; rfl
      have hr4 : W4.heap[w.heap.size]? = some (.cells #[.int .i64 0, .int .u8 0, .int .u8 0, .slice none 0 0] 25 (0, 0)) := by
        rw [← hW4, Below.heap_setCell _ _ _ _ (by simp; omega), Below.heap_setCell _ _ _ _ (by simp; omega)]; exact hr3
      have hs4 : W4.heap.size = w3.heap.size := by rw [← hW4]; simp [World.setCell]
      rw [hW4]
      obtain ⟨k4, hk4, hC4⟩ := hL.next hm4 4 (by decide) (by decide)
      refine Calls.mono hC4 ?_
      clear hC4 hW4 hm3 hG3 hr3 ho3 x0 x1 x2 x3 xf0 xf1 xf2 xf3 hcl
      rintro e w5 ⟨rfl, hm5, hg5, hs5⟩
      have hG5 := hG4.trans hg5
      have hr5 := keepG hg5 hr4 (by omega)
      have ho5 := keepG hg5 ho4 (by omega)
      obtain ⟨⟨x0, x1, x2, x3⟩, xf0, xf1, xf2, xf3⟩ := four' ho5
      obtain ⟨q0, q1, q2, q3⟩ := four hr5
      have hf5 := four_frozen hr5
      clear hG4 hr4 hm4 hg5
      dsimp only
      by_cases h4 : k4 = 0
      · subst h4
        go_wp2_with fail
        obtain ⟨k6, hk6, hC6⟩ := hL.next hm5.drew 256 (by decide) (by decide)
        have hwr : IntKind.u8.wrap (k6 : Int) = k6 := by simp [IntKind.wrap, IntKind.bits, IntKind.signed]; omega
        have hb : lo ≤ (if lo < (k6 : Int) then (k6 : Int) else lo) ∧ (if lo < (k6 : Int) then (k6 : Int) else lo) < 256 := by split <;> omega
        go_region_law (go_simp; go_at_call 37; refine Calls.mono hC6 ?_; rintro e w6 ⟨rfl, hm6, hg6, hs6⟩; simp at hs6; have hr6 := keepG (b := w.heap.size) hg6 hr5 (by omega); have ho6 := keepG (b := w.heap.size + 1 + 1) hg6 ho5 (by omega); obtain ⟨⟨z0, z1, z2, z3⟩, zf0, zf1, zf2, zf3⟩ := four' ho6)
        all_goals
          have hG6 : w.grownBy w6 (some g) := hG5.trans ⟨hg6.os, hg6.tape, hg6.output, hg6.size, hg6.block⟩
          generalize (if lo < (k6 : Int) then (k6 : Int) else lo) = hi at hb ⊢
          obtain ⟨W7, hW7⟩ : ∃ W7, w6.setCell ⟨w.heap.size + 1 + 1, 2, none⟩ (.int .u8 hi) = W7 := ⟨_, rfl⟩
          have hm7 : MkAt W7 g A n c zs := hW7 ▸ hm6.set (by omega) _ _
          have hG7 : w.grownBy W7 (some g) := hW7 ▸ grown_far1 hG6 (by omega) _ _
          have ho7 : W7.heap[w.heap.size + 1 + 1]? = some (.cells #[.int .i64 2, .int .u8 lo, .int .u8 hi, .slice none 0 0] 25 (0, 0)) := by
            rw [← hW7, blk_set ho6 _]; rfl
          have hr7 : W7.heap[w.heap.size]? = some (.cells #[.int .i64 0, .int .u8 0, .int .u8 0, .slice none 0 0] 25 (0, 0)) := by
            rw [← hW7, Below.heap_setCell _ _ _ _ (by simp; omega)]; exact hr6
          rw [hW7]
          clear hW7 z0 z1 z2 z3 zf0 zf1 zf2 zf3 x0 x1 x2 x3 xf0 xf1 xf2 xf3 q0 q1 q2 q3 hf5 ho6 hr6 hm6 hg6
          obtain ⟨x0, x1, x2, x3⟩ := four ho7
          obtain ⟨q0, q1, q2, q3⟩ := four hr7
          have hf7 := four_frozen hr7
          go_wp2_with fail
          refine bodyPost_ret (v := rxv 2 lo hi none 0 0) (by unfold rxv; simp [results, Tryz.results18, go_sem, q0, q1, q2, q3]) rfl ?_
          exact mk_fin hm7 hG7 hglt (.inr (.inr ⟨rfl, hlo.1, hb.1, hb.2⟩))
      · have h4' : ((k4 : Int) == 0) = false := beq_eq_false_iff_ne.2 (by omega)
        go_wp2_with fail
        refine bodyPost_ret (v := rxv 2 lo lo none 0 0) (by unfold rxv; simp [results, Tryz.results18, go_sem, q0, q1, q2, q3]) rfl ?_
        exact mk_fin hm5 hG5 hglt (.inr (.inr ⟨rfl, hlo.1, Int.le_refl _, hlo.2⟩))
end Go.Proofs.YtnjkihbmhacgoaaGreatDoor
