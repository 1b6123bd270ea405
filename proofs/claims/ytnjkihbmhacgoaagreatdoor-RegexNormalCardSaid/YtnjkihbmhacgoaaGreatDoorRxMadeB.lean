/-
  THE WALK of the maker's regex at a leaf whose kind comes at once. (The text of XRxMade's leaf, by gen/genmade.py.)
-/
import Derived.Test.YtnjkihbmhacgoaaGreatDoorRxMade
namespace Go.Proofs.YtnjkihbmhacgoaaGreatDoor
open Go.RowKit

set_option maxHeartbeats 2000000 in
set_option maxRecDepth 100000 in
theorem mreg_low (d : Nat) (hd : 2 ≤ d) (hd9 : d ≤ 9) (g : Nat) (A : Option Addr) (n c : Nat) (zs : List Int) (w : World) (hmk : MkAt w g A n c zs) (hL : MkL n zs) (kk : Int) (hkk : kk = 0 ∨ kk = 1 ∨ kk = 2) (hC1 : Calls Tryz.prog 37 #[.pointer (some ⟨g, 0, none⟩), .int .i64 (14 : Nat)] (w.alloc (.cells #[.int .i64 0, .int .u8 0, .int .u8 0, .slice none 0 0] 25)) fun e w' => e = .returned (.int .i64 kk) ∧ MkAt w' g A n c zs ∧ (w.alloc (.cells #[.int .i64 0, .int .u8 0, .int .u8 0, .slice none 0 0] 25)).grownBy w' (some g) ∧ w'.heap.size = (w.alloc (.cells #[.int .i64 0, .int .u8 0, .int .u8 0, .slice none 0 0] 25)).heap.size) :
    Calls Tryz.prog 18 #[.pointer (some ⟨g, 0, none⟩), .int .i64 d] w (MPost w g A n c zs (nb d)) := by
  have hglt := hmk.lt
  have hc1 : decide ((d : Int) < 2) = false := decide_eq_false (by omega)
  have hdone : True := trivial
  rcases hdone
  all_goals
    go_enter Tryz.func18, Tryz.ntmps18
    have hc2 : decide (7 < kk) = false := decide_eq_false (by omega)
    have hkk' := Lib.hid hkk
    clear hkk
    rcases hkk'.out with rfl | rfl | rfl
    · go_wp2_with (go_at_call 37; refine Calls.mono hC1 ?_; clear hC1; rintro e w1 ⟨rfl, hm1, hg1, hs1⟩; simp at hs1; have hG1 : w.grownBy w1 (some g) := (World.grownBy_alloc w _ _).trans hg1; have hr1 := keepG hg1 (heap_alloc_new w _) (by omega); obtain ⟨q0, q1, q2, q3⟩ := four hr1; have hf1 := four_frozen hr1)
      have hco : ∀ (c0 c1 c2 c3 : Value) (o : Obj) (i : Nat), (((((w1.setCell ⟨w.heap.size, 0, none⟩ c0).setCell ⟨w.heap.size, 1, none⟩ c1).setCell ⟨w.heap.size, 2, none⟩ c2).setCell ⟨w.heap.size, 3, none⟩ c3).alloc o).cell? ⟨w.heap.size, i, none⟩ = ((((w1.setCell ⟨w.heap.size, 0, none⟩ c0).setCell ⟨w.heap.size, 1, none⟩ c1).setCell ⟨w.heap.size, 2, none⟩ c2).setCell ⟨w.heap.size, 3, none⟩ c3).cell? ⟨w.heap.size, i, none⟩ := fun _ _ _ _ o _ => cell_old (by rw [fin4_size]; omega) o
      replace hco := Lib.hid hco
      refine bodyPost_ret (v := rxv 0 0 0 none 0 0) (by unfold rxv; simp [results, Tryz.results18, go_sem, q0, q1, q2, q3, hco.out]) rfl ?_
      exact (mk_fin hm1 hG1 hglt (by simp)).alloc _
    · go_wp2_with (go_at_call 37; refine Calls.mono hC1 ?_; clear hC1; rintro e w1 ⟨rfl, hm1, hg1, hs1⟩; simp at hs1; have hG1 : w.grownBy w1 (some g) := (World.grownBy_alloc w _ _).trans hg1; have hr1 := keepG hg1 (heap_alloc_new w _) (by omega); obtain ⟨q0, q1, q2, q3⟩ := four hr1; have hf1 := four_frozen hr1)
      have hco : ∀ (c0 c1 c2 c3 : Value) (o : Obj) (i : Nat), (((((w1.setCell ⟨w.heap.size, 0, none⟩ c0).setCell ⟨w.heap.size, 1, none⟩ c1).setCell ⟨w.heap.size, 2, none⟩ c2).setCell ⟨w.heap.size, 3, none⟩ c3).alloc o).cell? ⟨w.heap.size, i, none⟩ = ((((w1.setCell ⟨w.heap.size, 0, none⟩ c0).setCell ⟨w.heap.size, 1, none⟩ c1).setCell ⟨w.heap.size, 2, none⟩ c2).setCell ⟨w.heap.size, 3, none⟩ c3).cell? ⟨w.heap.size, i, none⟩ := fun _ _ _ _ o _ => cell_old (by rw [fin4_size]; omega) o
      replace hco := Lib.hid hco
      refine bodyPost_ret (v := rxv 1 0 0 none 0 0) (by unfold rxv; simp [results, Tryz.results18, go_sem, q0, q1, q2, q3, hco.out]) rfl ?_
      exact (mk_fin hm1 hG1 hglt (by simp)).alloc _
    · go_wp2_with (go_at_call 37; refine Calls.mono hC1 ?_; clear hC1; rintro e w1 ⟨rfl, hm1, hg1, hs1⟩; simp at hs1; have hG1 : w.grownBy w1 (some g) := (World.grownBy_alloc w _ _).trans hg1; have hr1 := keepG hg1 (heap_alloc_new w _) (by omega); obtain ⟨q0, q1, q2, q3⟩ := four hr1; have hf1 := four_frozen hr1)
      -- the two bytes
      obtain ⟨k3, hk3, hC3⟩ := hL.next ((hm1.alloc (.cells #[.int .i64 2, .int .u8 0, .int .u8 0, .slice none 0 0] 25)).alloc (.cells #[.int .u8 97, .int .u8 98, .int .u8 97, .int .u8 98, .int .u8 99, .int .u8 0, .int .u8 39, .int .u8 92, .int .u8 255, .int .u8 32] 5)) 10 (by decide) (by decide)
      refine Calls.mono hC3 ?_
      clear hC3
      rintro e w3 ⟨rfl, hm3, hg3, hs3⟩
      simp at hs3
      have hG3 : w.grownBy w3 (some g) := hG1.trans ((World.grownBy_alloc w1 _ _).trans ((World.grownBy_alloc _ _ _).trans hg3))
      have hr3 := keepG hg3 ((below_alloc2 (Below.refl w1.heap.size w1) (Nat.le_refl _) _ _).block w.heap.size (by omega) |>.trans hr1) (by omega)
      have ho3 := keepG hg3 ((heap_alloc_old _ _ _ (by simp)).trans (heap_alloc_new w1 _)) (by omega)
      have ht3 := keepG (b := w1.heap.size + 1) hg3 (heap_alloc_new_at (w1.alloc (.cells #[.int .i64 2, .int .u8 0, .int .u8 0, .slice none 0 0] 25)) _ (by simp)) (by omega)
      obtain ⟨lo, hlo, hcl⟩ := bytes_tab hk3 ht3
      rw [hs1] at hcl
      obtain ⟨⟨x0, x1, x2, x3⟩, xf0, xf1, xf2, xf3⟩ := four' ho3
      rw [hs1] at x0 x1 x2 x3 xf0 xf1 xf2 xf3
      have y1 : (0 : Int) ≤ (k3 : Int) := by omega
      have y2 : (k3 : Int) < 10 := by omega
      clear ht3 q0 q1 q2 q3 hf1 hr1 hG1 hm1 hg3
      dsimp only
      go_wp2_with fail
      have hN : w1.heap.size = w.heap.size + 1 := by omega
      rw [hN] at ho3
      obtain ⟨W4, hW4⟩ : ∃ W4, (w3.setCell ⟨w.heap.size + 1, 1, none⟩ (.int .u8 lo)).setCell ⟨w.heap.size + 1, 2, none⟩ (.int .u8 lo) = W4 := ⟨_, rfl⟩
      have hm4 : MkAt W4 g A n c zs := hW4 ▸ (hm3.set (by omega) _ _).set (by omega) _ _
      have hG4 : w.grownBy W4 (some g) := hW4 ▸ grown_far1 (grown_far1 hG3 (by omega) _ _) (by omega) _ _
      have ho4 : W4.heap[w.heap.size + 1]? = some (.cells #[.int .i64 2, .int .u8 lo, .int .u8 lo, .slice none 0 0] 25 (0, 0)) := by
        rw [← hW4, blk_set (blk_set ho3 _) _]; rfl
      have hr4 : W4.heap[w.heap.size]? = some (.cells #[.int .i64 0, .int .u8 0, .int .u8 0, .slice none 0 0] 25 (0, 0)) := by
        rw [← hW4, Below.heap_setCell _ _ _ _ (by simp <;> omega), Below.heap_setCell _ _ _ _ (by simp <;> omega)]; exact hr3
      have hs4 : W4.heap.size = w3.heap.size := by rw [← hW4]; simp [World.setCell]
      rw [hW4]
      obtain ⟨k4, hk4, hC4⟩ := hL.next hm4 4 (by decide) (by decide)
      refine Calls.mono hC4 ?_
      clear hC4 hW4 hm3 hG3 hr3 ho3 x0 x1 x2 x3 xf0 xf1 xf2 xf3 hcl
      rintro e w5 ⟨rfl, hm5, hg5, hs5⟩
      have hG5 := hG4.trans hg5
      have hr5 := keepG hg5 hr4 (by omega)
      have ho5 := keepG hg5 ho4 (by omega)
      obtain ⟨⟨x0, x1, x2, x3⟩, xf0, xf1, xf2, xf3⟩ := four' ho5
      obtain ⟨q0, q1, q2, q3⟩ := four hr5
      have hf5 := four_frozen hr5
      clear hG4 hr4 hm4 hg5
      dsimp only
      by_cases h4 : k4 = 0
      · subst h4
        go_wp2_with fail
        obtain ⟨k6, hk6, hC6⟩ := hL.next hm5.drew 256 (by decide) (by decide)
        have hwr : IntKind.u8.wrap (k6 : Int) = k6 := by simp [IntKind.wrap, IntKind.bits, IntKind.signed]; omega
        have hb : lo ≤ (if lo < (k6 : Int) then (k6 : Int) else lo) ∧ (if lo < (k6 : Int) then (k6 : Int) else lo) < 256 := by split <;> omega
        go_region_law (go_simp; go_at_call 37; refine Calls.mono hC6 ?_; rintro e w6 ⟨rfl, hm6, hg6, hs6⟩; simp at hs6; have hr6 := keepG (b := w.heap.size) hg6 hr5 (by omega); have ho6 := keepG (b := w.heap.size + 1) hg6 ho5 (by omega); obtain ⟨⟨z0, z1, z2, z3⟩, zf0, zf1, zf2, zf3⟩ := four' ho6)
        all_goals
          have hG6 : w.grownBy w6 (some g) := hG5.trans ⟨hg6.os, hg6.tape, hg6.output, hg6.size, hg6.block⟩
          generalize (if lo < (k6 : Int) then (k6 : Int) else lo) = hi at hb ⊢
          obtain ⟨W7, hW7⟩ : ∃ W7, w6.setCell ⟨w.heap.size + 1, 2, none⟩ (.int .u8 hi) = W7 := ⟨_, rfl⟩
          have hm7 : MkAt W7 g A n c zs := hW7 ▸ hm6.set (by omega) _ _
          have hG7 : w.grownBy W7 (some g) := hW7 ▸ grown_far1 hG6 (by omega) _ _
          have ho7 : W7.heap[w.heap.size + 1]? = some (.cells #[.int .i64 2, .int .u8 lo, .int .u8 hi, .slice none 0 0] 25 (0, 0)) := by
            rw [← hW7, blk_set ho6 _]; rfl
          have hr7 : W7.heap[w.heap.size]? = some (.cells #[.int .i64 0, .int .u8 0, .int .u8 0, .slice none 0 0] 25 (0, 0)) := by
            rw [← hW7, Below.heap_setCell _ _ _ _ (by simp <;> omega)]; exact hr6
          rw [hW7]
          clear hW7 z0 z1 z2 z3 zf0 zf1 zf2 zf3 x0 x1 x2 x3 xf0 xf1 xf2 xf3 q0 q1 q2 q3 hf5 ho6 hr6 hm6 hg6
          obtain ⟨x0, x1, x2, x3⟩ := four ho7
          obtain ⟨q0, q1, q2, q3⟩ := four hr7
          have hf7 := four_frozen hr7
          go_wp2_with fail
          refine bodyPost_ret (v := rxv 2 lo hi none 0 0) (by unfold rxv; simp [results, Tryz.results18, go_sem, q0, q1, q2, q3]) rfl ?_
          exact mk_fin hm7 hG7 hglt (.inr (.inr ⟨rfl, hlo.1, hb.1, hb.2⟩))
      · have h4' : ((k4 : Int) == 0) = false := beq_eq_false_iff_ne.2 (by omega)
        go_wp2_with fail
        refine bodyPost_ret (v := rxv 2 lo lo none 0 0) (by unfold rxv; simp [results, Tryz.results18, go_sem, q0, q1, q2, q3]) rfl ?_
        exact mk_fin hm5 hG5 hglt (.inr (.inr ⟨rfl, hlo.1, Int.le_refl _, hlo.2⟩))
end Go.Proofs.YtnjkihbmhacgoaaGreatDoor
