/-
  THE WALK of Spoilt: an expression with something changed.
-/
import Derived.Test.YtijcjknaphboeaaGreatDoorRxMadeE
namespace Go.Proofs.YtijcjknaphboeaaGreatDoor
open Go.RowKit

/-- some expression, of old memory and new -/
def SpoOk (w : World) (e : Ending) (w' : World) : Prop := ∃ y v, e = .returned v ∧ RtV w' (Lo w'.heap.size) y v ∧ Below w.heap.size w w' ∧ nodes y ≤ 200
theorem u8_range (b : Int) : 0 ≤ IntKind.u8.wrap b ∧ IntKind.u8.wrap b < 256 := by
  have : IntKind.u8.wrap b = b % 256 := by simp [IntKind.wrap, IntKind.bits, IntKind.signed]
  omega

set_option maxHeartbeats 2000000 in
set_option maxRecDepth 100000 in
theorem spo_low (x : Rx) (v : Value) (how b : Int) (w : World) (k : Nat) (hk : k = 0 ∨ k = 1 ∨ k = 2 ∨ k = 4) (hA : ∀ w : World, Calls Tryz.prog 24 #[.int .i64 how, .int .i64 (7 : Nat)] w fun e w' => e = .returned (.int .i64 k) ∧ w = w') (hb : I64 b) (hv : RtV w (Lo w.heap.size) x v) (hx : nodes x ≤ 22) :
    Calls Tryz.prog 8 #[v, .int .i64 how, .int .i64 b] w (SpoOk w) := by
  have hb0 : ∀ o1 o2, Below w.heap.size w ((w.alloc o1).alloc o2) := fun o1 o2 => below_alloc2 (Below.refl _ _) (Nat.le_refl _) _ _
  obtain ⟨xk, xl, xh, s⟩ := x
  obtain ⟨⟨ok1, ok2, ok3, ok4⟩, A, c, rfl, hc, hAn, hs⟩ := hv.parts
  simp only [Rx.kind, Rx.lo, Rx.hi, Rx.kids] at ok1 ok2 ok3 ok4 hc hs ⊢
  have hns : nodesL s + 1 ≤ 22 := by simp only [nodes] at hx; omega
  have hu : 0 ≤ b % 256 ∧ b % 256 < 256 := by omega
  have hk' := Lib.hid hk
  clear hk hv hx
  unfold rxv
  rcases hk'.out with rfl | rfl | rfl | rfl
  · go_enter Tryz.func8, Tryz.ntmps8
    go_wp2_with (go_at_call 24; refine Calls.mono (hA _) ?_; clear hA; rintro e w1 ⟨rfl, rfl⟩)
    refine bodyPost_ret (v := rxv b xl xh A s.length c) (by unfold rxv; simp [results, Tryz.results8, go_sem]) rfl ?_
    exact ⟨.node b xl xh s, _, rfl, RtV.mk ⟨hb, ok2, ok3, ok4⟩ hc hAn ((hs.below (hb0 _ _)).mono (hb0 _ _).size), hb0 _ _, by simp only [nodes]; omega⟩
  · go_enter Tryz.func8, Tryz.ntmps8
    go_wp2_with (go_at_call 24; refine Calls.mono (hA _) ?_; clear hA; rintro e w1 ⟨rfl, rfl⟩)
    refine bodyPost_ret (v := rxv xk (b % 256) xh A s.length c) (by unfold rxv; simp [results, Tryz.results8, go_sem]) rfl ?_
    exact ⟨.node xk (b % 256) xh s, _, rfl, RtV.mk ⟨ok1, hu, ok3, ok4⟩ hc hAn ((hs.below (hb0 _ _)).mono (hb0 _ _).size), hb0 _ _, by simp only [nodes]; omega⟩
  · go_enter Tryz.func8, Tryz.ntmps8
    go_wp2_with (go_at_call 24; refine Calls.mono (hA _) ?_; clear hA; rintro e w1 ⟨rfl, rfl⟩)
    refine bodyPost_ret (v := rxv xk xl (b % 256) A s.length c) (by unfold rxv; simp [results, Tryz.results8, go_sem]) rfl ?_
    exact ⟨.node xk xl (b % 256) s, _, rfl, RtV.mk ⟨ok1, ok2, hu, ok4⟩ hc hAn ((hs.below (hb0 _ _)).mono (hb0 _ _).size), hb0 _ _, by simp only [nodes]; omega⟩
  · go_enter Tryz.func8, Tryz.ntmps8
    go_wp2_with (go_at_call 24; refine Calls.mono (hA _) ?_; clear hA; rintro e w1 ⟨rfl, rfl⟩)
    refine bodyPost_ret (v := rxv xk xl xh none 0 0) (by unfold rxv; simp [results, Tryz.results8, go_sem]) rfl ?_
    exact ⟨.node xk xl xh [], _, rfl, RtV.mk ⟨ok1, ok2, ok3, by simp⟩ (by simp) (fun _ => rfl) (by simp only [RtL]), hb0 _ _, by simp only [nodes, nodesL]; omega⟩
end Go.Proofs.YtijcjknaphboeaaGreatDoor
