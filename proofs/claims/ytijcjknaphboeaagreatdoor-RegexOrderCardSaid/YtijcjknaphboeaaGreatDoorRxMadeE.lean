/-
  THE WALK of Made: an expression of numbers, at most 22 nodes, well formed.
-/
import Derived.Test.YtijcjknaphboeaaGreatDoorRxMadeD
namespace Go.Proofs.YtijcjknaphboeaaGreatDoor
open Go.RowKit

theorem mc_of (d : Nat) (hd : 1 ≤ d) (hd4 : d ≤ 4) (ih : 2 ≤ d → MC (d - 1)) : MC d := by
  intro g A n c zs w hmk hL
  obtain ⟨k1, hk1, hC1⟩ := hL.next (hmk.alloc (.cells #[.int .i64 0, .int .u8 0, .int .u8 0, .slice none 0 0] 25)) 14 (by decide) (by decide)
  by_cases hp : d < 2 ∨ 7 < k1
  · exact mreg_leaf d hd (by omega) g A n c zs w hmk hL k1 hk1 hC1 hp
  · have hd2 : 2 ≤ d := by omega
    have ih' := ih hd2
    by_cases h2 : k1 ≤ 2
    · exact mreg_low d hd2 (by omega) g A n c zs w hmk hL k1 (by omega) hC1
    · by_cases h5 : k1 ≤ 5
      · by_cases h4 : d = 4
        · exact mreg_many4 d h4 ih' g A n c zs w hmk hL k1 (by omega) hC1
        · exact mreg_many d (by omega) ih' g A n c zs w hmk hL k1 (by omega) hC1
      · exact mreg_one d hd2 hd4 ih' g A n c zs w hmk hL k1 (by omega) hC1
theorem mc1 : MC 1 := mc_of 1 (by decide) (by decide) (fun h => absurd h (by decide))
theorem mc2 : MC 2 := mc_of 2 (by decide) (by decide) (fun _ => mc1)
theorem mc3 : MC 3 := mc_of 3 (by decide) (by decide) (fun _ => mc2)
theorem mc4 : MC 4 := mc_of 4 (by decide) (by decide) (fun _ => mc3)

/-- a generator's answer: some expression of new memory -/
def MadeOk (w : World) (e : Ending) (w' : World) : Prop := ∃ x v, e = .returned v ∧ RtV w' (Mid w.heap.size w'.heap.size) x v ∧ Below w.heap.size w w' ∧ wfR x = true ∧ nodes x ≤ 22
set_option maxHeartbeats 1000000 in
theorem made_any (A : Option Addr) (n c : Nat) (zs : List Int) (w : World) (hL : MkL n zs) (hr : RdI w w.heap.size .i64 A zs) : Calls Tryz.prog 7 #[.slice A n c] w (MadeOk w) := by
  have hb0 : ∀ o1 o2, Below w.heap.size w ((w.alloc o1).alloc o2) := fun o1 o2 => below_alloc2 (Below.refl _ _) (Nat.le_refl _) _ _
  obtain ⟨W, hW⟩ : ∃ W, (w.alloc (.cells #[.int .i64 0, .int .u8 0, .int .u8 0, .slice none 0 0] 25)).alloc (.cells #[.slice A n c, .int .i64 0] 60) = W := ⟨_, rfl⟩
  have hm : MkAt W (w.heap.size + 1) A n c zs := ⟨0, hW ▸ heap_alloc_new_at _ _ (by simp), (hW ▸ hr.below (hb0 _ _)).mono (by omega)⟩
  have hr0 : W.heap[w.heap.size]? = some (.cells #[.int .i64 0, .int .u8 0, .int .u8 0, .slice none 0 0] 25 (0, 0)) := hW ▸ (heap_alloc_old _ _ _ (by simp)).trans (heap_alloc_new w _)
  have hB : Below w.heap.size w W := hW ▸ hb0 _ _
  have hs : W.heap.size = w.heap.size + 2 := by rw [← hW]; simp
  have hC := mc4 (w.heap.size + 1) A n c zs W hm hL
  clear hr hm
  go_enter Tryz.func7, Tryz.ntmps7
  go_wp2_with (go_at_call 26; refine Calls.mono hC ?_; clear hC; rintro e w1 ⟨x, v, rfl, hv, hm1, hg1, hwx, hnx⟩; obtain ⟨_, A1, c1, rfl, _⟩ := hv.parts; have hr1 := keepG (b := w.heap.size) hg1 hr0 (by omega); obtain ⟨q0, q1, q2, q3⟩ := four hr1; have hf1 := four_frozen hr1; simp only [rxv])
  refine bodyPost_ret (v := rxv x.kind x.lo x.hi A1 x.kids.length c1) (by unfold rxv; simp [results, Tryz.results7, go_sem, q0, q1, q2, q3]) rfl ?_
  refine ⟨x, _, rfl, RtV.to (fun b hb => ⟨⟨by have := hb.1; omega, by rw [fin4_size]; exact hb.2⟩, fin4 _ _ _ _ (by have := hb.1; omega)⟩) x hv, fin4_below (hB.grown hg1 hB.size (fun j ej => by injection ej with ej; omega)) (Nat.le_refl _) _ _ _ _, hwx, hnx⟩
end Go.Proofs.YtijcjknaphboeaaGreatDoor
