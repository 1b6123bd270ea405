/-
  THE WALKS of Pick and of the maker's next.
-/
import Derived.Test.YtijcjknaphboeaaGreatDoorRxForm
import Derived.Test.YtijcjknaphboeaaGreatDoorRef
import Derived.Deep.RegionLaw
namespace Go.Proofs.YtijcjknaphboeaaGreatDoor
open Go.RowKit

theorem pick_any (A : Option Addr) (n c : Nat) (zs : List Int) (i : Int) (m : Nat) (hn : n = zs.length) (hz : ∀ z ∈ zs, I64 z) (hlen : zs.length ≤ 9223372036854775807) (hm : 1 ≤ m) (hm2 : m ≤ 1000000) :
    ∃ k : Nat, k < m ∧ ∀ w : World, RdI w w.heap.size .i64 A zs → Calls Tryz.prog 64 #[.slice A n c, .int .i64 i, .int .i64 m] w fun e w' => e = .returned (.int .i64 k) ∧ w = w' := by
  by_cases h0 : i < 0
  · refine ⟨0, by omega, fun w _ => ?_⟩
    have h0' : decide (i < 0) = true := decide_eq_true h0
    go_enter Tryz.func64, Tryz.ntmps64
    go_wp2_with fail
    go_ret
    exact ⟨rfl, rfl⟩
  · have h0' : decide (i < 0) = false := decide_eq_false h0
    by_cases h1 : (n : Int) ≤ i
    · refine ⟨0, by omega, fun w _ => ?_⟩
      have h1' : decide ((n : Int) ≤ i) = true := decide_eq_true h1
      go_enter Tryz.func64, Tryz.ntmps64
      go_wp2_with fail
      go_ret
      exact ⟨rfl, rfl⟩
    · have h1' : decide ((n : Int) ≤ i) = false := decide_eq_false h1
      obtain ⟨j, rfl⟩ : ∃ j : Nat, i = j := ⟨i.toNat, by omega⟩
      have hj : j < zs.length := by omega
      have hzj : I64 (zs[j]?.getD 0) := hz _ (by rw [List.getElem?_eq_getElem hj]; exact List.getElem_mem hj)
      obtain ⟨k, hk, hA⟩ := Around_nat (zs[j]?.getD 0) m hzj hm hm2
      refine ⟨k, hk, fun w hr => ?_⟩
      obtain ⟨b, o, rfl, _, hcell⟩ := hr.at_ hj
      generalize zs[j]?.getD 0 = z at *
      subst hn
      clear hr
      go_enter Tryz.func64, Tryz.ntmps64
      go_wp2_with (go_at_call 24; refine Calls.mono (hA _) ?_; clear hA; rintro e w1 ⟨rfl, rfl⟩)
      go_ret
      exact ⟨rfl, rfl⟩

/-- block g holds a maker over the list zs -/
def MkAt (w : World) (g : Nat) (A : Option Addr) (n c : Nat) (zs : List Int) : Prop := ∃ a : Int, w.heap[g]? = some (.cells #[.slice A n c, .int .i64 a] 60 (0, 0)) ∧ RdI w g .i64 A zs
theorem MkAt.lt {w : World} {g : Nat} {A : Option Addr} {n c : Nat} {zs : List Int} (h : MkAt w g A n c zs) : g < w.heap.size := by
  obtain ⟨a, h1, _⟩ := h
  exact (Array.getElem?_eq_some_iff.1 h1).1
theorem MkAt.below {w w' : World} {g : Nat} {A : Option Addr} {n c : Nat} {zs : List Int} (h : MkAt w g A n c zs) (hb : Below (g + 1) w w') : MkAt w' g A n c zs := by
  obtain ⟨a, h1, h2⟩ := h
  exact ⟨a, (hb.block g (by omega)).trans h1, h2.below (hb.mono (by omega))⟩
theorem mk_two {w : World} {g : Nat} {u v : Value} {t : TypeId} (h : w.heap[g]? = some (.cells #[u, v] t (0, 0))) : w.cell? ⟨g, 0, none⟩ = some u ∧ w.cell? ⟨g, 1, none⟩ = some v ∧ w.frozen? ⟨g, 1, none⟩ = false :=
  ⟨by rw [cell_of_row w g 0 _ t _ h]; rfl, by rw [cell_of_row w g 1 _ t _ h]; rfl, by simp [World.frozen?, h]⟩

set_option maxHeartbeats 1000000 in
theorem next_any (g : Nat) (A : Option Addr) (n c : Nat) (zs : List Int) (m : Nat) (w : World) (hmk : MkAt w g A n c zs) (hn : n = zs.length) (hz : ∀ z ∈ zs, I64 z) (hlen : zs.length ≤ 9223372036854775807) (hm : 1 ≤ m) (hm2 : m ≤ 1000000) :
    ∃ k : Nat, k < m ∧ Calls Tryz.prog 45 #[.pointer (some ⟨g, 0, none⟩), .int .i64 m] w fun e w' => e = .returned (.int .i64 k) ∧ MkAt w' g A n c zs ∧ w.grownBy w' (some g) ∧ w'.heap.size = w.heap.size := by
  obtain ⟨a, h1, h2⟩ := hmk
  obtain ⟨p0, p1, pf⟩ := mk_two h1
  have hlt := (Array.getElem?_eq_some_iff.1 h1).1
  have hP := fun i => pick_any A n c zs i m hn hz hlen hm hm2
  have hR : ∀ x, RdI (w.setCell ⟨g, 1, none⟩ x) g .i64 A zs := fun x => rd_far h2 (by simp) x
  have hset : ∀ x, (w.setCell ⟨g, 1, none⟩ x).heap[g]? = some (.cells #[.slice A n c, x] 60 (0, 0)) := fun x => by rw [blk_set h1]; rfl
  have hsz : ∀ x, (w.setCell ⟨g, 1, none⟩ x).heap.size = w.heap.size := fun x => by simp [World.setCell]
  have hg : ∀ x, w.grownBy (w.setCell ⟨g, 1, none⟩ x) (some g) := fun x => ⟨rfl, rfl, rfl, by rw [hsz]; exact Nat.le_refl _, fun k _ hne => Below.heap_setCell w ⟨g, 1, none⟩ x k (fun e => hne (by rw [e]))⟩
  obtain ⟨a1, hx⟩ : ∃ a1, IntKind.i64.wrap (a + 1) = a1 := ⟨_, rfl⟩
  obtain ⟨a2, hy⟩ : ∃ a2, IntKind.i64.wrap (a1 - 1) = a2 := ⟨_, rfl⟩
  obtain ⟨k, hk, hC⟩ := pick_any A n c zs a2 m hn hz hlen hm hm2
  have hC' := hC (w.setCell ⟨g, 1, none⟩ (.int .i64 a1)).drew (((hR (.int .i64 a1)).mono (by show g ≤ (w.setCell _ _).heap.size; rw [hsz]; omega)).below (Below.refl _ _).drew)
  have hset' := Lib.hid (hset (.int .i64 a1))
  obtain ⟨q0, q1, _⟩ := mk_two (hset (.int .i64 a1))
  replace hR := Lib.hid (hR (.int .i64 a1))
  replace hg := Lib.hid (hg (.int .i64 a1))
  replace hsz := Lib.hid (hsz (.int .i64 a1))
  clear hset hC hP hz h2 hlen hn
  refine ⟨k, hk, ?_⟩
  go_enter Tryz.func45, Tryz.ntmps45
  go_wp2_with fail
  go_region_law (go_simp; go_at_call 64; refine Calls.mono hC' ?_; rintro e' w1 ⟨rfl, rfl⟩)
  all_goals
    go_wp2_with fail
    go_ret
    exact ⟨rfl, ⟨a1, hset'.out, hR.out⟩, ⟨hg.out.os, hg.out.tape, hg.out.output, hg.out.size, hg.out.block⟩, hsz.out⟩
end Go.Proofs.YtijcjknaphboeaaGreatDoor
