/-
  THE WALKS of join; of derivative at a range and at a star.
-/
import Derived.Test.YtijcjknaphboeaaGreatDoorRxNorm
import Derived.Deep.RegionLaw
namespace Go.Proofs.YtijcjknaphboeaaGreatDoor
open Go.RowKit

theorem plus_sub0 {S : Nat → Prop} {n m b : Nat} (hS : SOk S n) (hb : Plus S (n + 1) m b) : b ≠ n ∧ Plus S n m b := by
  rcases hb with hb | ⟨h1, h2⟩
  · exact ⟨by have := hS b hb; omega, .inl hb⟩
  · exact ⟨by omega, .inr ⟨by omega, h2⟩⟩

set_option maxHeartbeats 2000000 in
set_option maxRecDepth 100000 in
theorem join_any (k : Int) (s : List Rx) (A : Option Addr) (c : Nat) (f : Value) (S : Nat → Prop) (w : World) (hforms : FormsAt w S f) (hs : RtL w S s A) (hS : SOk S w.heap.size) (hc : s.length ≤ c) (hA : A = none → c = 0) (hsl : s.length ≤ 1048576) (hwf : wfR (.node k 0 0 s) = true) (hN : nodesL s ≤ 1000000) (hF : Fit1 (.node k 0 0 s)) :
    Calls Tryz.prog 85 #[f, .int .i64 k, .slice A s.length c] w fun e w' => GivesS S w (nfK (.node k 0 0 s)) e w' := by
  have hk8 := wf_kind hwf
  obtain ⟨mb, es, clock, rfl, hmb, hent⟩ := hforms
  obtain ⟨jl, fv, hlook, hkv⟩ := hent k hk8.1 hk8.2
  clear hent
  have hB : ∀ o, Below w.heap.size w (w.alloc o) := fun o => (Below.refl _ _).alloc (Nat.le_refl _) o
  have hV : RtV w S (.node k 0 0 s) (rxv k 0 0 A s.length c) := RtV.mk ⟨by unfold I64; omega, by decide, by decide, hsl⟩ hc hA hs
  have hlk := fun o => run_lookup_int (P := Tryz.prog) (w := w.alloc o) (t := 63) (kt := 3) (et := 65) Tryz.underlying63 Tryz.underlying3 (((hB o).block mb (Array.getElem?_eq_some_iff.1 hmb).1).trans hmb) hlook
  obtain ⟨z, hz⟩ : ∃ z : Obj, z = .cells #[.int .i64 0, .int .u8 0, .int .u8 0, .slice none 0 0] 30 (0, 0) := ⟨_, rfl⟩
  have hcases := kind_cases (w := w.alloc z) (x := .node k 0 0 s) (hkv.keep hS (hB z)) (hS.mono (by simp)) hwf hN hF (hV.keep hS (hB z))
  have hn1 := heap_alloc_new w z
  subst hz
  obtain ⟨res, hres⟩ : ∃ res, nfK (.node k 0 0 s) = res := ⟨_, rfl⟩
  rw [hres] at hcases ⊢
  clear hres hV hkv hs hlook hwf hF
  unfold rxv at hcases
  have hfin : ∀ (e : Ending) (w1 : World), GivesS S (w.alloc (.cells #[.int .i64 0, .int .u8 0, .int .u8 0, .slice none 0 0] 30 (0, 0))) res e w1 → ∃ A2 d2, e = .returned (rxv res.kind res.lo res.hi A2 res.kids.length d2) ∧ RtV w1 (Plus S (w.heap.size + 1) w1.heap.size) res (rxv res.kind res.lo res.hi A2 res.kids.length d2) ∧ Below w.heap.size w w1 ∧ w1.heap[w.heap.size]? = some (.cells #[.int .i64 0, .int .u8 0, .int .u8 0, .slice none 0 0] 30 (0, 0)) := fun e w1 ⟨v1, he1, hv1, hw1⟩ => by
    obtain ⟨_, A2, d2, rfl, _⟩ := hv1.parts
    exact ⟨A2, d2, he1, hv1.sub (fun b hb => by rcases hb with h1 | h1; exact .inl h1; exact .inr ⟨by have := h1.1; simp at this; omega, h1.2⟩), (hB _).trans (hw1.mono (by simp)), (hw1.block _ (by simp)).trans hn1⟩
  rcases hcases with ⟨rfl, hC⟩ | ⟨b1, b2, b3, rfl, hC⟩ | ⟨rfl, hC⟩ | ⟨b1, b2, rfl, hC⟩
  · go_enter Tryz.func85, Tryz.ntmps85
    go_wp2_with (go_at_call 47; refine Calls.mono hC ?_; clear hC; intro e w1 hg; obtain ⟨A2, d2, rfl, hv2, hB2, hn2⟩ := hfin e w1 hg; obtain ⟨q0, q1, q2, q3⟩ := four hn2; have hf2 := four_frozen hn2; simp only [rxv])
    refine bodyPost_ret (v := rxv res.kind res.lo res.hi A2 res.kids.length d2) (by unfold rxv; simp [results, Tryz.results85, go_sem, q0, q1, q2, q3]) rfl ?_
    exact fin_gives hB2 (Nat.le_refl _) hS hv2 (fun b hb => plus_sub0 hS hb)
  · go_enter Tryz.func85, Tryz.ntmps85
    go_wp2_with (go_at_call 65; refine Calls.mono hC ?_; clear hC; intro e w1 hg; obtain ⟨A2, d2, rfl, hv2, hB2, hn2⟩ := hfin e w1 hg; obtain ⟨q0, q1, q2, q3⟩ := four hn2; have hf2 := four_frozen hn2; simp only [rxv])
    refine bodyPost_ret (v := rxv res.kind res.lo res.hi A2 res.kids.length d2) (by unfold rxv; simp [results, Tryz.results85, go_sem, q0, q1, q2, q3]) rfl ?_
    exact fin_gives hB2 (Nat.le_refl _) hS hv2 (fun b hb => plus_sub0 hS hb)
  · go_enter Tryz.func85, Tryz.ntmps85
    go_wp2_with (go_at_call 51; refine Calls.mono hC ?_; clear hC; intro e w1 hg; obtain ⟨A2, d2, rfl, hv2, hB2, hn2⟩ := hfin e w1 hg; obtain ⟨q0, q1, q2, q3⟩ := four hn2; have hf2 := four_frozen hn2; simp only [rxv])
    refine bodyPost_ret (v := rxv res.kind res.lo res.hi A2 res.kids.length d2) (by unfold rxv; simp [results, Tryz.results85, go_sem, q0, q1, q2, q3]) rfl ?_
    exact fin_gives hB2 (Nat.le_refl _) hS hv2 (fun b hb => plus_sub0 hS hb)
  · go_enter Tryz.func85, Tryz.ntmps85
    go_wp2_with (go_at_call 52; refine Calls.mono hC ?_; clear hC; intro e w1 hg; obtain ⟨A2, d2, rfl, hv2, hB2, hn2⟩ := hfin e w1 hg; obtain ⟨q0, q1, q2, q3⟩ := four hn2; have hf2 := four_frozen hn2; simp only [rxv])
    refine bodyPost_ret (v := rxv res.kind res.lo res.hi A2 res.kids.length d2) (by unfold rxv; simp [results, Tryz.results85, go_sem, q0, q1, q2, q3]) rfl ?_
    exact fin_gives hB2 (Nat.le_refl _) hS hv2 (fun b hb => plus_sub0 hS hb)
end Go.Proofs.YtijcjknaphboeaaGreatDoor
