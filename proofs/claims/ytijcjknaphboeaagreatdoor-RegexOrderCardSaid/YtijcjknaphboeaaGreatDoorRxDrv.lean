/-
  THE WALKS of derivative at a sequence, of Derive; the two derivatives of the examples.
-/
import Derived.Test.YtijcjknaphboeaaGreatDoorRxAft
import Derived.Test.YtijcjknaphboeaaGreatDoorRxTexts
namespace Go.Proofs.YtijcjknaphboeaaGreatDoor
open Go.RowKit

set_option maxHeartbeats 2000000 in
set_option maxRecDepth 100000 in
theorem dc_cat (l h : Int) (s : List Rx) (c : Int) (res : Rx) (hA : ∀ (A : Option Addr) (cc : Nat) (f : Value) (S : Nat → Prop) (w : World), FormsAt w S f → RtL w S s A → SOk S w.heap.size → s.length ≤ cc → (A = none → cc = 0) → Calls Tryz.prog 84 #[f, .slice A s.length cc, .int .u8 c] w fun e w' => GivesS S w res e w') : DC (.node 3 l h s) c res := by
  intro v f S w hforms hv hS
  have hb0 : ∀ o1 o2, Below w.heap.size w ((w.alloc o1).alloc o2) := fun o1 o2 => below_alloc2 (Below.refl _ _) (Nat.le_refl _) _ _
  obtain ⟨⟨ok1, ok2, ok3, ok4⟩, A, d, rfl, hc, hAn, hs⟩ := hv.parts
  simp only [Rx.kind, Rx.lo, Rx.hi, Rx.kids] at ok1 ok2 ok3 ok4 hc hs ⊢
  have hC := fun o1 o2 => hA A d f S _ (hforms.keep hS (hb0 o1 o2)) (hs.keep hS (hb0 o1 o2)) (hS.mono (hb0 o1 o2).size) hc hAn
  obtain ⟨mb, es, clock, rfl, hmb, hent⟩ := hforms
  clear hv hs hent hA
  unfold rxv
  have hfin : ∀ (o1 : Obj) (e : Ending) (w1 : World), GivesS S ((w.alloc o1).alloc (.cells #[.int .i64 0, .int .u8 0, .int .u8 0, .slice none 0 0] 30 (0, 0))) res e w1 → ∃ A2 d2, e = .returned (rxv res.kind res.lo res.hi A2 res.kids.length d2) ∧ RtV w1 (Plus S (w.heap.size + 1 + 1) w1.heap.size) res (rxv res.kind res.lo res.hi A2 res.kids.length d2) ∧ Below w.heap.size w w1 ∧ w1.heap[w.heap.size + 1]? = some (.cells #[.int .i64 0, .int .u8 0, .int .u8 0, .slice none 0 0] 30 (0, 0)) := fun o1 e w1 ⟨v1, he1, hv1, hw1⟩ => by
    obtain ⟨_, A2, d2, rfl, _⟩ := hv1.parts
    exact ⟨A2, d2, he1, hv1.sub (fun b hb => by rcases hb with h1 | h1; exact .inl h1; exact .inr ⟨by have := h1.1; simp at this; omega, h1.2⟩), (hb0 _ _).trans (hw1.mono (by simp; omega)), (hw1.block _ (by simp)).trans (heap_alloc_new_at _ _ (by simp))⟩
  go_enter Tryz.func62, Tryz.ntmps62
  go_wp2_with (go_at_call 84; refine Calls.mono (hC _ _) ?_; clear hC; intro e w1 hg; obtain ⟨A2, d2, rfl, hv2, hB2, hn2⟩ := hfin _ e w1 hg; obtain ⟨q0, q1, q2, q3⟩ := four hn2; have hf2 := four_frozen hn2; simp only [rxv])
  refine bodyPost_ret (v := rxv res.kind res.lo res.hi A2 res.kids.length d2) (by unfold rxv; simp [results, Tryz.results62, go_sem, q0, q1, q2, q3]) rfl ?_
  exact fin_gives hB2 (Nat.le_succ _) hS hv2 (fun b hb => plus_sub hS hb)

theorem plus_lo {w1 w2 : World} {x : Rx} {v : Value} (h : RtV w2 (Plus (Lo w1.heap.size) w1.heap.size w2.heap.size) x v) (hs : w1.heap.size ≤ w2.heap.size) : RtV w2 (Lo w2.heap.size) x v := h.sub (fun b hb => by
  rcases hb with h1 | h1
  · exact Nat.lt_of_lt_of_le h1 hs
  · exact h1.2)

/-- Derive's answer -/
def DOk (w : World) (r : Rx) (e : Ending) (w' : World) : Prop := ∃ v, e = .returned (.tuple #[v, .int .i64 0]) ∧ RtV w' (Mid w.heap.size w'.heap.size) r v ∧ Below w.heap.size w w'
set_option maxHeartbeats 2000000 in
set_option maxRecDepth 100000 in
theorem derive_ok (x y : Rx) (c : Int) (v : Value) (w : World) (hv : RtV w (Lo w.heap.size) x v) (hval : validR x = 0) (hwf : wfR x = true) (hbig : nodes x ≤ 64) (hfit : FitT x) (hd : DC (nf x) c y) (hy : nodes y ≤ 64) : Calls Tryz.prog 42 #[v, .int .u8 c] w (DOk w y) := by
  have hb0 : ∀ o1 o2, Below w.heap.size w ((w.alloc o1).alloc o2) := fun o1 o2 => below_alloc2 (Below.refl _ _) (Nat.le_refl _) _ _
  have hV := fun o1 o2 => valid_any x v _ (hv.call (hb0 o1 o2))
  have hN : ∀ (W : World) (f : Value), Below w.heap.size w W → FormsAt W (Lo W.heap.size) f → Calls Tryz.prog 29 #[f, v] W fun e w' => GivesS (Lo W.heap.size) W (nf x) e w' := fun W f hW hf => normal_any x v f _ W (by omega) hwf hfit hf (hv.call hW) (fun b h => h)
  rw [hval] at hV
  obtain ⟨_, A, cc, rfl, _⟩ := hv.parts
  clear hv hval hwf hfit
  unfold rxv at hV hN ⊢
  generalize nf x = nx at *
  go_enter Tryz.func42, Tryz.ntmps42
  go_wp2_with (first
    | (go_at_call 12; refine Calls.mono (hV _ _) ?_; clear hV; rintro e w1 ⟨rfl, hw1⟩; have hs1 := hw1.size; simp at hs1; have hB1 := (hb0 _ _).trans (hw1.mono (by simp; omega)); have hn0 := (hw1.block w.heap.size (by simp; omega)).trans ((heap_alloc_old _ _ _ (by simp)).trans (heap_alloc_new w (.cells #[.int .i64 x.kind, .int .u8 x.lo, .int .u8 x.hi, .slice A x.kids.length cc] 30))); have hn1 := (hw1.block (w.heap.size + 1) (by simp)).trans (heap_alloc_new_at _ _ (by simp)))
    | (go_at_call 28; refine Calls.mono (newForms_any w1) ?_; rintro e w2 ⟨f, rfl, hf, hw2, hs2⟩; have hB2 := hB1.trans (hw2.mono hB1.size); have hf2 : FormsAt w2 (Lo w2.heap.size) f := hf.sub (fun b hb => Nat.lt_of_lt_of_le hb.2 hs2); obtain ⟨p0, p1, p2, p3⟩ := four ((hw2.block w.heap.size (by omega)).trans hn0); have hn2 := (hw2.block (w.heap.size + 1) (by omega)).trans hn1; clear hf)
    | (go_at_call 29; refine Calls.mono (hN w2 _ hB2 hf2) ?_; clear hN; rintro e w3 ⟨v3, rfl, hv3, hw3⟩; have hf3 : FormsAt w3 (Lo w3.heap.size) f := (hf2.keep (fun b h => h) hw3).sub (fun b hb => Nat.lt_of_lt_of_le hb hw3.size); have hv3' := plus_lo hv3 hw3.size; have hn3 := (hw3.block (w.heap.size + 1) (by omega)).trans hn2; have hB3 := hB2.trans (hw3.mono hB2.size); clear hv3 hf2)
    | (go_at_call 62; refine Calls.mono (hd _ _ _ w3 hf3 hv3' (fun b h => h)) ?_; clear hd; rintro e w4 ⟨v4, rfl, hv4, hw4⟩; have hv4' := plus_lo hv4 hw4.size; have hn4 := (hw4.block (w.heap.size + 1) (by have := hB3.size; have := hw3.size; omega)).trans hn3; have hB4 := hB3.trans (hw4.mono hB3.size); clear hv4 hf3 hv3')
    | (go_at_call 27; refine Calls.mono (result_ok y _ w4 hv4' hy) ?_; rintro e w5 ⟨v5, rfl, hv5, hw5⟩; obtain ⟨_, A5, d5, rfl, _⟩ := hv5.parts; have hn5 := (hw5.block (w.heap.size + 1) (by have := (Array.getElem?_eq_some_iff.1 hn4).1; omega)).trans hn4; obtain ⟨q0, q1, q2, q3⟩ := four hn5; have hf5 := four_frozen hn5; have hB5 := hB4.trans (hw5.mono hB4.size); have hlt4 := (Array.getElem?_eq_some_iff.1 hn4).1; simp only [rxv]))
  refine bodyPost_ret (v := .tuple #[rxv y.kind y.lo y.hi A5 y.kids.length d5, .int .i64 0]) (by unfold rxv; simp [results, Tryz.results42, go_sem, q0, q1, q2, q3]) rfl ?_
  refine ⟨_, rfl, RtV.to (fun b hb' => ⟨?_, fin4 _ _ _ _ ?_⟩) y hv5, fin4_below hB5 (Nat.le_succ _) _ _ _ _⟩
  · have h1 := hb'.1; have h2 := hb'.2
    exact ⟨by omega, by rw [fin4_size]; exact h2⟩
  · have h1 := hb'.1; omega
end Go.Proofs.YtijcjknaphboeaaGreatDoor
