/-
  THE WALKS of derivative at a sequence, of Derive; the two derivatives of the examples.
  THE WALK of lives: the examples of the section hold.
-/
import Derived.Test.YtnjkihbmhacgoaaGreatDoorRxAft
import Derived.Test.YtnjkihbmhacgoaaGreatDoorRxTexts
import Derived.Test.YtnjkihbmhacgoaaGreatDoorRxNormal
namespace Go.Proofs.YtnjkihbmhacgoaaGreatDoor
open Go.RowKit

set_option maxHeartbeats 2000000 in
set_option maxRecDepth 100000 in
theorem dc_cat (l h : Int) (s : List Rx) (c : Int) (res : Rx) (hA : ∀ (A : Option Addr) (cc : Nat) (f : Value) (S : Nat → Prop) (w : World), FormsAt w S f → RtL w S s A → SOk S w.heap.size → s.length ≤ cc → (A = none → cc = 0) → Calls Tryz.prog 76 #[f, .slice A s.length cc, .int .u8 c] w fun e w' => GivesS S w res e w') : DC (.node 3 l h s) c res := by
  intro v f S w hforms hv hS
  have hb0 : ∀ o1 o2, Below w.heap.size w ((w.alloc o1).alloc o2) := fun o1 o2 => below_alloc2 (Below.refl _ _) (Nat.le_refl _) _ _
  obtain ⟨⟨ok1, ok2, ok3, ok4⟩, A, d, rfl, hc, hAn, hs⟩ := hv.parts
  simp only [Rx.kind, Rx.lo, Rx.hi, Rx.kids] at ok1 ok2 ok3 ok4 hc hs ⊢
  have hC := fun o1 o2 => hA A d f S _ (hforms.keep hS (hb0 o1 o2)) (hs.keep hS (hb0 o1 o2)) (hS.mono (hb0 o1 o2).size) hc hAn
  obtain ⟨mb, es, clock, rfl, hmb, hent⟩ := hforms
  clear hv hs hent hA
  unfold rxv
  have hfin : ∀ (o1 : Obj) (e : Ending) (w1 : World), GivesS S ((w.alloc o1).alloc (.cells #[.int .i64 0, .int .u8 0, .int .u8 0, .slice none 0 0] 30 (0, 0))) res e w1 → ∃ A2 d2, e = .returned (rxv res.kind res.lo res.hi A2 res.kids.length d2) ∧ RtV w1 (Plus S (w.heap.size + 1 + 1) w1.heap.size) res (rxv res.kind res.lo res.hi A2 res.kids.length d2) ∧ Below w.heap.size w w1 ∧ w1.heap[w.heap.size + 1]? = some (.cells #[.int .i64 0, .int .u8 0, .int .u8 0, .slice none 0 0] 30 (0, 0)) := fun o1 e w1 ⟨v1, he1, hv1, hw1⟩ => by
    obtain ⟨_, A2, d2, rfl, _⟩ := hv1.parts
    exact ⟨A2, d2, he1, hv1.sub (fun b hb => by rcases hb with h1 | h1; exact .inl h1; exact .inr ⟨by have := h1.1; simp at this; omega, h1.2⟩), (hb0 _ _).trans (hw1.mono (by simp; omega)), (hw1.block _ (by simp)).trans (heap_alloc_new_at _ _ (by simp))⟩
  go_enter Tryz.func54, Tryz.ntmps54
  go_wp2_with (go_at_call 76; refine Calls.mono (hC _ _) ?_; clear hC; intro e w1 hg; obtain ⟨A2, d2, rfl, hv2, hB2, hn2⟩ := hfin _ e w1 hg; obtain ⟨q0, q1, q2, q3⟩ := four hn2; have hf2 := four_frozen hn2; simp only [rxv])
  refine bodyPost_ret (v := rxv res.kind res.lo res.hi A2 res.kids.length d2) (by unfold rxv; simp [results, Tryz.results54, go_sem, q0, q1, q2, q3]) rfl ?_
  exact fin_gives hB2 (Nat.le_succ _) hS hv2 (fun b hb => plus_sub hS hb)

theorem plus_lo {w1 w2 : World} {x : Rx} {v : Value} (h : RtV w2 (Plus (Lo w1.heap.size) w1.heap.size w2.heap.size) x v) (hs : w1.heap.size ≤ w2.heap.size) : RtV w2 (Lo w2.heap.size) x v := h.sub (fun b hb => by
  rcases hb with h1 | h1
  · exact Nat.lt_of_lt_of_le h1 hs
  · exact h1.2)

/-- Derive's answer -/
def DOk (w : World) (r : Rx) (e : Ending) (w' : World) : Prop := ∃ v, e = .returned (.tuple #[v, .int .i64 0]) ∧ RtV w' (Mid w.heap.size w'.heap.size) r v ∧ Below w.heap.size w w'
set_option maxHeartbeats 2000000 in
set_option maxRecDepth 100000 in
theorem derive_ok (x y : Rx) (c : Int) (v : Value) (w : World) (hv : RtV w (Lo w.heap.size) x v) (hval : validR x = 0) (hwf : wfR x = true) (hbig : nodes x ≤ 64) (hfit : FitT x) (hd : DC (nf x) c y) (hy : nodes y ≤ 64) : Calls Tryz.prog 36 #[v, .int .u8 c] w (DOk w y) := by
  have hb0 : ∀ o1 o2, Below w.heap.size w ((w.alloc o1).alloc o2) := fun o1 o2 => below_alloc2 (Below.refl _ _) (Nat.le_refl _) _ _
  have hV := fun o1 o2 => valid_any x v _ (hv.call (hb0 o1 o2))
  have hN : ∀ (W : World) (f : Value), Below w.heap.size w W → FormsAt W (Lo W.heap.size) f → Calls Tryz.prog 22 #[f, v] W fun e w' => GivesS (Lo W.heap.size) W (nf x) e w' := fun W f hW hf => normal_any x v f _ W (by omega) hwf hfit hf (hv.call hW) (fun b h => h)
  rw [hval] at hV
  obtain ⟨_, A, cc, rfl, _⟩ := hv.parts
  clear hv hval hwf hfit
  unfold rxv at hV hN ⊢
  generalize nf x = nx at *
  go_enter Tryz.func36, Tryz.ntmps36
  go_wp2_with (first
    | (go_at_call 9; refine Calls.mono (hV _ _) ?_; clear hV; rintro e w1 ⟨rfl, hw1⟩; have hs1 := hw1.size; simp at hs1; have hB1 := (hb0 _ _).trans (hw1.mono (by simp; omega)); have hn0 := (hw1.block w.heap.size (by simp; omega)).trans ((heap_alloc_old _ _ _ (by simp)).trans (heap_alloc_new w (.cells #[.int .i64 x.kind, .int .u8 x.lo, .int .u8 x.hi, .slice A x.kids.length cc] 30))); have hn1 := (hw1.block (w.heap.size + 1) (by simp)).trans (heap_alloc_new_at _ _ (by simp)))
    | (go_at_call 21; refine Calls.mono (newForms_any w1) ?_; rintro e w2 ⟨f, rfl, hf, hw2, hs2⟩; have hB2 := hB1.trans (hw2.mono hB1.size); have hf2 : FormsAt w2 (Lo w2.heap.size) f := hf.sub (fun b hb => Nat.lt_of_lt_of_le hb.2 hs2); obtain ⟨p0, p1, p2, p3⟩ := four ((hw2.block w.heap.size (by omega)).trans hn0); have hn2 := (hw2.block (w.heap.size + 1) (by omega)).trans hn1; clear hf)
    | (go_at_call 22; refine Calls.mono (hN w2 _ hB2 hf2) ?_; clear hN; rintro e w3 ⟨v3, rfl, hv3, hw3⟩; have hf3 : FormsAt w3 (Lo w3.heap.size) f := (hf2.keep (fun b h => h) hw3).sub (fun b hb => Nat.lt_of_lt_of_le hb hw3.size); have hv3' := plus_lo hv3 hw3.size; have hn3 := (hw3.block (w.heap.size + 1) (by omega)).trans hn2; have hB3 := hB2.trans (hw3.mono hB2.size); clear hv3 hf2)
    | (go_at_call 54; refine Calls.mono (hd _ _ _ w3 hf3 hv3' (fun b h => h)) ?_; clear hd; rintro e w4 ⟨v4, rfl, hv4, hw4⟩; have hv4' := plus_lo hv4 hw4.size; have hn4 := (hw4.block (w.heap.size + 1) (by have := hB3.size; have := hw3.size; omega)).trans hn3; have hB4 := hB3.trans (hw4.mono hB3.size); clear hv4 hf3 hv3')
    | (go_at_call 20; refine Calls.mono (result_ok y _ w4 hv4' hy) ?_; rintro e w5 ⟨v5, rfl, hv5, hw5⟩; obtain ⟨_, A5, d5, rfl, _⟩ := hv5.parts; have hn5 := (hw5.block (w.heap.size + 1) (by have := (Array.getElem?_eq_some_iff.1 hn4).1; omega)).trans hn4; obtain ⟨q0, q1, q2, q3⟩ := four hn5; have hf5 := four_frozen hn5; have hB5 := hB4.trans (hw5.mono hB4.size); have hlt4 := (Array.getElem?_eq_some_iff.1 hn4).1; simp only [rxv]))
  refine bodyPost_ret (v := .tuple #[rxv y.kind y.lo y.hi A5 y.kids.length d5, .int .i64 0]) (by unfold rxv; simp [results, Tryz.results36, go_sem, q0, q1, q2, q3]) rfl ?_
  refine ⟨_, rfl, RtV.to (fun b hb' => ⟨?_, fin4 _ _ _ _ ?_⟩) y hv5, fin4_below hB5 (Nat.le_succ _) _ _ _ _⟩
  · have h1 := hb'.1; have h2 := hb'.2
    exact ⟨by omega, by rw [fin4_size]; exact h2⟩
  · have h1 := hb'.1; omega
end Go.Proofs.YtnjkihbmhacgoaaGreatDoor

namespace Go.Proofs.YtnjkihbmhacgoaaGreatDoor
open Go.RowKit

def ra : Rx := .node 2 97 97 []
def rb : Rx := .node 2 98 98 []
def rsa : Rx := .node 7 0 0 [ra]
theorem rx3_eq : rx3 = .node 3 0 0 [rsa, rb] := rfl
theorem cmp_ne {a b : Rx} (h : a ≠ b) : (cmp a b == 0) = false := by
  simp only [beq_eq_false_iff_ne, ne_eq, cmp_zero]; exact h
instance : DecidableEq Rx := fun a b => decidable_of_iff (cmp a b = 0) (cmp_zero a b)
theorem nf_rx3 : nf rx3 = rx3 := by decide
theorem fit_rx3 : FitT rx3 := by
  refine ⟨⟨⟨⟨⟨trivial, ⟨fun h => absurd h (by decide), fun h => absurd h (by decide)⟩⟩, trivial⟩, ⟨fun h => absurd h (by decide), fun h => absurd h (by decide)⟩⟩, ⟨trivial, ⟨fun h => absurd h (by decide), fun h => absurd h (by decide)⟩⟩, trivial⟩, ⟨fun h => absurd h (by decide), fun h => absurd h (by decide)⟩⟩

theorem fit_alt1 {s : List Rx} (h : (flatR 4 nilR s).length ≤ 1) : Fit1 (.node 4 0 0 s) := ⟨fun _ => inOrder_small _ h, fun h => absurd h (by simp [Rx.kind])⟩

theorem der_a : DC rx3 97 rx3 := by
  have h1 : DC rsa 97 rsa := by
    have := dc_star 0 0 97 ra oneR (dc_range_in 97 97 97 (by decide) (by decide)) (by decide) (by decide) (by decide)
    rwa [show nfK (.node 3 0 0 [oneR, .node 7 0 0 [ra]]) = rsa by decide] at this
  have h2 : DC rb 97 nilR := dc_range_out 98 98 97 (by decide)
  have hc : chs [rsa, rb] [rsa, nilR] 2 = [rx3, nilR] := by decide
  refine dc_cat 0 0 [rsa, rb] 97 rx3 (fun A cc f S w hf hs hS hcc hA => ?_)
  have := after_any [rsa, rb] [rsa, nilR] 2 97 (by decide) (by decide) (by decide) (fun i h hi => ?_) (fun h => by simp at h) (fun _ h => by simp at h) (fun i h hi => ?_) (by rw [hc]; decide) (by rw [hc]; decide) (by rw [hc]; exact fit_alt1 (by decide)) A cc f S w hf hs hS hcc hA
  · rwa [hc, show nfK (.node 4 0 0 [rx3, nilR]) = rx3 by decide] at this
  · obtain rfl : i = 0 := by omega
    show nulR rsa = true
    decide
  · obtain rfl | rfl : i = 0 ∨ i = 1 := by omega
    · exact ⟨h1, by decide, by decide⟩
    · exact ⟨h2, by decide, by decide⟩
theorem der_b : DC rx3 98 oneR := by
  have h1 : DC rsa 98 nilR := by
    have := dc_star 0 0 98 ra nilR (dc_range_out 97 97 98 (by decide)) (by decide) (by decide) (by decide)
    rwa [show nfK (.node 3 0 0 [nilR, .node 7 0 0 [ra]]) = nilR by decide] at this
  have h2 : DC rb 98 oneR := dc_range_in 98 98 98 (by decide) (by decide)
  have hc : chs [rsa, rb] [nilR, oneR] 2 = [nilR, oneR] := by decide
  refine dc_cat 0 0 [rsa, rb] 98 oneR (fun A cc f S w hf hs hS hcc hA => ?_)
  have := after_any [rsa, rb] [nilR, oneR] 2 98 (by decide) (by decide) (by decide) (fun i h hi => ?_) (fun h => by simp at h) (fun _ h => by simp at h) (fun i h hi => ?_) (by rw [hc]; decide) (by rw [hc]; decide) (by rw [hc]; exact fit_alt1 (by decide)) A cc f S w hf hs hS hcc hA
  · rwa [hc, show nfK (.node 4 0 0 [nilR, oneR]) = oneR by decide] at this
  · obtain rfl : i = 0 := by omega
    show nulR rsa = true
    decide
  · obtain rfl | rfl : i = 0 ∨ i = 1 := by omega
    · exact ⟨h1, by decide, by decide⟩
    · exact ⟨h2, by decide, by decide⟩
theorem derive_a (v : Value) (w : World) (hv : RtV w (Lo w.heap.size) rx3 v) : Calls Tryz.prog 36 #[v, .int .u8 97] w (DOk w rx3) := derive_ok rx3 rx3 97 v w hv (by decide) (by decide) (by decide) fit_rx3 (by rw [nf_rx3]; exact der_a) (by decide)
theorem derive_b (v : Value) (w : World) (hv : RtV w (Lo w.heap.size) rx3 v) : Calls Tryz.prog 36 #[v, .int .u8 98] w (DOk w oneR) := derive_ok rx3 oneR 98 v w hv (by decide) (by decide) (by decide) fit_rx3 (by rw [nf_rx3]; exact der_b) (by decide)

theorem GW.below {w w' : World} (h : GW w) (hb : Below w.heap.size w w') : GW w' := h.to hb.size (hb.block 0 h.1)
theorem mid_lo {w w' : World} {n : Nat} {x : Rx} {v : Value} (h : RtV w (Mid n w.heap.size) x v) (hb : Below w.heap.size w w') : RtV w' (Lo w'.heap.size) x v := RtV.to (fun b hb' => ⟨Nat.lt_of_lt_of_le hb'.2 hb.size, hb.block b hb'.2⟩) x h

theorem pt1 (w : World) (hG : GW w) : Calls Tryz.prog 35 #[.string ⟨#[39, 97, 39, 39, 98, 39, 124, 33, 40, 39, 97, 39, 38, 91, 97, 45, 122, 93, 41]⟩] w fun e w' => ∃ A c a, e = .returned (.tuple #[.agg #[.int .i64 0, .int .u8 0, .int .u8 0, .slice A 0 c], .int .i64 a, .int .i64 2]) ∧ Below w.heap.size w w' :=
  (parse_text1 w hG).mono fun _ _ ⟨v, a, he, hv, hb⟩ => by
    obtain ⟨_, A, c, rfl, _⟩ := hv.parts
    exact ⟨A, c, a, he, hb⟩
theorem pt2 (w : World) (hG : GW w) : Calls Tryz.prog 35 #[.string ⟨#[39, 97, 39, 39, 98, 39, 124, 33, 40, 39, 97, 39, 38, 91, 39, 97, 39, 45, 39, 122, 39, 93, 41]⟩] w fun e w' => ∃ A c, e = .returned (.tuple #[.agg #[.int .i64 4, .int .u8 0, .int .u8 0, .slice A 2 c], .int .i64 0, .int .i64 0]) ∧ Below w.heap.size w w' :=
  (parse_text2 w hG).mono fun _ _ ⟨v, he, hv, hb⟩ => by
    obtain ⟨_, A, c, rfl, _⟩ := hv.parts
    exact ⟨A, c, he, hb⟩
/-- a sequence of two, a star's and a byte's; the empty expression: their values -/
def v3 (A : Option Addr) (c : Nat) : Value := .agg #[.int .i64 3, .int .u8 0, .int .u8 0, .slice A 2 c]
def v1 (A : Option Addr) (c : Nat) : Value := .agg #[.int .i64 1, .int .u8 0, .int .u8 0, .slice A 0 c]
/-- that they read so -/
def R3 (w : World) (S : Nat → Prop) (A : Option Addr) (c : Nat) : Prop := RtV w S rx3 (v3 A c)
def R1 (w : World) (S : Nat → Prop) (A : Option Addr) (c : Nat) : Prop := RtV w S oneR (v1 A c)
theorem pt3 (w : World) (hG : GW w) : Calls Tryz.prog 35 #[.string ⟨#[39, 97, 39, 42, 39, 98, 39]⟩] w fun e w' => ∃ A c, e = .returned (.tuple #[.agg #[.int .i64 3, .int .u8 0, .int .u8 0, .slice A 2 c], .int .i64 0, .int .i64 0]) ∧ R3 w' (Mid w.heap.size w'.heap.size) A c ∧ Below w.heap.size w w' :=
  (parse_text3 w hG).mono fun _ _ ⟨v, he, hv, hb⟩ => by
    obtain ⟨_, A, c, rfl, _⟩ := hv.parts
    exact ⟨A, c, he, hv, hb⟩
theorem da (w : World) (A : Option Addr) (c : Nat) (h : R3 w (Lo w.heap.size) A c) : Calls Tryz.prog 36 #[.agg #[.int .i64 3, .int .u8 0, .int .u8 0, .slice A 2 c], .int .u8 97] w fun e w' => ∃ A c, e = .returned (.tuple #[.agg #[.int .i64 3, .int .u8 0, .int .u8 0, .slice A 2 c], .int .i64 0]) ∧ R3 w' (Mid w.heap.size w'.heap.size) A c ∧ Below w.heap.size w w' :=
  (derive_a _ w h).mono fun _ _ ⟨v, he, hv, hb⟩ => by
    obtain ⟨_, A, c, rfl, _⟩ := hv.parts
    exact ⟨A, c, he, hv, hb⟩
theorem db (w : World) (A : Option Addr) (c : Nat) (h : R3 w (Lo w.heap.size) A c) : Calls Tryz.prog 36 #[.agg #[.int .i64 3, .int .u8 0, .int .u8 0, .slice A 2 c], .int .u8 98] w fun e w' => ∃ A c, e = .returned (.tuple #[.agg #[.int .i64 1, .int .u8 0, .int .u8 0, .slice A 0 c], .int .i64 0]) ∧ R1 w' (Mid w.heap.size w'.heap.size) A c ∧ Below w.heap.size w w' :=
  (derive_b _ w h).mono fun _ _ ⟨v, he, hv, hb⟩ => by
    obtain ⟨_, A, c, rfl, _⟩ := hv.parts
    exact ⟨A, c, he, hv, hb⟩
theorem ca (w : World) (A B : Option Addr) (c d : Nat) (h1 : R3 w (Lo w.heap.size) A c) (h2 : R3 w (Lo w.heap.size) B d) : Calls Tryz.prog 12 #[.agg #[.int .i64 3, .int .u8 0, .int .u8 0, .slice A 2 c], .agg #[.int .i64 3, .int .u8 0, .int .u8 0, .slice B 2 d]] w fun e w' => e = .returned (.int .i64 0) ∧ Below w.heap.size w w' := by
  have := cmp_any rx3 rx3 _ _ w h1 h2
  rwa [cmp_self] at this
theorem cb (w : World) (A : Option Addr) (c : Nat) (h1 : R1 w (Lo w.heap.size) A c) : Calls Tryz.prog 12 #[.agg #[.int .i64 1, .int .u8 0, .int .u8 0, .slice A 0 c], .agg #[.int .i64 1, .int .u8 0, .int .u8 0, .slice none 0 0]] w fun e w' => e = .returned (.int .i64 0) ∧ Below w.heap.size w w' := by
  have := cmp_any oneR oneR _ _ w h1 (rtx_one w _)
  rwa [cmp_self] at this

/-- a variable laid in a new block, read later -/
theorem later {w w' : World} (o : Obj) (h : Below (w.alloc o).heap.size (w.alloc o) w') : w'.heap[w.heap.size]? = some o ∧ Below w.heap.size w w' := ⟨(h.block _ (by simp)).trans (heap_alloc_new w o), ((Below.refl _ _).alloc (Nat.le_refl _) o).trans (h.mono (by simp))⟩
theorem R3.later {w w' : World} {n : Nat} {A : Option Addr} {c : Nat} (h : R3 w (Mid n w.heap.size) A c) (hb : Below w.heap.size w w') : R3 w' (Lo w'.heap.size) A c := mid_lo h hb
theorem R1.later {w w' : World} {n : Nat} {A : Option Addr} {c : Nat} (h : R1 w (Mid n w.heap.size) A c) (hb : Below w.heap.size w w') : R1 w' (Lo w'.heap.size) A c := mid_lo h hb

set_option maxHeartbeats 2000000 in
set_option maxRecDepth 100000 in
theorem xlives_any (w : World) (hG : GW w) : Calls Tryz.prog 17 #[] w fun e w' => e = .returned (.bool true) ∧ Below w.heap.size w w' := by
  have q1 := Lib.hid (fun W (h : Below w.heap.size w W) => pt1 W (hG.below h))
  have q2 := Lib.hid (fun W (h : Below w.heap.size w W) => pt2 W (hG.below h))
  have q3 := Lib.hid (fun W (h : Below w.heap.size w W) => pt3 W (hG.below h))
  clear hG
  have t1 : Hid True := Lib.hid trivial
  have t2 : Hid True := Lib.hid trivial
  go_enter Tryz.func17, Tryz.ntmps17
  go_wp2_with (first
    | (go_at_call 35; refine Calls.mono (q1.out _ (Below.refl _ _)) ?_; clear q1; rintro e w1 ⟨A1, c1, a1, rfl, hw1⟩; have hb1 := Lib.hid (fun W h => hw1.trans ((later (w := w1) (w' := W) (.cells #[.int .i64 0, .int .u8 0, .int .u8 0, .slice A1 0 c1] 30) h).2.mono hw1.size)))
    | (go_at_call 35; refine Calls.mono (q2.out _ (hb1.out _ (Below.refl _ _))) ?_; clear q2; rintro e w2 ⟨A2, c2, rfl, hw2⟩; have hb2 := Lib.hid (fun W h => later (w := w2) (w' := W) (.cells #[.int .i64 4, .int .u8 0, .int .u8 0, .slice A2 2 c2] 30) h); have hc2 := Lib.hid (fun W h => (hb1.out w2 hw2).trans ((hb2.out W h).2.mono (hb1.out w2 hw2).size)))
    | (go_at_call 35; refine Calls.mono (q3.out _ (hc2.out _ (Below.refl _ _))) ?_; clear q3; rintro e w3 ⟨A3, c3, rfl, hv3, hw3⟩; have hb3 := Lib.hid (fun W h => later (w := w3) (w' := W) (.cells #[.int .i64 3, .int .u8 0, .int .u8 0, .slice A3 2 c3] 30) h); have hc3 := Lib.hid (fun W h => hw3.trans ((hb3.out W h).2.mono hw3.size)))
    | (go_at_call 36; have t3 := t1; clear t3 t1; refine Calls.mono (da _ _ _ (hv3.later (hb3.out _ (Below.refl _ _)).2)) ?_; rintro e w4 ⟨A4, c4, rfl, hv4, hw4⟩; have hb4 := Lib.hid (fun W h => later (w := w4) (w' := W) (.cells #[.int .i64 3, .int .u8 0, .int .u8 0, .slice A4 2 c4] 30) h); have hc4 := Lib.hid (fun W h => hw4.trans ((hb4.out W h).2.mono hw4.size)); obtain ⟨s0, s1, s2, s3⟩ := four (hb3.out _ (hc4.out _ (Below.refl _ _))).1)
    | (go_at_call 36; refine Calls.mono (db _ _ _ (hv3.later (hb3.out _ (hc4.out _ (Below.refl _ _))).2)) ?_; rintro e w5 ⟨A5, c5, rfl, hv5, hw5⟩; have hb5 := Lib.hid (fun W h => later (w := w5) (w' := W) (.cells #[.int .i64 1, .int .u8 0, .int .u8 0, .slice A5 0 c5] 30) h); have hc5 := Lib.hid (fun W h => hw5.trans ((hb5.out W h).2.mono hw5.size)); have z4 := hc5.out _ (Below.refl _ _); have z3 := hc4.out _ z4; have z2 := hc3.out _ z3; obtain ⟨a0, a1, a2, a3⟩ := four (hb2.out _ z2).1; obtain ⟨b0, b1, b2, b3⟩ := four (hb3.out _ z3).1; obtain ⟨d0, d1, d2, d3⟩ := four (hb4.out _ z4).1)
    | (go_at_call 12; have t3 := t2; clear t3 t2; refine Calls.mono (ca _ _ _ _ _ (hv4.later (hb4.out _ z4).2) (hv3.later (hb3.out _ z3).2)) ?_; rintro e w6 ⟨rfl, hw6⟩; obtain ⟨g0, g1, g2, g3⟩ := four (hb5.out _ hw6).1)
    | (go_at_call 12; refine Calls.mono (cb _ _ _ (hv5.later (hb5.out _ hw6).2)) ?_; rintro e w7 ⟨rfl, hw7⟩))
  go_ret
  have z6 := hc2.out _ (hc3.out _ (hc4.out _ (hc5.out _ hw6)))
  exact ⟨rfl, z6.trans (hw7.mono z6.size)⟩
end Go.Proofs.YtnjkihbmhacgoaaGreatDoor
