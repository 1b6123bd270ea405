/-
  THE WALK of lives: the examples of the section hold.
-/
import Derived.Test.YtijcjknaphboeaaGreatDoorRxDrv
import Derived.Test.YtijcjknaphboeaaGreatDoorRxOrd
namespace Go.Proofs.YtijcjknaphboeaaGreatDoor
open Go.RowKit

def ra : Rx := .node 2 97 97 []
def rb : Rx := .node 2 98 98 []
def rsa : Rx := .node 7 0 0 [ra]
theorem rx3_eq : rx3 = .node 3 0 0 [rsa, rb] := rfl
theorem cmp_ne {a b : Rx} (h : a ≠ b) : (cmp a b == 0) = false := by
  simp only [beq_eq_false_iff_ne, ne_eq, cmp_zero]; exact h
instance : DecidableEq Rx := fun a b => decidable_of_iff (cmp a b = 0) (cmp_zero a b)
theorem nf_rx3 : nf rx3 = rx3 := by decide
theorem fit_rx3 : FitT rx3 := by
  refine ⟨⟨⟨⟨⟨trivial, ⟨fun h => absurd h (by decide), fun h => absurd h (by decide)⟩⟩, trivial⟩, ⟨fun h => absurd h (by decide), fun h => absurd h (by decide)⟩⟩, ⟨trivial, ⟨fun h => absurd h (by decide), fun h => absurd h (by decide)⟩⟩, trivial⟩, ⟨fun h => absurd h (by decide), fun h => absurd h (by decide)⟩⟩

theorem fit_alt1 {s : List Rx} (h : (flatR 4 nilR s).length ≤ 1) : Fit1 (.node 4 0 0 s) := ⟨fun _ => inOrder_small _ h, fun h => absurd h (by simp [Rx.kind])⟩

theorem der_a : DC rx3 97 rx3 := by
  have h1 : DC rsa 97 rsa := by
    have := dc_star 0 0 97 ra oneR (dc_range_in 97 97 97 (by decide) (by decide)) (by decide) (by decide) (by decide)
    rwa [show nfK (.node 3 0 0 [oneR, .node 7 0 0 [ra]]) = rsa by decide] at this
  have h2 : DC rb 97 nilR := dc_range_out 98 98 97 (by decide)
  have hc : chs [rsa, rb] [rsa, nilR] 2 = [rx3, nilR] := by decide
  refine dc_cat 0 0 [rsa, rb] 97 rx3 (fun A cc f S w hf hs hS hcc hA => ?_)
  have := after_any [rsa, rb] [rsa, nilR] 2 97 (by decide) (by decide) (by decide) (fun i h hi => ?_) (fun h => by simp at h) (fun _ h => by simp at h) (fun i h hi => ?_) (by rw [hc]; decide) (by rw [hc]; decide) (by rw [hc]; exact fit_alt1 (by decide)) A cc f S w hf hs hS hcc hA
  · rwa [hc, show nfK (.node 4 0 0 [rx3, nilR]) = rx3 by decide] at this
  · obtain rfl : i = 0 := by omega
    show nulR rsa = true
    decide
  · obtain rfl | rfl : i = 0 ∨ i = 1 := by omega
    · exact ⟨h1, by decide, by decide⟩
    · exact ⟨h2, by decide, by decide⟩
theorem der_b : DC rx3 98 oneR := by
  have h1 : DC rsa 98 nilR := by
    have := dc_star 0 0 98 ra nilR (dc_range_out 97 97 98 (by decide)) (by decide) (by decide) (by decide)
    rwa [show nfK (.node 3 0 0 [nilR, .node 7 0 0 [ra]]) = nilR by decide] at this
  have h2 : DC rb 98 oneR := dc_range_in 98 98 98 (by decide) (by decide)
  have hc : chs [rsa, rb] [nilR, oneR] 2 = [nilR, oneR] := by decide
  refine dc_cat 0 0 [rsa, rb] 98 oneR (fun A cc f S w hf hs hS hcc hA => ?_)
  have := after_any [rsa, rb] [nilR, oneR] 2 98 (by decide) (by decide) (by decide) (fun i h hi => ?_) (fun h => by simp at h) (fun _ h => by simp at h) (fun i h hi => ?_) (by rw [hc]; decide) (by rw [hc]; decide) (by rw [hc]; exact fit_alt1 (by decide)) A cc f S w hf hs hS hcc hA
  · rwa [hc, show nfK (.node 4 0 0 [nilR, oneR]) = oneR by decide] at this
  · obtain rfl : i = 0 := by omega
    show nulR rsa = true
    decide
  · obtain rfl | rfl : i = 0 ∨ i = 1 := by omega
    · exact ⟨h1, by decide, by decide⟩
    · exact ⟨h2, by decide, by decide⟩
theorem derive_a (v : Value) (w : World) (hv : RtV w (Lo w.heap.size) rx3 v) : Calls Tryz.prog 42 #[v, .int .u8 97] w (DOk w rx3) := derive_ok rx3 rx3 97 v w hv (by decide) (by decide) (by decide) fit_rx3 (by rw [nf_rx3]; exact der_a) (by decide)
theorem derive_b (v : Value) (w : World) (hv : RtV w (Lo w.heap.size) rx3 v) : Calls Tryz.prog 42 #[v, .int .u8 98] w (DOk w oneR) := derive_ok rx3 oneR 98 v w hv (by decide) (by decide) (by decide) fit_rx3 (by rw [nf_rx3]; exact der_b) (by decide)

theorem GW.below {w w' : World} (h : GW w) (hb : Below w.heap.size w w') : GW w' := h.to hb.size (hb.block 0 h.1)
theorem mid_lo {w w' : World} {n : Nat} {x : Rx} {v : Value} (h : RtV w (Mid n w.heap.size) x v) (hb : Below w.heap.size w w') : RtV w' (Lo w'.heap.size) x v := RtV.to (fun b hb' => ⟨Nat.lt_of_lt_of_le hb'.2 hb.size, hb.block b hb'.2⟩) x h

theorem pt1 (w : World) (hG : GW w) : Calls Tryz.prog 41 #[.string ⟨#[39, 97, 39, 39, 98, 39, 124, 33, 40, 39, 97, 39, 38, 91, 97, 45, 122, 93, 41]⟩] w fun e w' => ∃ A c a, e = .returned (.tuple #[.agg #[.int .i64 0, .int .u8 0, .int .u8 0, .slice A 0 c], .int .i64 a, .int .i64 2]) ∧ Below w.heap.size w w' :=
  (parse_text1 w hG).mono fun _ _ ⟨v, a, he, hv, hb⟩ => by
    obtain ⟨_, A, c, rfl, _⟩ := hv.parts
    exact ⟨A, c, a, he, hb⟩
theorem pt2 (w : World) (hG : GW w) : Calls Tryz.prog 41 #[.string ⟨#[39, 97, 39, 39, 98, 39, 124, 33, 40, 39, 97, 39, 38, 91, 39, 97, 39, 45, 39, 122, 39, 93, 41]⟩] w fun e w' => ∃ A c, e = .returned (.tuple #[.agg #[.int .i64 4, .int .u8 0, .int .u8 0, .slice A 2 c], .int .i64 0, .int .i64 0]) ∧ Below w.heap.size w w' :=
  (parse_text2 w hG).mono fun _ _ ⟨v, he, hv, hb⟩ => by
    obtain ⟨_, A, c, rfl, _⟩ := hv.parts
    exact ⟨A, c, he, hb⟩
/-- a sequence of two, a star's and a byte's; the empty expression: their values -/
def v3 (A : Option Addr) (c : Nat) : Value := .agg #[.int .i64 3, .int .u8 0, .int .u8 0, .slice A 2 c]
def v1 (A : Option Addr) (c : Nat) : Value := .agg #[.int .i64 1, .int .u8 0, .int .u8 0, .slice A 0 c]
/-- that they read so -/
def R3 (w : World) (S : Nat → Prop) (A : Option Addr) (c : Nat) : Prop := RtV w S rx3 (v3 A c)
def R1 (w : World) (S : Nat → Prop) (A : Option Addr) (c : Nat) : Prop := RtV w S oneR (v1 A c)
theorem pt3 (w : World) (hG : GW w) : Calls Tryz.prog 41 #[.string ⟨#[39, 97, 39, 42, 39, 98, 39]⟩] w fun e w' => ∃ A c, e = .returned (.tuple #[.agg #[.int .i64 3, .int .u8 0, .int .u8 0, .slice A 2 c], .int .i64 0, .int .i64 0]) ∧ R3 w' (Mid w.heap.size w'.heap.size) A c ∧ Below w.heap.size w w' :=
  (parse_text3 w hG).mono fun _ _ ⟨v, he, hv, hb⟩ => by
    obtain ⟨_, A, c, rfl, _⟩ := hv.parts
    exact ⟨A, c, he, hv, hb⟩
theorem da (w : World) (A : Option Addr) (c : Nat) (h : R3 w (Lo w.heap.size) A c) : Calls Tryz.prog 42 #[.agg #[.int .i64 3, .int .u8 0, .int .u8 0, .slice A 2 c], .int .u8 97] w fun e w' => ∃ A c, e = .returned (.tuple #[.agg #[.int .i64 3, .int .u8 0, .int .u8 0, .slice A 2 c], .int .i64 0]) ∧ R3 w' (Mid w.heap.size w'.heap.size) A c ∧ Below w.heap.size w w' :=
  (derive_a _ w h).mono fun _ _ ⟨v, he, hv, hb⟩ => by
    obtain ⟨_, A, c, rfl, _⟩ := hv.parts
    exact ⟨A, c, he, hv, hb⟩
theorem db (w : World) (A : Option Addr) (c : Nat) (h : R3 w (Lo w.heap.size) A c) : Calls Tryz.prog 42 #[.agg #[.int .i64 3, .int .u8 0, .int .u8 0, .slice A 2 c], .int .u8 98] w fun e w' => ∃ A c, e = .returned (.tuple #[.agg #[.int .i64 1, .int .u8 0, .int .u8 0, .slice A 0 c], .int .i64 0]) ∧ R1 w' (Mid w.heap.size w'.heap.size) A c ∧ Below w.heap.size w w' :=
  (derive_b _ w h).mono fun _ _ ⟨v, he, hv, hb⟩ => by
    obtain ⟨_, A, c, rfl, _⟩ := hv.parts
    exact ⟨A, c, he, hv, hb⟩
theorem ca (w : World) (A B : Option Addr) (c d : Nat) (h1 : R3 w (Lo w.heap.size) A c) (h2 : R3 w (Lo w.heap.size) B d) : Calls Tryz.prog 15 #[.agg #[.int .i64 3, .int .u8 0, .int .u8 0, .slice A 2 c], .agg #[.int .i64 3, .int .u8 0, .int .u8 0, .slice B 2 d]] w fun e w' => e = .returned (.int .i64 0) ∧ Below w.heap.size w w' := by
  have := cmp_any rx3 rx3 _ _ w h1 h2
  rwa [cmp_self] at this
theorem cb (w : World) (A : Option Addr) (c : Nat) (h1 : R1 w (Lo w.heap.size) A c) : Calls Tryz.prog 15 #[.agg #[.int .i64 1, .int .u8 0, .int .u8 0, .slice A 0 c], .agg #[.int .i64 1, .int .u8 0, .int .u8 0, .slice none 0 0]] w fun e w' => e = .returned (.int .i64 0) ∧ Below w.heap.size w w' := by
  have := cmp_any oneR oneR _ _ w h1 (rtx_one w _)
  rwa [cmp_self] at this

/-- a variable laid in a new block, read later -/
theorem later {w w' : World} (o : Obj) (h : Below (w.alloc o).heap.size (w.alloc o) w') : w'.heap[w.heap.size]? = some o ∧ Below w.heap.size w w' := ⟨(h.block _ (by simp)).trans (heap_alloc_new w o), ((Below.refl _ _).alloc (Nat.le_refl _) o).trans (h.mono (by simp))⟩
theorem R3.later {w w' : World} {n : Nat} {A : Option Addr} {c : Nat} (h : R3 w (Mid n w.heap.size) A c) (hb : Below w.heap.size w w') : R3 w' (Lo w'.heap.size) A c := mid_lo h hb
theorem R1.later {w w' : World} {n : Nat} {A : Option Addr} {c : Nat} (h : R1 w (Mid n w.heap.size) A c) (hb : Below w.heap.size w w') : R1 w' (Lo w'.heap.size) A c := mid_lo h hb

set_option maxHeartbeats 2000000 in
set_option maxRecDepth 100000 in
theorem xlives_any (w : World) (hG : GW w) : Calls Tryz.prog 20 #[] w fun e w' => e = .returned (.bool true) ∧ Below w.heap.size w w' := by
  have q1 := Lib.hid (fun W (h : Below w.heap.size w W) => pt1 W (hG.below h))
  have q2 := Lib.hid (fun W (h : Below w.heap.size w W) => pt2 W (hG.below h))
  have q3 := Lib.hid (fun W (h : Below w.heap.size w W) => pt3 W (hG.below h))
  clear hG
  have t1 : Hid True := Lib.hid trivial
  have t2 : Hid True := Lib.hid trivial
  go_enter Tryz.func20, Tryz.ntmps20
  go_wp2_with (first
    | (go_at_call 41; refine Calls.mono (q1.out _ (Below.refl _ _)) ?_; clear q1; rintro e w1 ⟨A1, c1, a1, rfl, hw1⟩; have hb1 := Lib.hid (fun W h => hw1.trans ((later (w := w1) (w' := W) (.cells #[.int .i64 0, .int .u8 0, .int .u8 0, .slice A1 0 c1] 30) h).2.mono hw1.size)))
    | (go_at_call 41; refine Calls.mono (q2.out _ (hb1.out _ (Below.refl _ _))) ?_; clear q2; rintro e w2 ⟨A2, c2, rfl, hw2⟩; have hb2 := Lib.hid (fun W h => later (w := w2) (w' := W) (.cells #[.int .i64 4, .int .u8 0, .int .u8 0, .slice A2 2 c2] 30) h); have hc2 := Lib.hid (fun W h => (hb1.out w2 hw2).trans ((hb2.out W h).2.mono (hb1.out w2 hw2).size)))
    | (go_at_call 41; refine Calls.mono (q3.out _ (hc2.out _ (Below.refl _ _))) ?_; clear q3; rintro e w3 ⟨A3, c3, rfl, hv3, hw3⟩; have hb3 := Lib.hid (fun W h => later (w := w3) (w' := W) (.cells #[.int .i64 3, .int .u8 0, .int .u8 0, .slice A3 2 c3] 30) h); have hc3 := Lib.hid (fun W h => hw3.trans ((hb3.out W h).2.mono hw3.size)))
    | (go_at_call 42; have t3 := t1; clear t3 t1; refine Calls.mono (da _ _ _ (hv3.later (hb3.out _ (Below.refl _ _)).2)) ?_; rintro e w4 ⟨A4, c4, rfl, hv4, hw4⟩; have hb4 := Lib.hid (fun W h => later (w := w4) (w' := W) (.cells #[.int .i64 3, .int .u8 0, .int .u8 0, .slice A4 2 c4] 30) h); have hc4 := Lib.hid (fun W h => hw4.trans ((hb4.out W h).2.mono hw4.size)); obtain ⟨s0, s1, s2, s3⟩ := four (hb3.out _ (hc4.out _ (Below.refl _ _))).1)
    | (go_at_call 42; refine Calls.mono (db _ _ _ (hv3.later (hb3.out _ (hc4.out _ (Below.refl _ _))).2)) ?_; rintro e w5 ⟨A5, c5, rfl, hv5, hw5⟩; have hb5 := Lib.hid (fun W h => later (w := w5) (w' := W) (.cells #[.int .i64 1, .int .u8 0, .int .u8 0, .slice A5 0 c5] 30) h); have hc5 := Lib.hid (fun W h => hw5.trans ((hb5.out W h).2.mono hw5.size)); have z4 := hc5.out _ (Below.refl _ _); have z3 := hc4.out _ z4; have z2 := hc3.out _ z3; obtain ⟨a0, a1, a2, a3⟩ := four (hb2.out _ z2).1; obtain ⟨b0, b1, b2, b3⟩ := four (hb3.out _ z3).1; obtain ⟨d0, d1, d2, d3⟩ := four (hb4.out _ z4).1)
    | (go_at_call 15; have t3 := t2; clear t3 t2; refine Calls.mono (ca _ _ _ _ _ (hv4.later (hb4.out _ z4).2) (hv3.later (hb3.out _ z3).2)) ?_; rintro e w6 ⟨rfl, hw6⟩; obtain ⟨g0, g1, g2, g3⟩ := four (hb5.out _ hw6).1)
    | (go_at_call 15; refine Calls.mono (cb _ _ _ (hv5.later (hb5.out _ hw6).2)) ?_; rintro e w7 ⟨rfl, hw7⟩))
  go_ret
  have z6 := hc2.out _ (hc3.out _ (hc4.out _ (hc5.out _ hw6)))
  exact ⟨rfl, z6.trans (hw7.mono z6.size)⟩
end Go.Proofs.YtijcjknaphboeaaGreatDoor
