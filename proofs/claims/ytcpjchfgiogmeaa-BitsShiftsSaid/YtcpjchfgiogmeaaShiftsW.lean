/-
  THE WALK of the law on the shifts (P3.7).
-/
import Derived.Test.YtcpjchfgiogmeaaBitsLaw
import Derived.Deep.Cut
import Derived.Deep.CutRange
namespace Go.Proofs.Ytcpjchfgiogmeaa
open Go.RowKit

def ShiftLoop (w : World) (g : Nat) (wr : World) : Prop := Below w.heap.size w wr ∧ w.heap.size ≤ g ∧ g < wr.heap.size ∧ wr.cell? ⟨g, 0, none⟩ = some (.int .i64 13) ∧ wr.cell? ⟨g, 1, none⟩ = some (.int .i64 14)
theorem shift_on {w wr w' : World} {g : Nat} (h : ShiftLoop w g wr) (hb : Below wr.heap.size wr w') : ShiftLoop w g w' := by
  obtain ⟨h1, h2, h3, h4, h5⟩ := h
  exact ⟨h1.trans (hb.mono h1.size), h2, Nat.lt_of_lt_of_le h3 hb.size, (hb.cell (p := ⟨g, 0, none⟩) h3).trans h4, (hb.cell (p := ⟨g, 1, none⟩) h3).trans h5⟩
theorem shift_new {w W : World} (h : Below w.heap.size w W) : ShiftLoop w W.heap.size (W.alloc (.cells #[.int .i64 13, .int .i64 14] 3)) :=
  ⟨h.alloc h.size _, h.size, by simp, by rw [World.cell?_alloc_mark]; rfl, by rw [World.cell?_alloc_mark]; rfl⟩
set_option maxRecDepth 100000 in
set_option maxHeartbeats 1000000 in
theorem shifts_walk (n u a i k x y z v low nt inr out ash h : Nat) (nn one two ve : Int) (w : World) (h1 : 1 ≤ n) (h64 : n ≤ 64) (hi : i ≤ n) (hk : k ≤ n) (hve : Hid (ve = 0 ∨ ve = 5)) (hl : Hid (n ≤ i → low = 0)) (hh : Hid ((h = 1 ∧ ash = out) ∨ (h = 0 ∧ ash = z)))
    (cW : ∀ (W : World), Calls Try.prog 11 #[.int .i64 nn] W (GivesV W (.int .i64 n)))
    (cA : ∀ (W : World), Calls Try.prog 12 #[.int .u64 u, .int .i64 n] W (GivesV W (.int .u64 a)))
    (cI : ∀ (W : World) (q0 : Int), q0 = (n : Int) + 1 → Calls Try.prog 22 #[.int .i64 one, .int .i64 q0] W (GivesV W (.int .i64 i)))
    (cK : ∀ (W : World) (q0 : Int), q0 = (n : Int) + 1 → Calls Try.prog 22 #[.int .i64 two, .int .i64 q0] W (GivesV W (.int .i64 k)))
    (r131 : ∀ (W : World), Calls Try.prog 15 #[.int .i64 13, .int .u64 a, .int .u64 i, .int .i64 n] W (GivesV W (.tuple #[.int .u64 x, .int .i64 0])))
    (r132 : ∀ (W : World), Calls Try.prog 15 #[.int .i64 13, .int .u64 x, .int .u64 k, .int .i64 n] W (GivesV W (.tuple #[.int .u64 y, .int .i64 0])))
    (r141 : ∀ (W : World), Calls Try.prog 15 #[.int .i64 14, .int .u64 a, .int .u64 i, .int .i64 n] W (GivesV W (.tuple #[.int .u64 z, .int .i64 0])))
    (r142 : ∀ (W : World), Calls Try.prog 15 #[.int .i64 14, .int .u64 z, .int .u64 k, .int .i64 n] W (GivesV W (.tuple #[.int .u64 v, .int .i64 0])))
    (s1 : ∀ (W : World), Calls Try.prog 15 #[.int .i64 13, .int .u64 a, .int .u64 i, .int .i64 n] W (GivesV W (.tuple #[.int .u64 x, .int .i64 0])))
    (s2 : ∀ (W : World), Calls Try.prog 15 #[.int .i64 14, .int .u64 x, .int .u64 i, .int .i64 n] W (GivesV W (.tuple #[.int .u64 low, .int .i64 0])))
    (s4 : ∀ (W : World), Calls Try.prog 17 #[.int .i64 4, .int .u64 a, .int .i64 n] W (GivesV W (.tuple #[.int .u64 nt, .int .i64 0])))
    (s5 : ∀ (W : World), Calls Try.prog 15 #[.int .i64 14, .int .u64 nt, .int .u64 i, .int .i64 n] W (GivesV W (.tuple #[.int .u64 inr, .int .i64 0])))
    (s6 : ∀ (W : World), Calls Try.prog 17 #[.int .i64 4, .int .u64 inr, .int .i64 n] W (GivesV W (.tuple #[.int .u64 out, .int .i64 0])))
    (s7 : ∀ (W : World), Calls Try.prog 15 #[.int .i64 14, .int .u64 a, .int .u64 i, .int .i64 n] W (GivesV W (.tuple #[.int .u64 z, .int .i64 0])))
    (s8 : ∀ (W : World), Calls Try.prog 15 #[.int .i64 15, .int .u64 a, .int .u64 i, .int .i64 n] W (GivesV W (.tuple #[.int .u64 ash, .int .i64 0])))
    (s9 : ∀ (W : World) (q0 q1 q2 : Int), q0 = (n : Int) → q1 = (n : Int) - 1 → q2 = (n : Int) - 1 → Calls Try.prog 23 #[.int .u64 a, .int .i64 q0, .int .i64 q1, .int .i64 q2] W (GivesV W (.tuple #[.int .u64 h, .int .i64 0])))
    (cV : ∀ (W : World) (q0 : Int), q0 = (i : Int) + k → Calls Try.prog 13 #[.int .u64 q0, .int .i64 n] W (GivesV W (.int .i64 ve)))
    (z13 : ve = 0 → ∀ (W : World) (q0 : Int), q0 = (i : Int) + k → Calls Try.prog 15 #[.int .i64 13, .int .u64 a, .int .u64 q0, .int .i64 n] W (GivesV W (.tuple #[.int .u64 y, .int .i64 0])))
    (z14 : ve = 0 → ∀ (W : World) (q0 : Int), q0 = (i : Int) + k → Calls Try.prog 15 #[.int .i64 14, .int .u64 a, .int .u64 q0, .int .i64 n] W (GivesV W (.tuple #[.int .u64 v, .int .i64 0])))
    (s3 : i < n → ∀ (W : World) (q0 q1 q2 : Int), q0 = n → q1 = (n : Int) - 1 - i → q2 = 0 → Calls Try.prog 23 #[.int .u64 a, .int .i64 q0, .int .i64 q1, .int .i64 q2] W (GivesV W (.tuple #[.int .u64 low, .int .i64 0])))
    : Calls Try.prog 8 #[.int .i64 nn, .int .u64 u, .int .i64 one, .int .i64 two] w (TruePost w) := by
  go_enter Try.func8, Try.ntmps8
  go_upto_if 48 with (first
      | (go_at_call 11; refine (cW _).mono ?_; clear cW; rintro e w1 ⟨rfl, hb1⟩)
      | (go_at_call 12; refine (cA _).mono ?_; clear cA; rintro e w2 ⟨rfl, hb2⟩))
  go_cut [11] from 49 to 54 (fun s wx => s = .int .i64 n ∧ wx = w2)
  case first =>
    clear cI cK
    by_cases h6 : n < 6
    · have h5 : n = 1 ∨ n = 2 ∨ n = 3 ∨ n = 4 ∨ n = 5 := by omega
      rcases h5 with rfl | rfl | rfl | rfl | rfl
      all_goals
        go_wp2_with (fail)
        go_meet
        exact ⟨rfl, rfl⟩
    · go_wp2_with (fail)
      go_meet
      exact ⟨rfl, rfl⟩
  case rest =>
  obtain ⟨rfl, rfl⟩ := hcut
  go_wp2_with (first
    | (go_at_call 22; refine (cI _ _ (by omega)).mono ?_; clear cI; rintro e w3 ⟨rfl, hb3⟩)
    | (go_at_call 22; refine (cK _ _ (by omega)).mono ?_; clear cK; rintro e w4 ⟨rfl, hb4⟩))
  have d1 := hb1
  have d2 := d1.trans (hb2.mono d1.size)
  have d3 := d2.trans (hb3.mono d2.size)
  have d4 := d3.trans (hb4.mono d3.size)
  have hL := shift_new d4
  clear d1 d2 d3 d4 hb1 hb2 hb3 hb4
  generalize hg : w4.heap.size = g at hL
  try rw [hg]
  go_loopw [15] (fun c wr => ∃ j : Nat, j ≤ 2 ∧ c = .int .i64 j ∧ ShiftLoop w g wr) (fun c _ => 2 - (intOf c).toNat)
  case atStart => exact ⟨0, by omega, rfl, hL⟩
  case round =>
    clear hL hg
    obtain ⟨j, hj, rfl, hr⟩ := hrel
    have hj3 : j = 0 ∨ j = 1 ∨ j = 2 := by omega
    have hc0 := hr.2.2.2.1
    have hc1 := hr.2.2.2.2
    rcases hj3 with rfl | rfl | rfl
    · rcases hve.out with rfl | rfl
      · replace z13 := z13 rfl
        go_wp2_with (first
          | (go_at_call 15; refine (r131 _).mono ?_; clear r131; rintro e v1 ⟨rfl, hb⟩; have hr1 := shift_on hr hb; have hx1 := hr1.2.2.2.1; clear hb)
          | (go_at_call 15; refine (r132 _).mono ?_; clear r132; rintro e v2 ⟨rfl, hb⟩; have hr2 := shift_on hr1 hb; have hx2 := hr2.2.2.2.1; clear hb)
          | (go_at_call 13; refine (cV _ _ (by omega)).mono ?_; clear cV; rintro e v3 ⟨rfl, hb⟩; have hr3 := shift_on hr2 hb; have hx3 := hr3.2.2.2.1; clear hb)
          | (go_at_call 15; refine (z13 _ _ (by omega)).mono ?_; clear z13; rintro e v4 ⟨rfl, hb⟩; have hr4 := shift_on hr3 hb; have hx4 := hr4.2.2.2.1; clear hb))
        go_roundw
        case rel => exact ⟨1, by omega, rfl, hr4⟩
        case measure => simp [intOf]
      · clear z13
        go_wp2_with (first
          | (go_at_call 15; refine (r131 _).mono ?_; clear r131; rintro e v1 ⟨rfl, hb⟩; have hr1 := shift_on hr hb; have hx1 := hr1.2.2.2.1; clear hb)
          | (go_at_call 15; refine (r132 _).mono ?_; clear r132; rintro e v2 ⟨rfl, hb⟩; have hr2 := shift_on hr1 hb; have hx2 := hr2.2.2.2.1; clear hb)
          | (go_at_call 13; refine (cV _ _ (by omega)).mono ?_; clear cV; rintro e v3 ⟨rfl, hb⟩; have hr3 := shift_on hr2 hb; have hx3 := hr3.2.2.2.1; clear hb))
        go_roundw
        case rel => exact ⟨1, by omega, rfl, hr3⟩
        case measure => simp [intOf]
    · rcases hve.out with rfl | rfl
      · replace z14 := z14 rfl
        go_wp2_with (first
          | (go_at_call 15; refine (r141 _).mono ?_; clear r141; rintro e v1 ⟨rfl, hb⟩; have hr1 := shift_on hr hb; have hx1 := hr1.2.2.2.2; clear hb)
          | (go_at_call 15; refine (r142 _).mono ?_; clear r142; rintro e v2 ⟨rfl, hb⟩; have hr2 := shift_on hr1 hb; have hx2 := hr2.2.2.2.2; clear hb)
          | (go_at_call 13; refine (cV _ _ (by omega)).mono ?_; clear cV; rintro e v3 ⟨rfl, hb⟩; have hr3 := shift_on hr2 hb; have hx3 := hr3.2.2.2.2; clear hb)
          | (go_at_call 15; refine (z14 _ _ (by omega)).mono ?_; clear z14; rintro e v4 ⟨rfl, hb⟩; have hr4 := shift_on hr3 hb; have hx4 := hr4.2.2.2.2; clear hb))
        go_roundw
        case rel => exact ⟨2, by omega, rfl, hr4⟩
        case measure => simp [intOf]
      · clear z14
        go_wp2_with (first
          | (go_at_call 15; refine (r141 _).mono ?_; clear r141; rintro e v1 ⟨rfl, hb⟩; have hr1 := shift_on hr hb; have hx1 := hr1.2.2.2.2; clear hb)
          | (go_at_call 15; refine (r142 _).mono ?_; clear r142; rintro e v2 ⟨rfl, hb⟩; have hr2 := shift_on hr1 hb; have hx2 := hr2.2.2.2.2; clear hb)
          | (go_at_call 13; refine (cV _ _ (by omega)).mono ?_; clear cV; rintro e v3 ⟨rfl, hb⟩; have hr3 := shift_on hr2 hb; have hx3 := hr3.2.2.2.2; clear hb))
        go_roundw
        case rel => exact ⟨2, by omega, rfl, hr3⟩
        case measure => simp [intOf]
    · have h0 := hr.1
      clear hr hc0 hc1
      by_cases hlt : i < n
      · rcases hh.out with ⟨rfl, rfl⟩ | ⟨rfl, rfl⟩
        · go_wp2_with (first
            | (go_at_call 15; refine (s1 _).mono ?_; clear s1; rintro e w1 ⟨rfl, hb1⟩)
            | (go_at_call 15; refine (s2 _).mono ?_; clear s2; rintro e w2 ⟨rfl, hb2⟩)
            | (go_at_call 23; refine (s3 hlt _ _ _ _ (by omega) (by omega) (by omega)).mono ?_; clear s3; rintro e w3 ⟨rfl, hb3⟩)
            | (go_at_call 17; refine (s4 _).mono ?_; clear s4; rintro e w4 ⟨rfl, hb4⟩)
            | (go_at_call 15; refine (s5 _).mono ?_; clear s5; rintro e w5 ⟨rfl, hb5⟩)
            | (go_at_call 17; refine (s6 _).mono ?_; clear s6; rintro e w6 ⟨rfl, hb6⟩)
            | (go_at_call 15; refine (s7 _).mono ?_; clear s7; rintro e w7 ⟨rfl, hb7⟩)
            | (go_at_call 15; refine (s8 _).mono ?_; clear s8; rintro e w8 ⟨rfl, hb8⟩)
            | (go_at_call 23; refine (s9 _ _ _ _ (by omega) (by omega) (by omega)).mono ?_; clear s9; rintro e w9 ⟨rfl, hb9⟩)
            | (go_at_call 19; refine (livesB_any _).mono ?_; rintro e w10 ⟨rfl, hb10⟩))
          go_ret
          have d1 := h0.trans (hb1.mono h0.size)
          have d2 := d1.trans (hb2.mono d1.size)
          have d3 := d2.trans (hb3.mono d2.size)
          have d4 := d3.trans (hb4.mono d3.size)
          have d5 := d4.trans (hb5.mono d4.size)
          have d6 := d5.trans (hb6.mono d5.size)
          have d7 := d6.trans (hb7.mono d6.size)
          have d8 := d7.trans (hb8.mono d7.size)
          have d9 := d8.trans (hb9.mono d8.size)
          have d10 := d9.trans (hb10.mono d9.size)
          exact ⟨rfl, d10⟩
        · go_wp2_with (first
            | (go_at_call 15; refine (s1 _).mono ?_; clear s1; rintro e w1 ⟨rfl, hb1⟩)
            | (go_at_call 15; refine (s2 _).mono ?_; clear s2; rintro e w2 ⟨rfl, hb2⟩)
            | (go_at_call 23; refine (s3 hlt _ _ _ _ (by omega) (by omega) (by omega)).mono ?_; clear s3; rintro e w3 ⟨rfl, hb3⟩)
            | (go_at_call 17; refine (s4 _).mono ?_; clear s4; rintro e w4 ⟨rfl, hb4⟩)
            | (go_at_call 15; refine (s5 _).mono ?_; clear s5; rintro e w5 ⟨rfl, hb5⟩)
            | (go_at_call 17; refine (s6 _).mono ?_; clear s6; rintro e w6 ⟨rfl, hb6⟩)
            | (go_at_call 15; refine (s7 _).mono ?_; clear s7; rintro e w7 ⟨rfl, hb7⟩)
            | (go_at_call 15; refine (s8 _).mono ?_; clear s8; rintro e w8 ⟨rfl, hb8⟩)
            | (go_at_call 23; refine (s9 _ _ _ _ (by omega) (by omega) (by omega)).mono ?_; clear s9; rintro e w9 ⟨rfl, hb9⟩)
            | (go_at_call 19; refine (livesB_any _).mono ?_; rintro e w10 ⟨rfl, hb10⟩))
          go_ret
          have d1 := h0.trans (hb1.mono h0.size)
          have d2 := d1.trans (hb2.mono d1.size)
          have d3 := d2.trans (hb3.mono d2.size)
          have d4 := d3.trans (hb4.mono d3.size)
          have d5 := d4.trans (hb5.mono d4.size)
          have d6 := d5.trans (hb6.mono d5.size)
          have d7 := d6.trans (hb7.mono d6.size)
          have d8 := d7.trans (hb8.mono d7.size)
          have d9 := d8.trans (hb9.mono d8.size)
          have d10 := d9.trans (hb10.mono d9.size)
          exact ⟨rfl, d10⟩
      · have hlow := hl.out (by omega)
        subst hlow
        rcases hh.out with ⟨rfl, rfl⟩ | ⟨rfl, rfl⟩
        · go_wp2_with (first
            | (go_at_call 15; refine (s1 _).mono ?_; clear s1; rintro e w1 ⟨rfl, hb1⟩)
            | (go_at_call 15; refine (s2 _).mono ?_; clear s2; rintro e w2 ⟨rfl, hb2⟩)
            | (go_at_call 17; refine (s4 _).mono ?_; clear s4; rintro e w3 ⟨rfl, hb3⟩)
            | (go_at_call 15; refine (s5 _).mono ?_; clear s5; rintro e w4 ⟨rfl, hb4⟩)
            | (go_at_call 17; refine (s6 _).mono ?_; clear s6; rintro e w5 ⟨rfl, hb5⟩)
            | (go_at_call 15; refine (s7 _).mono ?_; clear s7; rintro e w6 ⟨rfl, hb6⟩)
            | (go_at_call 15; refine (s8 _).mono ?_; clear s8; rintro e w7 ⟨rfl, hb7⟩)
            | (go_at_call 23; refine (s9 _ _ _ _ (by omega) (by omega) (by omega)).mono ?_; clear s9; rintro e w8 ⟨rfl, hb8⟩)
            | (go_at_call 19; refine (livesB_any _).mono ?_; rintro e w9 ⟨rfl, hb9⟩))
          go_ret
          have d1 := h0.trans (hb1.mono h0.size)
          have d2 := d1.trans (hb2.mono d1.size)
          have d3 := d2.trans (hb3.mono d2.size)
          have d4 := d3.trans (hb4.mono d3.size)
          have d5 := d4.trans (hb5.mono d4.size)
          have d6 := d5.trans (hb6.mono d5.size)
          have d7 := d6.trans (hb7.mono d6.size)
          have d8 := d7.trans (hb8.mono d7.size)
          have d9 := d8.trans (hb9.mono d8.size)
          exact ⟨rfl, d9⟩
        · go_wp2_with (first
            | (go_at_call 15; refine (s1 _).mono ?_; clear s1; rintro e w1 ⟨rfl, hb1⟩)
            | (go_at_call 15; refine (s2 _).mono ?_; clear s2; rintro e w2 ⟨rfl, hb2⟩)
            | (go_at_call 17; refine (s4 _).mono ?_; clear s4; rintro e w3 ⟨rfl, hb3⟩)
            | (go_at_call 15; refine (s5 _).mono ?_; clear s5; rintro e w4 ⟨rfl, hb4⟩)
            | (go_at_call 17; refine (s6 _).mono ?_; clear s6; rintro e w5 ⟨rfl, hb5⟩)
            | (go_at_call 15; refine (s7 _).mono ?_; clear s7; rintro e w6 ⟨rfl, hb6⟩)
            | (go_at_call 15; refine (s8 _).mono ?_; clear s8; rintro e w7 ⟨rfl, hb7⟩)
            | (go_at_call 23; refine (s9 _ _ _ _ (by omega) (by omega) (by omega)).mono ?_; clear s9; rintro e w8 ⟨rfl, hb8⟩)
            | (go_at_call 19; refine (livesB_any _).mono ?_; rintro e w9 ⟨rfl, hb9⟩))
          go_ret
          have d1 := h0.trans (hb1.mono h0.size)
          have d2 := d1.trans (hb2.mono d1.size)
          have d3 := d2.trans (hb3.mono d2.size)
          have d4 := d3.trans (hb4.mono d3.size)
          have d5 := d4.trans (hb5.mono d4.size)
          have d6 := d5.trans (hb6.mono d5.size)
          have d7 := d6.trans (hb7.mono d6.size)
          have d8 := d7.trans (hb8.mono d7.size)
          have d9 := d8.trans (hb9.mono d8.size)
          exact ⟨rfl, d9⟩
theorem up_min {n : Nat} (a j : Nat) : a * 2 ^ min j n % 2 ^ n = a * 2 ^ j % 2 ^ n := by
  by_cases h : j ≤ n
  · rw [Nat.min_eq_left h]
  · rw [Nat.min_eq_right (by omega : n ≤ j), Nat.mul_mod_left]
    have e : 2 ^ j = 2 ^ (j - n) * 2 ^ n := by rw [← Nat.pow_add, show j - n + n = j by omega]
    rw [e, ← Nat.mul_assoc, Nat.mul_mod_left]
theorem down_min {n a : Nat} (ha : a < 2 ^ n) (j : Nat) : a / 2 ^ min j n = a / 2 ^ j := by
  by_cases h : j ≤ n
  · rw [Nat.min_eq_left h]
  · rw [Nat.min_eq_right (by omega : n ≤ j), Nat.div_eq_of_lt ha, Nat.div_eq_of_lt]
    exact Nat.lt_of_lt_of_le ha (Nat.pow_le_pow_right (by decide) (by omega))
theorem back_low {n a i : Nat} (hi : i ≤ n) : (a * 2 ^ i % 2 ^ n) / 2 ^ i = a % 2 ^ (n - i) := by
  rw [pow_div hi, Nat.mul_comm a, Nat.mul_mod_mul_left, Nat.mul_comm, Nat.mul_div_cancel _ (ppos i)]
theorem ash_not {n a i : Nat} (hi : i ≤ n) (ha : a < 2 ^ n) (hh : hiN n a = true) : ashrN n a i = 2 ^ n - 1 - (2 ^ n - 1 - a) / 2 ^ i := by
  unfold ashrN
  rw [hh, Nat.min_eq_left hi, Bool.toNat_true, Nat.one_mul]
  have hp := pow_div hi
  have h1 := ppos i
  rw [hp] at ha ⊢
  have hm := Nat.mul_sub_div a (2 ^ i) (2 ^ (n - i)) ha
  rw [show 2 ^ i * 2 ^ (n - i) - 1 - a = 2 ^ i * 2 ^ (n - i) - (a + 1) by omega, hm]
  have hd : a / 2 ^ i < 2 ^ (n - i) := Nat.div_lt_of_lt_mul ha
  generalize a / 2 ^ i = d at *
  generalize 2 ^ (n - i) = Q at *
  generalize 2 ^ i = S at *
  obtain ⟨t, rfl⟩ : ∃ t, S = t + 1 := ⟨S - 1, by omega⟩
  rw [Nat.add_sub_cancel, Nat.add_mul, Nat.one_mul, Nat.mul_comm Q t]
  omega
theorem ash_plain {n a i : Nat} (hi : i ≤ n) (hh : hiN n a = false) : ashrN n a i = a / 2 ^ i := by
  unfold ashrN
  rw [hh, Nat.min_eq_left hi]
  simp
theorem high_div {n a : Nat} (h1 : 1 ≤ n) (ha : a < 2 ^ n) : a / 2 ^ (n - 1) % 2 ^ (n - 1 + 1 - (n - 1)) = (hiN n a).toNat := by
  obtain ⟨m, rfl⟩ : ∃ m, n = m + 1 := ⟨n - 1, by omega⟩
  rw [Nat.add_sub_cancel, show m + 1 - m = 1 by omega]
  unfold hiN
  rw [Nat.add_sub_cancel]
  rw [Nat.pow_succ] at ha
  by_cases h : 2 ^ m ≤ a
  · have : a / 2 ^ m = 1 := by
      rw [Nat.div_eq_iff (ppos _)]
      omega
    simp [h, this]
  · have : a / 2 ^ m = 0 := Nat.div_eq_of_lt (by omega)
    simp [h, this]
theorem n_lt_pow (n : Nat) : n < 2 ^ n := Nat.lt_two_pow_self
theorem shifts_any (nn : Int) (u : Nat) (one two : Int) (w : World) (hn : I64 nn) (hu : u < 18446744073709551616) (ho : I64 one) (ht : I64 two) :
    Calls Try.prog 8 #[.int .i64 nn, .int .u64 u, .int .i64 one, .int .i64 two] w (TruePost w) := by
  obtain ⟨n, h1, h64, cW⟩ := bWidth_any nn hn
  obtain ⟨a, ha, cA⟩ := bValue_any u n hu h1 h64
  obtain ⟨i, hi, cI⟩ := around_ok one (n + 1) ho (by omega) (by omega)
  obtain ⟨k, hk, cK⟩ := around_ok two (n + 1) ht (by omega) (by omega)
  have hn2 := n_lt_pow n
  have hil : i < 2 ^ n := by omega
  have hkl : k < 2 ^ n := by omega
  have hpp := ppos n
  have ha64 := lt64 h64 ha
  have hxl : a * 2 ^ i % 2 ^ n < 2 ^ n := Nat.mod_lt _ hpp
  have hzl : a / 2 ^ i < 2 ^ n := Nat.lt_of_le_of_lt (Nat.div_le_self _ _) ha
  have hsh : ∀ x j, binN 13 n x j = x * 2 ^ j % 2 ^ n := fun x j => up_min x j
  have hlr : ∀ x j, x < 2 ^ n → binN 14 n x j = x / 2 ^ j := fun x j hx => down_min hx j
  have hy : a * 2 ^ i % 2 ^ n * 2 ^ k % 2 ^ n = a * 2 ^ (i + k) % 2 ^ n := by rw [Nat.mod_mul_mod, Nat.mul_assoc, ← Nat.pow_add]
  have hv : a / 2 ^ i / 2 ^ k = a / 2 ^ (i + k) := by rw [Nat.div_div_eq_div_mul, ← Nat.pow_add]
  have hV : ∀ W q0, q0 = (i : Int) + k → Calls Try.prog 13 #[.int .u64 q0, .int .i64 n] W (GivesV W (.int .i64 (validE (i + k) n))) := fun W q0 e => by
    have := pValid_any (i + k) n W (by omega)
    rw [show ((i + k : Nat) : Int) = q0 by omega] at this
    exact this.mono fun e w' h => by obtain ⟨rfl, rfl⟩ := h; exact ⟨rfl, Below.refl _ _⟩
  have hve : validE (i + k) n = 0 ∨ validE (i + k) n = 5 := by
    rw [validE_in h1 h64]
    split
    · exact .inl rfl
    · exact .inr rfl
  have hikl : validE (i + k) n = 0 → i + k < 2 ^ n := fun h => by
    rw [validE_in h1 h64] at h
    split at h
    · assumption
    · cases h
  have hinl : (unN 4 n a) / 2 ^ i < 2 ^ n := Nat.lt_of_le_of_lt (Nat.div_le_self _ _) (unN_lt ha)
  refine shifts_walk n u a i k (a * 2 ^ i % 2 ^ n) (a * 2 ^ (i + k) % 2 ^ n) (a / 2 ^ i) (a / 2 ^ (i + k)) (a % 2 ^ (n - i)) (unN 4 n a) (unN 4 n a / 2 ^ i) (unN 4 n (unN 4 n a / 2 ^ i)) (ashrN n a i) (hiN n a).toNat nn one two (validE (i + k) n) w h1 h64 (by omega) (by omega) (Lib.hid hve) ?_ ?_
    cW cA (fun W q0 e => cI W q0 (by omega)) (fun W q0 e => cK W q0 (by omega))
    (bin_ok 13 n a i _ h1 h64 ha hil (by decide) (by decide) (hsh _ _))
    (bin_ok 13 n _ k _ h1 h64 hxl hkl (by decide) (by decide) ((hsh _ _).trans hy))
    (bin_ok 14 n a i _ h1 h64 ha hil (by decide) (by decide) (hlr _ _ ha))
    (bin_ok 14 n _ k _ h1 h64 hzl hkl (by decide) (by decide) ((hlr _ _ hzl).trans hv))
    (bin_ok 13 n a i _ h1 h64 ha hil (by decide) (by decide) (hsh _ _))
    (bin_ok 14 n _ i _ h1 h64 hxl hil (by decide) (by decide) ((hlr _ _ hxl).trans (back_low (by omega))))
    (un_ok 4 n a _ h1 h64 ha (.inl rfl) rfl)
    (bin_ok 14 n _ i _ h1 h64 (unN_lt ha) hil (by decide) (by decide) (hlr _ _ (unN_lt ha)))
    (un_ok 4 n _ _ h1 h64 hinl (.inl rfl) rfl)
    (bin_ok 14 n a i _ h1 h64 ha hil (by decide) (by decide) (hlr _ _ ha))
    (bin_ok 15 n a i _ h1 h64 ha hil (by decide) (by decide) rfl)
    (fun W q0 q1 q2 e0 e1 e2 => ext_ok a n (n - 1) (n - 1) _ h1 h64 ha (Nat.le_refl _) (by omega) (high_div h1 ha) W q0 q1 q2 e0 (by omega) (by omega))
    hV
    (fun h W q0 e => by
      have := bin_ok 13 n a (i + k) _ h1 h64 ha (hikl h) (by decide) (by decide) (hsh _ _) W
      rwa [show ((i + k : Nat) : Int) = q0 by omega] at this)
    (fun h W q0 e => by
      have := bin_ok 14 n a (i + k) _ h1 h64 ha (hikl h) (by decide) (by decide) (hlr _ _ ha) W
      rwa [show ((i + k : Nat) : Int) = q0 by omega] at this)
    (fun hlt W q0 q1 q2 e0 e1 e2 => ext_ok a n (n - 1 - i) 0 _ h1 h64 ha (by omega) (by omega) (by rw [Nat.pow_zero, Nat.div_one, show n - 1 - i + 1 - 0 = n - i by omega]) W q0 q1 q2 e0 (by omega) (by omega))
  · refine Lib.hid fun h => ?_
    rw [show n - i = 0 by omega, Nat.pow_zero, Nat.mod_one]
  · refine Lib.hid ?_
    cases hx : hiN n a
    · exact .inr ⟨rfl, ash_plain (by omega) hx⟩
    · exact .inl ⟨rfl, ash_not (by omega) ha hx⟩
end Go.Proofs.Ytcpjchfgiogmeaa
