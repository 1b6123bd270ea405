/-
  THE WALK of the law on the parts (P3.9).
-/
import Derived.Test.YtcpjchfgiogmeaaBitsLaw
namespace Go.Proofs.Ytcpjchfgiogmeaa
open Go.RowKit

set_option maxRecDepth 100000 in
set_option maxHeartbeats 8000000 in
theorem parts_walk (kn km kk ks u t a b c hi lo z0 z1 r h al : Nat) (w0 v0 cut more : Int) (w : World) (hn : kn < 32) (hm : km < 32) (hk : kk < kn + km + 1) (hs : ks < 63 - kn) (H : (h = 0 ∧ r = 0) ∨ (h = 1 ∧ r = al))
    (cN : ∀ (W : World) (q0 : Int), q0 = 32 → Calls Try.prog 22 #[.int .i64 w0, .int .i64 q0] W (GivesV W (.int .i64 kn)))
    (cM : ∀ (W : World) (q0 : Int), q0 = 32 → Calls Try.prog 22 #[.int .i64 v0, .int .i64 q0] W (GivesV W (.int .i64 km)))
    (cA : ∀ (W : World) (q0 : Int), q0 = ((kn : Int) + 1) → Calls Try.prog 12 #[.int .u64 u, .int .i64 q0] W (GivesV W (.int .u64 a)))
    (cB : ∀ (W : World) (q0 : Int), q0 = ((km : Int) + 1) → Calls Try.prog 12 #[.int .u64 t, .int .i64 q0] W (GivesV W (.int .u64 b)))
    (cC : ∀ (W : World) (q0 q1 : Int), q0 = ((kn : Int) + 1) → q1 = ((km : Int) + 1) → Calls Try.prog 20 #[.int .u64 a, .int .i64 q0, .int .u64 b, .int .i64 q1] W (GivesV W (.tuple #[.int .u64 c, .int .i64 0])))
    (c1 : ∀ (W : World) (q0 q1 q2 : Int), q0 = ((kn : Int) + km + 2) → q1 = (kn : Int) + km + 1 → q2 = ((km : Int) + 1) → Calls Try.prog 23 #[.int .u64 c, .int .i64 q0, .int .i64 q1, .int .i64 q2] W (GivesV W (.tuple #[.int .u64 a, .int .i64 0])))
    (c2 : ∀ (W : World) (q0 q1 q2 : Int), q0 = ((kn : Int) + km + 2) → q1 = (km : Int) → q2 = 0 → Calls Try.prog 23 #[.int .u64 c, .int .i64 q0, .int .i64 q1, .int .i64 q2] W (GivesV W (.tuple #[.int .u64 b, .int .i64 0])))
    (cK : ∀ (W : World) (q0 : Int), q0 = (kn : Int) + km + 1 → Calls Try.prog 22 #[.int .i64 cut, .int .i64 q0] W (GivesV W (.int .i64 kk)))
    (c3 : ∀ (W : World) (q0 q1 q2 : Int), q0 = ((kn : Int) + km + 2) → q1 = (kn : Int) + km + 1 → q2 = ((kk : Int) + 1) → Calls Try.prog 23 #[.int .u64 c, .int .i64 q0, .int .i64 q1, .int .i64 q2] W (GivesV W (.tuple #[.int .u64 hi, .int .i64 0])))
    (c4 : ∀ (W : World) (q0 q1 q2 : Int), q0 = ((kn : Int) + km + 2) → q1 = (kk : Int) → q2 = 0 → Calls Try.prog 23 #[.int .u64 c, .int .i64 q0, .int .i64 q1, .int .i64 q2] W (GivesV W (.tuple #[.int .u64 lo, .int .i64 0])))
    (c5 : ∀ (W : World) (q0 q1 : Int), q0 = (kn : Int) + km + 1 - kk → q1 = ((kk : Int) + 1) → Calls Try.prog 20 #[.int .u64 hi, .int .i64 q0, .int .u64 lo, .int .i64 q1] W (GivesV W (.tuple #[.int .u64 c, .int .i64 0])))
    (cS : ∀ (W : World) (q0 : Int), q0 = 63 - (kn : Int) → Calls Try.prog 22 #[.int .i64 more, .int .i64 q0] W (GivesV W (.int .i64 ks)))
    (r01 : ∀ (W : World) (q0 q1 : Int), q0 = ((kn : Int) + 1) → q1 = ((ks : Int) + 1) → Calls Try.prog 25 #[.int .u64 a, .int .i64 q0, .int .i64 q1, .bool false] W (GivesV W (.tuple #[.int .u64 z0, .int .i64 0])))
    (r02 : ∀ (W : World) (q0 q1 q2 : Int), q0 = ((kn : Int) + ks + 2) → q1 = (kn : Int) → q2 = 0 → Calls Try.prog 23 #[.int .u64 z0, .int .i64 q0, .int .i64 q1, .int .i64 q2] W (GivesV W (.tuple #[.int .u64 a, .int .i64 0])))
    (r03 : ∀ (W : World) (q0 q1 q2 : Int), q0 = ((kn : Int) + ks + 2) → q1 = (kn : Int) + ks + 1 → q2 = ((kn : Int) + 1) → Calls Try.prog 23 #[.int .u64 z0, .int .i64 q0, .int .i64 q1, .int .i64 q2] W (GivesV W (.tuple #[.int .u64 0, .int .i64 0])))
    (r04 : ∀ (W : World) (q0 q1 q2 : Int), q0 = ((kn : Int) + 1) → q1 = (kn : Int) → q2 = (kn : Int) → Calls Try.prog 23 #[.int .u64 a, .int .i64 q0, .int .i64 q1, .int .i64 q2] W (GivesV W (.tuple #[.int .u64 h, .int .i64 0])))
    (r11 : ∀ (W : World) (q0 q1 : Int), q0 = ((kn : Int) + 1) → q1 = ((ks : Int) + 1) → Calls Try.prog 25 #[.int .u64 a, .int .i64 q0, .int .i64 q1, .bool true] W (GivesV W (.tuple #[.int .u64 z1, .int .i64 0])))
    (r12 : ∀ (W : World) (q0 q1 q2 : Int), q0 = ((kn : Int) + ks + 2) → q1 = (kn : Int) → q2 = 0 → Calls Try.prog 23 #[.int .u64 z1, .int .i64 q0, .int .i64 q1, .int .i64 q2] W (GivesV W (.tuple #[.int .u64 a, .int .i64 0])))
    (r13 : ∀ (W : World) (q0 q1 q2 : Int), q0 = ((kn : Int) + ks + 2) → q1 = (kn : Int) + ks + 1 → q2 = ((kn : Int) + 1) → Calls Try.prog 23 #[.int .u64 z1, .int .i64 q0, .int .i64 q1, .int .i64 q2] W (GivesV W (.tuple #[.int .u64 r, .int .i64 0])))
    (r14 : ∀ (W : World) (q0 q1 q2 : Int), q0 = ((kn : Int) + 1) → q1 = (kn : Int) → q2 = (kn : Int) → Calls Try.prog 23 #[.int .u64 a, .int .i64 q0, .int .i64 q1, .int .i64 q2] W (GivesV W (.tuple #[.int .u64 h, .int .i64 0])))
    (r15 : ∀ (W : World) (q0 : Int), q0 = ((ks : Int) + 1) → Calls Try.prog 17 #[.int .i64 4, .int .u64 0, .int .i64 q0] W (GivesV W (.tuple #[.int .u64 al, .int .i64 0])))
    : Calls Try.prog 10 #[.int .i64 w0, .int .i64 v0, .int .u64 u, .int .u64 t, .int .i64 cut, .int .i64 more] w (TruePost w) := by
  go_enter Try.func10, Try.ntmps10
  go_wp2_with (first
    | (go_at_call 22; refine (cN _ _ (by omega)).mono ?_; clear cN; rintro e w1 ⟨rfl, hb1⟩)
    | (go_at_call 22; refine (cM _ _ (by omega)).mono ?_; clear cM; rintro e w2 ⟨rfl, hb2⟩)
    | (go_at_call 12; refine (cA _ _ (by omega)).mono ?_; clear cA; rintro e w3 ⟨rfl, hb3⟩)
    | (go_at_call 12; refine (cB _ _ (by omega)).mono ?_; clear cB; rintro e w4 ⟨rfl, hb4⟩)
    | (go_at_call 20; refine (cC _ _ _ (by omega) (by omega)).mono ?_; clear cC; rintro e w5 ⟨rfl, hb5⟩)
    | (go_at_call 23; refine (c1 _ _ _ _ (by omega) (by omega) (by omega)).mono ?_; clear c1; rintro e w6 ⟨rfl, hb6⟩)
    | (go_at_call 23; refine (c2 _ _ _ _ (by omega) (by omega) (by omega)).mono ?_; clear c2; rintro e w7 ⟨rfl, hb7⟩)
    | (go_at_call 22; refine (cK _ _ (by omega)).mono ?_; clear cK; rintro e w8 ⟨rfl, hb8⟩)
    | (go_at_call 23; refine (c3 _ _ _ _ (by omega) (by omega) (by omega)).mono ?_; clear c3; rintro e w9 ⟨rfl, hb9⟩)
    | (go_at_call 23; refine (c4 _ _ _ _ (by omega) (by omega) (by omega)).mono ?_; clear c4; rintro e w10 ⟨rfl, hb10⟩)
    | (go_at_call 20; refine (c5 _ _ _ (by omega) (by omega)).mono ?_; clear c5; rintro e w11 ⟨rfl, hb11⟩)
    | (go_at_call 22; refine (cS _ _ (by omega)).mono ?_; clear cS; rintro e w12 ⟨rfl, hb12⟩))
  have d1 := hb1
  have d2 := d1.trans (hb2.mono d1.size)
  have d3 := d2.trans (hb3.mono d2.size)
  have d4 := d3.trans (hb4.mono d3.size)
  have d5 := d4.trans (hb5.mono d4.size)
  have d6 := d5.trans (hb6.mono d5.size)
  have d7 := d6.trans (hb7.mono d6.size)
  have d8 := d7.trans (hb8.mono d7.size)
  have d9 := d8.trans (hb9.mono d8.size)
  have d10 := d9.trans (hb10.mono d9.size)
  have d11 := d10.trans (hb11.mono d10.size)
  have d12 := d11.trans (hb12.mono d11.size)
  have hL := d12
  clear d1 hb1 d2 hb2 d3 hb3 d4 hb4 d5 hb5 d6 hb6 d7 hb7 d8 hb8 d9 hb9 d10 hb10 d11 hb11 d12 hb12
  go_loopw [31] (fun i wr => ∃ k : Nat, k ≤ 2 ∧ i = .int .i64 k ∧ Below w.heap.size w wr) (fun i _ => 2 - (intOf i).toNat)
  case atStart => exact ⟨0, by omega, rfl, hL⟩
  case round =>
    clear hL
    obtain ⟨k, hk2, rfl, hr⟩ := hrel
    have hk3 : k = 0 ∨ k = 1 ∨ k = 2 := by omega
    rcases hk3 with rfl | rfl | rfl
    · rcases H with ⟨rfl, rfl⟩ | ⟨rfl, rfl⟩
      all_goals
        go_wp2_with (first
          | (go_at_call 25; refine (r01 _ _ _ (by omega) (by omega)).mono ?_; clear r01; rintro e w1 ⟨rfl, hb1⟩)
          | (go_at_call 23; refine (r02 _ _ _ _ (by omega) (by omega) (by omega)).mono ?_; clear r02; rintro e w2 ⟨rfl, hb2⟩)
          | (go_at_call 23; refine (r03 _ _ _ _ (by omega) (by omega) (by omega)).mono ?_; clear r03; rintro e w3 ⟨rfl, hb3⟩)
          | (go_at_call 23; refine (r04 _ _ _ _ (by omega) (by omega) (by omega)).mono ?_; clear r04; rintro e w4 ⟨rfl, hb4⟩))
        go_roundw
        case rel => exact ⟨1, by omega, rfl, (((hr.trans (hb1.mono hr.size)).trans (hb2.mono (by have := hr.size; have := hb1.size; omega))).trans (hb3.mono (by have := hr.size; have := hb1.size; have := hb2.size; omega))).trans (hb4.mono (by have := hr.size; have := hb1.size; have := hb2.size; have := hb3.size; omega))⟩
        case measure => simp [intOf]
    · rcases H with ⟨rfl, rfl⟩ | ⟨rfl, rfl⟩
      · go_wp2_with (first
          | (go_at_call 25; refine (r11 _ _ _ (by omega) (by omega)).mono ?_; clear r11; rintro e w1 ⟨rfl, hb1⟩)
          | (go_at_call 23; refine (r12 _ _ _ _ (by omega) (by omega) (by omega)).mono ?_; clear r12; rintro e w2 ⟨rfl, hb2⟩)
          | (go_at_call 23; refine (r13 _ _ _ _ (by omega) (by omega) (by omega)).mono ?_; clear r13; rintro e w3 ⟨rfl, hb3⟩)
          | (go_at_call 23; refine (r14 _ _ _ _ (by omega) (by omega) (by omega)).mono ?_; clear r14; rintro e w4 ⟨rfl, hb4⟩))
        have d1 := hr.trans (hb1.mono hr.size)
        have d2 := d1.trans (hb2.mono d1.size)
        have d3 := d2.trans (hb3.mono d2.size)
        have d4 := d3.trans (hb4.mono d3.size)
        go_roundw
        case rel => exact ⟨2, by omega, rfl, d4⟩
        case measure => simp [intOf]
      · go_wp2_with (first
          | (go_at_call 25; refine (r11 _ _ _ (by omega) (by omega)).mono ?_; clear r11; rintro e w1 ⟨rfl, hb1⟩)
          | (go_at_call 23; refine (r12 _ _ _ _ (by omega) (by omega) (by omega)).mono ?_; clear r12; rintro e w2 ⟨rfl, hb2⟩)
          | (go_at_call 23; refine (r13 _ _ _ _ (by omega) (by omega) (by omega)).mono ?_; clear r13; rintro e w3 ⟨rfl, hb3⟩)
          | (go_at_call 23; refine (r14 _ _ _ _ (by omega) (by omega) (by omega)).mono ?_; clear r14; rintro e w4 ⟨rfl, hb4⟩)
          | (go_at_call 17; refine (r15 _ _ (by omega)).mono ?_; clear r15; rintro e w5 ⟨rfl, hb5⟩))
        have d1 := hr.trans (hb1.mono hr.size)
        have d2 := d1.trans (hb2.mono d1.size)
        have d3 := d2.trans (hb3.mono d2.size)
        have d4 := d3.trans (hb4.mono d3.size)
        have d5 := d4.trans (hb5.mono d4.size)
        go_roundw
        case rel => exact ⟨2, by omega, rfl, d5⟩
        case measure => simp [intOf]
    · go_wp2_with (go_at_call 19; refine (livesB_any _).mono ?_; rintro e w1 ⟨rfl, hb1⟩)
      go_ret
      exact ⟨rfl, hr.trans (hb1.mono hr.size)⟩
theorem cat_lt {p q a b : Nat} (ha : a < 2 ^ p) (hb : b < 2 ^ q) : b + 2 ^ q * a < 2 ^ (q + p) := by
  rw [Nat.pow_add]
  generalize 2 ^ p = P at *
  generalize 2 ^ q = Q at *
  have : Q * (a + 1) ≤ Q * P := Nat.mul_le_mul_left _ ha
  rw [Nat.mul_add, Nat.mul_one] at this
  omega
theorem parts_any (w0 v0 : Int) (u t : Nat) (cut more : Int) (w : World) (hw : I64 w0) (hv : I64 v0) (hu : u < 18446744073709551616) (ht : t < 18446744073709551616) (hc : I64 cut) (hm : I64 more) :
    Calls Try.prog 10 #[.int .i64 w0, .int .i64 v0, .int .u64 u, .int .u64 t, .int .i64 cut, .int .i64 more] w (TruePost w) := by
  obtain ⟨kn, hkn, cN⟩ := around_ok w0 32 hw (by decide) (by decide)
  obtain ⟨km, hkm, cM⟩ := around_ok v0 32 hv (by decide) (by decide)
  obtain ⟨a, ha, cA⟩ := value_ok u (kn + 1) hu (by omega) (by omega)
  obtain ⟨b, hb, cB⟩ := value_ok t (km + 1) ht (by omega) (by omega)
  obtain ⟨kk, hkk, cK⟩ := around_ok cut (kn + km + 1) hc (by omega) (by omega)
  obtain ⟨ks, hks, cS⟩ := around_ok more (63 - kn) hm (by omega) (by omega)
  have hcv : b + 2 ^ (km + 1) * a < 2 ^ (kn + km + 2) := by
    rw [show kn + km + 2 = (km + 1) + (kn + 1) by omega]
    exact cat_lt ha hb
  have hc1 : (b + 2 ^ (km + 1) * a) / 2 ^ (km + 1) % 2 ^ (kn + km + 1 + 1 - (km + 1)) = a := by
    rw [Nat.add_mul_div_left _ _ (ppos _), Nat.div_eq_of_lt hb, Nat.zero_add, show kn + km + 1 + 1 - (km + 1) = kn + 1 by omega, Nat.mod_eq_of_lt ha]
  have hc2 : (b + 2 ^ (km + 1) * a) / 2 ^ 0 % 2 ^ (km + 1 - 0) = b := by
    rw [Nat.pow_zero, Nat.div_one, Nat.sub_zero, Nat.add_mul_mod_self_left, Nat.mod_eq_of_lt hb]
  have hlo : ∀ c k, c / 2 ^ 0 % 2 ^ (k + 1 - 0) = c % 2 ^ (k + 1) := fun c k => by rw [Nat.pow_zero, Nat.div_one, Nat.sub_zero]
  generalize hcc : b + 2 ^ (km + 1) * a = c at hcv hc1 hc2
  have hhi : c / 2 ^ (kk + 1) < 2 ^ (kn + km + 1 - kk) := by
    apply Nat.div_lt_of_lt_mul
    rw [← Nat.pow_add, show kk + 1 + (kn + km + 1 - kk) = kn + km + 2 by omega]
    exact hcv
  have hc3 : c / 2 ^ (kk + 1) % 2 ^ (kn + km + 1 + 1 - (kk + 1)) = c / 2 ^ (kk + 1) := by
    rw [show kn + km + 1 + 1 - (kk + 1) = kn + km + 1 - kk by omega, Nat.mod_eq_of_lt hhi]
  have hlt : c % 2 ^ (kk + 1) < 2 ^ (kk + 1) := Nat.mod_lt _ (ppos _)
  have hc5 : c % 2 ^ (kk + 1) + 2 ^ (kk + 1) * (c / 2 ^ (kk + 1)) = c := Nat.mod_add_div _ _
  have hone : 1 ≤ 2 ^ (ks + 1) := ppos _
  -- the extended value
  have hz : ∀ x : Bool, a + 2 ^ (kn + 1) * (x.toNat * (2 ^ (ks + 1) - 1)) < 2 ^ (kn + ks + 2) ∧ (a + 2 ^ (kn + 1) * (x.toNat * (2 ^ (ks + 1) - 1))) / 2 ^ 0 % 2 ^ (kn + 1 - 0) = a ∧
      (a + 2 ^ (kn + 1) * (x.toNat * (2 ^ (ks + 1) - 1))) / 2 ^ (kn + 1) % 2 ^ (kn + ks + 1 + 1 - (kn + 1)) = x.toNat * (2 ^ (ks + 1) - 1) := fun x => by
    have hx : x.toNat * (2 ^ (ks + 1) - 1) < 2 ^ (ks + 1) := by cases x <;> simp <;> omega
    refine ⟨?_, ?_, ?_⟩
    · rw [show kn + ks + 2 = (kn + 1) + (ks + 1) by omega]
      exact cat_lt hx ha
    · rw [Nat.pow_zero, Nat.div_one, Nat.sub_zero, Nat.add_mul_mod_self_left, Nat.mod_eq_of_lt ha]
    · rw [Nat.add_mul_div_left _ _ (ppos _), Nat.div_eq_of_lt ha, Nat.zero_add, show kn + ks + 1 + 1 - (kn + 1) = ks + 1 by omega, Nat.mod_eq_of_lt hx]
  have hh : a / 2 ^ kn % 2 ^ (kn + 1 - kn) = (hiN (kn + 1) a).toNat := by
    rw [show kn + 1 - kn = 1 by omega]
    unfold hiN
    rw [Nat.add_sub_cancel]
    rw [Nat.pow_succ] at ha
    by_cases h : 2 ^ kn ≤ a
    · have : a / 2 ^ kn = 1 := by
        rw [Nat.div_eq_iff (ppos _)]
        omega
      simp [h, this]
    · have : a / 2 ^ kn = 0 := Nat.div_eq_of_lt (by omega)
      simp [h, this]
  obtain ⟨f1, f2, f3⟩ := hz false
  obtain ⟨g1, g2, g3⟩ := hz (hiN (kn + 1) a)
  have hal : unN 4 (ks + 1) 0 = 2 ^ (ks + 1) - 1 := rfl
  refine parts_walk kn km kk ks u t a b c (c / 2 ^ (kk + 1)) (c % 2 ^ (kk + 1)) _ _ _ (hiN (kn + 1) a).toNat (2 ^ (ks + 1) - 1) w0 v0 cut more w hkn hkm (by omega) (by omega) ?_
    (fun W q0 e0 => cN W q0 (by omega)) (fun W q0 e0 => cM W q0 (by omega)) (fun W q0 e0 => cA W q0 (by omega)) (fun W q0 e0 => cB W q0 (by omega))
    (fun W q0 q1 e0 e1 => cat_ok a (kn + 1) b (km + 1) c (by omega) (by omega) (by omega) ha hb hcc W q0 q1 (by omega) (by omega))
    (fun W q0 q1 q2 e0 e1 e2 => ext_ok c (kn + km + 2) (kn + km + 1) (km + 1) a (by omega) (by omega) hcv (by omega) (by omega) hc1 W q0 q1 q2 (by omega) (by omega) (by omega))
    (fun W q0 q1 q2 e0 e1 e2 => ext_ok c (kn + km + 2) km 0 b (by omega) (by omega) hcv (by omega) (by omega) hc2 W q0 q1 q2 (by omega) (by omega) (by omega))
    (fun W q0 e0 => cK W q0 (by omega))
    (fun W q0 q1 q2 e0 e1 e2 => ext_ok c (kn + km + 2) (kn + km + 1) (kk + 1) _ (by omega) (by omega) hcv (by omega) (by omega) hc3 W q0 q1 q2 (by omega) (by omega) (by omega))
    (fun W q0 q1 q2 e0 e1 e2 => ext_ok c (kn + km + 2) kk 0 _ (by omega) (by omega) hcv (by omega) (by omega) (hlo c kk) W q0 q1 q2 (by omega) (by omega) (by omega))
    (fun W q0 q1 e0 e1 => cat_ok _ (kn + km + 1 - kk) _ (kk + 1) c (by omega) (by omega) (by omega) hhi hlt hc5 W q0 q1 (by omega) (by omega))
    (fun W q0 e0 => cS W q0 (by omega))
    (fun W q0 q1 e0 e1 => exd_ok a (kn + 1) (ks + 1) _ false (by omega) (by omega) (by omega) ha rfl W q0 q1 (by omega) (by omega))
    (fun W q0 q1 q2 e0 e1 e2 => ext_ok _ (kn + ks + 2) kn 0 a (by omega) (by omega) f1 (by omega) (by omega) f2 W q0 q1 q2 (by omega) (by omega) (by omega))
    (fun W q0 q1 q2 e0 e1 e2 => ext_ok _ (kn + ks + 2) (kn + ks + 1) (kn + 1) 0 (by omega) (by omega) f1 (by omega) (by omega) (by rw [f3]; simp) W q0 q1 q2 (by omega) (by omega) (by omega))
    (fun W q0 q1 q2 e0 e1 e2 => ext_ok a (kn + 1) kn kn _ (by omega) (by omega) ha (by omega) (by omega) hh W q0 q1 q2 (by omega) (by omega) (by omega))
    (fun W q0 q1 e0 e1 => exd_ok a (kn + 1) (ks + 1) _ true (by omega) (by omega) (by omega) ha (by rw [Bool.true_and]) W q0 q1 (by omega) (by omega))
    (fun W q0 q1 q2 e0 e1 e2 => ext_ok _ (kn + ks + 2) kn 0 a (by omega) (by omega) g1 (by omega) (by omega) g2 W q0 q1 q2 (by omega) (by omega) (by omega))
    (fun W q0 q1 q2 e0 e1 e2 => ext_ok _ (kn + ks + 2) (kn + ks + 1) (kn + 1) _ (by omega) (by omega) g1 (by omega) (by omega) g3 W q0 q1 q2 (by omega) (by omega) (by omega))
    (fun W q0 q1 q2 e0 e1 e2 => ext_ok a (kn + 1) kn kn _ (by omega) (by omega) ha (by omega) (by omega) hh W q0 q1 q2 (by omega) (by omega) (by omega))
    (fun W q0 e0 => un_okE 4 (ks + 1) 0 _ (by omega) (by omega) (ppos _) (.inl rfl) hal W q0 (by omega))
  cases hiN (kn + 1) a
  · exact .inl ⟨rfl, by simp⟩
  · exact .inr ⟨rfl, by simp⟩
end Go.Proofs.Ytcpjchfgiogmeaa
