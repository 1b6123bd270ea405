/-
  THE WALKS of the program's Valid, Or, operations, apply.
-/
import Derived.Test.YtcpjchfgiogmeaaBitsPa
import Derived.Deep.WholeRow
namespace Go.Proofs.Ytcpjchfgiogmeaa
open Go.RowKit

set_option maxHeartbeats 1000000 in
theorem pValid_any (u : Nat) (n : Int) (w : World) (_ : u < 18446744073709551616) :
    Calls Try.prog 13 #[.int .u64 u, .int .i64 n] w fun e w' => e = .returned (.int .i64 (validE u n)) ∧ w = w' := by
  by_cases h1 : n < 1
  · have he := Lib.hid (show validE u n = 1 by unfold validE; rw [if_pos (.inl h1)])
    go_enter Try.func13, Try.ntmps13
    go_wp2
    go_ret
    exact ⟨by rw [he.out]; rfl, rfl⟩
  · by_cases h2 : 64 < n
    · have he := Lib.hid (show validE u n = 1 by unfold validE; rw [if_pos (.inr h2)])
      go_enter Try.func13, Try.ntmps13
      go_wp2
      go_ret
      exact ⟨by rw [he.out]; rfl, rfl⟩
    · obtain ⟨m, rfl⟩ : ∃ m : Nat, n = m := ⟨n.toNat, by omega⟩
      have hg := pgreatest_any m w (by omega) (by omega)
      have he := Lib.hid (validE_in (u := u) (m := m) (by omega) (by omega))
      have hp := ppos m
      by_cases hv : u < 2 ^ m
      · rw [if_pos hv] at he
        have hv2 : u ≤ 2 ^ m - 1 := by omega
        generalize 2 ^ m - 1 = q at hg hv2
        clear hv hp
        go_enter Try.func13, Try.ntmps13
        go_wp2_with (go_at_call 37; refine hg.mono ?_; clear hg; rintro e w1 ⟨rfl, rfl⟩)
        go_ret
        exact ⟨by rw [he.out]; rfl, rfl⟩
      · rw [if_neg hv] at he
        have hv2 : 2 ^ m - 1 < u := by omega
        generalize 2 ^ m - 1 = q at hg hv2
        clear hv hp
        go_enter Try.func13, Try.ntmps13
        go_wp2_with (go_at_call 37; refine hg.mono ?_; clear hg; rintro e w1 ⟨rfl, rfl⟩)
        go_ret
        exact ⟨by rw [he.out]; rfl, rfl⟩

set_option maxHeartbeats 1000000 in
theorem pOr_first (x _ : Int) (hx : x ≠ 0) (g : Nat) (w : World) (hc : w.cell? ⟨g, 0, none⟩ = some (.int .i64 x)) :
    Calls Try.prog 41 #[.slice (some ⟨g, 0, none⟩) 2 2] w fun e w' => e = .returned (.int .i64 x) ∧ w = w' := by
  have t1 : (x != 0) = true := by simpa using hx
  go_enter Try.func41, Try.ntmps41
  go_wp2
  go_loop [8] (fun i => i = .int .i64 0) (fun _ => 0)
  case atStart => rfl
  case round =>
    obtain rfl := hrel
    go_wp2
    go_ret
    exact ⟨rfl, rfl⟩
set_option maxHeartbeats 1000000 in
theorem pOr_second (y : Int) (g : Nat) (w : World) (hc : w.cell? ⟨g, 0, none⟩ = some (.int .i64 0)) (hc2 : w.cell? ⟨g, 1, none⟩ = some (.int .i64 y)) :
    Calls Try.prog 41 #[.slice (some ⟨g, 0, none⟩) 2 2] w fun e w' => e = .returned (.int .i64 y) ∧ w = w' := by
  go_enter Try.func41, Try.ntmps41
  go_wp2
  go_loop [8] (fun i => i = .int .i64 0 ∨ i = .int .i64 1 ∨ (i = .int .i64 2 ∧ y = 0)) (fun i => (2 - intOf i).toNat)
  case atStart => exact .inl rfl
  case round =>
    rcases hrel with rfl | rfl | ⟨rfl, rfl⟩
    · go_wp2
      go_round
      case rel => exact .inr (.inl rfl)
      case measure => simp [intOf]
    · by_cases hy : y = 0
      · subst hy
        go_wp2
        go_round
        case rel => exact .inr (.inr (by simp))
        case measure => simp [intOf]
      · have t1 : (y != 0) = true := by simpa using hy
        go_wp2
        go_ret
        exact ⟨rfl, rfl⟩
    · go_wp2
      go_ret
      exact ⟨rfl, rfl⟩
def opsV : Array Value := #[.nilFunc, .nilFunc, .nilFunc, .nilFunc, .func (.func 54) #[] #[], .func (.func 55) #[] #[], .func (.func 56) #[] #[], .func (.func 57) #[] #[], .func (.func 58) #[] #[], .func (.func 59) #[] #[], .func (.func 60) #[] #[], .func (.func 61) #[] #[], .func (.func 63) #[] #[], .func (.func 64) #[] #[], .func (.func 65) #[] #[], .func (.func 66) #[] #[], .func (.func 67) #[] #[], .func (.func 69) #[] #[], .func (.func 70) #[] #[]]
theorem ops_one : opsV.all (·.oneCell') = true := by simp [opsV, Value.oneCell']
set_option maxHeartbeats 1000000 in
theorem pops_any (w : World) : Calls Try.prog 46 #[] w fun e w' => e = .returned (.agg opsV) ∧ Below w.heap.size w w' := by
  go_enter Try.func46, Try.ntmps46
  go_wp2_with (refine wpList_store_row rfl 69 (.tmp 0) (.tmp 1) rfl w.heap.size opsV rfl rfl 69 _ (heap_alloc_new w _) (by kernel_rfl) rfl ops_one ?_; rw [World.setRow_alloc_new])
  refine bodyPost_ret (results_cell_row rfl _ _ w.heap.size 69 opsV (0, 0) _ rfl (heap_alloc_new w _) Try.underlying69 rfl (by kernel_rfl)) rfl ?_
  exact ⟨rfl, (Below.refl _ w).alloc (Nat.le_refl _) _⟩

/-- apply(op, a, b, n): the number and the error -/
def appS (op a b : Nat) (n : Int) : Nat × Int := if validE a n ≠ 0 then (0, validE a n) else if validE b n ≠ 0 then (0, validE b n) else (opN op n.toNat a b, 0)
set_option maxHeartbeats 1000000 in
theorem papply_e1 (op : Int) (a b : Nat) (n x y : Int) (w : World) (hx : x ≠ 0)
    (c1 : Calls Try.prog 13 #[.int .u64 a, .int .i64 n] w fun e w' => e = .returned (.int .i64 x) ∧ w = w') (c2 : Calls Try.prog 13 #[.int .u64 b, .int .i64 n] w fun e w' => e = .returned (.int .i64 y) ∧ w = w') :
    Calls Try.prog 38 #[.int .i64 op, .int .u64 a, .int .u64 b, .int .i64 n] w (Num2 w (0, x)) := by
  have t1 : (x != 0) = true := by simpa using hx
  have HO := Lib.hid (pOr_first x y hx)
  have tok1 : True := trivial
  go_enter Try.func38, Try.ntmps38
  go_wp2_with (first
    | (go_at_call 13; have _t := tok1; refine c1.mono ?_; clear c1 tok1; rintro e w1 ⟨rfl, rfl⟩; have tok2 : True := trivial)
    | (go_at_call 13; have _t := tok2; refine c2.mono ?_; clear c2; rintro e w1 ⟨rfl, rfl⟩)
    | (go_at_call 41; refine (pOr_first x y hx _ _ (by simp [World.cell?_alloc_mark])).mono ?_; rintro e w1 ⟨rfl, rfl⟩))
  go_ret2
  exact ⟨rfl, (Below.refl _ w).alloc (Nat.le_refl _) _⟩
set_option maxHeartbeats 1000000 in
theorem papply_e2 (op : Int) (a b : Nat) (n y : Int) (w : World) (hy : y ≠ 0)
    (c1 : Calls Try.prog 13 #[.int .u64 a, .int .i64 n] w fun e w' => e = .returned (.int .i64 0) ∧ w = w') (c2 : Calls Try.prog 13 #[.int .u64 b, .int .i64 n] w fun e w' => e = .returned (.int .i64 y) ∧ w = w') :
    Calls Try.prog 38 #[.int .i64 op, .int .u64 a, .int .u64 b, .int .i64 n] w (Num2 w (0, y)) := by
  have t1 : (y != 0) = true := by simpa using hy
  have tok1 : True := trivial
  go_enter Try.func38, Try.ntmps38
  go_wp2_with (first
    | (go_at_call 13; have _t := tok1; refine c1.mono ?_; clear c1 tok1; rintro e w1 ⟨rfl, rfl⟩; have tok2 : True := trivial)
    | (go_at_call 13; have _t := tok2; refine c2.mono ?_; clear c2; rintro e w1 ⟨rfl, rfl⟩)
    | (go_at_call 41; refine (pOr_second y _ _ (by simp [World.cell?_alloc_mark]) (by simp [World.cell?_alloc_mark])).mono ?_; rintro e w1 ⟨rfl, rfl⟩))
  go_ret2
  exact ⟨rfl, (Below.refl _ w).alloc (Nat.le_refl _) _⟩
theorem and_mask {r n : Nat} (h64 : n ≤ 64) (hr : r < 18446744073709551616) : bits .and .u64 (r : Int) ((2 ^ n - 1 : Nat) : Int) = ((r % 2 ^ n : Nat) : Int) := by
  have hp := pow64 h64
  have h1 := ppos n
  rw [u64_and_nat _ _ hr (by omega), Nat.and_two_pow_sub_one_eq_mod]
set_option maxHeartbeats 1000000 in
theorem papply_4 (a b n : Nat) (w : World) (t : Nat) (h1 : 1 ≤ n) (h64 : n ≤ 64) (hO : OpAt 54 n a b t)
    (c1 : Calls Try.prog 13 #[.int .u64 a, .int .i64 n] w fun e w' => e = .returned (.int .i64 0) ∧ w = w') (c2 : Calls Try.prog 13 #[.int .u64 b, .int .i64 n] w fun e w' => e = .returned (.int .i64 0) ∧ w = w') :
    Calls Try.prog 38 #[.int .i64 4, .int .u64 a, .int .u64 b, .int .i64 n] w (Num2 w (t, 0)) := by
  obtain ⟨r, hr, hm, hc⟩ := hO
  have HM := Lib.hid (and_mask h64 hr)
  rw [hm] at HM
  have hg := fun W => pgreatest_any n W h1 h64
  generalize 2 ^ n - 1 = q at hg HM
  clear hr hm h1 h64
  have hix : ∀ W : World, (Instr.index 69 (.agg opsV) (.int .i64 4)).run Try.prog W = .ok (.func (.func 54) #[] #[]) W := fun _ => by kernel_rfl
  have tok1 : True := trivial
  go_enter Try.func38, Try.ntmps38
  go_wp2_with (first
    | (go_at_call 13; have _t := tok1; refine c1.mono ?_; clear c1 tok1; rintro e w1 ⟨rfl, rfl⟩; have tok2 : True := trivial)
    | (go_at_call 13; have _t := tok2; refine c2.mono ?_; clear c2; rintro e w1 ⟨rfl, rfl⟩)
    | (go_at_call 41; refine (pOr_second 0 _ _ (by simp [World.cell?_alloc_mark]) (by simp [World.cell?_alloc_mark])).mono ?_; rintro e w1 ⟨rfl, rfl⟩)
    | (go_at_call 46; refine (pops_any _).mono ?_; rintro e w2 ⟨rfl, hb2⟩)
    | (go_at_call 54; refine (hc _).mono ?_; clear hc; rintro e w3 ⟨rfl, rfl⟩)
    | (go_at_call 37; refine (hg _).mono ?_; clear hg; rintro e w4 ⟨rfl, rfl⟩))
  go_ret2
  exact ⟨by rw [HM.out]; rfl, ((Below.refl _ w).alloc (Nat.le_refl _) _).trans (hb2.mono (by simp))⟩
set_option maxHeartbeats 1000000 in
theorem papply_5 (a b n : Nat) (w : World) (t : Nat) (h1 : 1 ≤ n) (h64 : n ≤ 64) (hO : OpAt 55 n a b t)
    (c1 : Calls Try.prog 13 #[.int .u64 a, .int .i64 n] w fun e w' => e = .returned (.int .i64 0) ∧ w = w') (c2 : Calls Try.prog 13 #[.int .u64 b, .int .i64 n] w fun e w' => e = .returned (.int .i64 0) ∧ w = w') :
    Calls Try.prog 38 #[.int .i64 5, .int .u64 a, .int .u64 b, .int .i64 n] w (Num2 w (t, 0)) := by
  obtain ⟨r, hr, hm, hc⟩ := hO
  have HM := Lib.hid (and_mask h64 hr)
  rw [hm] at HM
  have hg := fun W => pgreatest_any n W h1 h64
  generalize 2 ^ n - 1 = q at hg HM
  clear hr hm h1 h64
  have hix : ∀ W : World, (Instr.index 69 (.agg opsV) (.int .i64 5)).run Try.prog W = .ok (.func (.func 55) #[] #[]) W := fun _ => by kernel_rfl
  have tok1 : True := trivial
  go_enter Try.func38, Try.ntmps38
  go_wp2_with (first
    | (go_at_call 13; have _t := tok1; refine c1.mono ?_; clear c1 tok1; rintro e w1 ⟨rfl, rfl⟩; have tok2 : True := trivial)
    | (go_at_call 13; have _t := tok2; refine c2.mono ?_; clear c2; rintro e w1 ⟨rfl, rfl⟩)
    | (go_at_call 41; refine (pOr_second 0 _ _ (by simp [World.cell?_alloc_mark]) (by simp [World.cell?_alloc_mark])).mono ?_; rintro e w1 ⟨rfl, rfl⟩)
    | (go_at_call 46; refine (pops_any _).mono ?_; rintro e w2 ⟨rfl, hb2⟩)
    | (go_at_call 55; refine (hc _).mono ?_; clear hc; rintro e w3 ⟨rfl, rfl⟩)
    | (go_at_call 37; refine (hg _).mono ?_; clear hg; rintro e w4 ⟨rfl, rfl⟩))
  go_ret2
  exact ⟨by rw [HM.out]; rfl, ((Below.refl _ w).alloc (Nat.le_refl _) _).trans (hb2.mono (by simp))⟩
set_option maxHeartbeats 1000000 in
theorem papply_6 (a b n : Nat) (w : World) (t : Nat) (h1 : 1 ≤ n) (h64 : n ≤ 64) (hO : OpAt 56 n a b t)
    (c1 : Calls Try.prog 13 #[.int .u64 a, .int .i64 n] w fun e w' => e = .returned (.int .i64 0) ∧ w = w') (c2 : Calls Try.prog 13 #[.int .u64 b, .int .i64 n] w fun e w' => e = .returned (.int .i64 0) ∧ w = w') :
    Calls Try.prog 38 #[.int .i64 6, .int .u64 a, .int .u64 b, .int .i64 n] w (Num2 w (t, 0)) := by
  obtain ⟨r, hr, hm, hc⟩ := hO
  have HM := Lib.hid (and_mask h64 hr)
  rw [hm] at HM
  have hg := fun W => pgreatest_any n W h1 h64
  generalize 2 ^ n - 1 = q at hg HM
  clear hr hm h1 h64
  have hix : ∀ W : World, (Instr.index 69 (.agg opsV) (.int .i64 6)).run Try.prog W = .ok (.func (.func 56) #[] #[]) W := fun _ => by kernel_rfl
  have tok1 : True := trivial
  go_enter Try.func38, Try.ntmps38
  go_wp2_with (first
    | (go_at_call 13; have _t := tok1; refine c1.mono ?_; clear c1 tok1; rintro e w1 ⟨rfl, rfl⟩; have tok2 : True := trivial)
    | (go_at_call 13; have _t := tok2; refine c2.mono ?_; clear c2; rintro e w1 ⟨rfl, rfl⟩)
    | (go_at_call 41; refine (pOr_second 0 _ _ (by simp [World.cell?_alloc_mark]) (by simp [World.cell?_alloc_mark])).mono ?_; rintro e w1 ⟨rfl, rfl⟩)
    | (go_at_call 46; refine (pops_any _).mono ?_; rintro e w2 ⟨rfl, hb2⟩)
    | (go_at_call 56; refine (hc _).mono ?_; clear hc; rintro e w3 ⟨rfl, rfl⟩)
    | (go_at_call 37; refine (hg _).mono ?_; clear hg; rintro e w4 ⟨rfl, rfl⟩))
  go_ret2
  exact ⟨by rw [HM.out]; rfl, ((Below.refl _ w).alloc (Nat.le_refl _) _).trans (hb2.mono (by simp))⟩
set_option maxHeartbeats 1000000 in
theorem papply_7 (a b n : Nat) (w : World) (t : Nat) (h1 : 1 ≤ n) (h64 : n ≤ 64) (hO : OpAt 57 n a b t)
    (c1 : Calls Try.prog 13 #[.int .u64 a, .int .i64 n] w fun e w' => e = .returned (.int .i64 0) ∧ w = w') (c2 : Calls Try.prog 13 #[.int .u64 b, .int .i64 n] w fun e w' => e = .returned (.int .i64 0) ∧ w = w') :
    Calls Try.prog 38 #[.int .i64 7, .int .u64 a, .int .u64 b, .int .i64 n] w (Num2 w (t, 0)) := by
  obtain ⟨r, hr, hm, hc⟩ := hO
  have HM := Lib.hid (and_mask h64 hr)
  rw [hm] at HM
  have hg := fun W => pgreatest_any n W h1 h64
  generalize 2 ^ n - 1 = q at hg HM
  clear hr hm h1 h64
  have hix : ∀ W : World, (Instr.index 69 (.agg opsV) (.int .i64 7)).run Try.prog W = .ok (.func (.func 57) #[] #[]) W := fun _ => by kernel_rfl
  have tok1 : True := trivial
  go_enter Try.func38, Try.ntmps38
  go_wp2_with (first
    | (go_at_call 13; have _t := tok1; refine c1.mono ?_; clear c1 tok1; rintro e w1 ⟨rfl, rfl⟩; have tok2 : True := trivial)
    | (go_at_call 13; have _t := tok2; refine c2.mono ?_; clear c2; rintro e w1 ⟨rfl, rfl⟩)
    | (go_at_call 41; refine (pOr_second 0 _ _ (by simp [World.cell?_alloc_mark]) (by simp [World.cell?_alloc_mark])).mono ?_; rintro e w1 ⟨rfl, rfl⟩)
    | (go_at_call 46; refine (pops_any _).mono ?_; rintro e w2 ⟨rfl, hb2⟩)
    | (go_at_call 57; refine (hc _).mono ?_; clear hc; rintro e w3 ⟨rfl, rfl⟩)
    | (go_at_call 37; refine (hg _).mono ?_; clear hg; rintro e w4 ⟨rfl, rfl⟩))
  go_ret2
  exact ⟨by rw [HM.out]; rfl, ((Below.refl _ w).alloc (Nat.le_refl _) _).trans (hb2.mono (by simp))⟩
set_option maxHeartbeats 1000000 in
theorem papply_8 (a b n : Nat) (w : World) (t : Nat) (h1 : 1 ≤ n) (h64 : n ≤ 64) (hO : OpAt 58 n a b t)
    (c1 : Calls Try.prog 13 #[.int .u64 a, .int .i64 n] w fun e w' => e = .returned (.int .i64 0) ∧ w = w') (c2 : Calls Try.prog 13 #[.int .u64 b, .int .i64 n] w fun e w' => e = .returned (.int .i64 0) ∧ w = w') :
    Calls Try.prog 38 #[.int .i64 8, .int .u64 a, .int .u64 b, .int .i64 n] w (Num2 w (t, 0)) := by
  obtain ⟨r, hr, hm, hc⟩ := hO
  have HM := Lib.hid (and_mask h64 hr)
  rw [hm] at HM
  have hg := fun W => pgreatest_any n W h1 h64
  generalize 2 ^ n - 1 = q at hg HM
  clear hr hm h1 h64
  have hix : ∀ W : World, (Instr.index 69 (.agg opsV) (.int .i64 8)).run Try.prog W = .ok (.func (.func 58) #[] #[]) W := fun _ => by kernel_rfl
  have tok1 : True := trivial
  go_enter Try.func38, Try.ntmps38
  go_wp2_with (first
    | (go_at_call 13; have _t := tok1; refine c1.mono ?_; clear c1 tok1; rintro e w1 ⟨rfl, rfl⟩; have tok2 : True := trivial)
    | (go_at_call 13; have _t := tok2; refine c2.mono ?_; clear c2; rintro e w1 ⟨rfl, rfl⟩)
    | (go_at_call 41; refine (pOr_second 0 _ _ (by simp [World.cell?_alloc_mark]) (by simp [World.cell?_alloc_mark])).mono ?_; rintro e w1 ⟨rfl, rfl⟩)
    | (go_at_call 46; refine (pops_any _).mono ?_; rintro e w2 ⟨rfl, hb2⟩)
    | (go_at_call 58; refine (hc _).mono ?_; clear hc; rintro e w3 ⟨rfl, rfl⟩)
    | (go_at_call 37; refine (hg _).mono ?_; clear hg; rintro e w4 ⟨rfl, rfl⟩))
  go_ret2
  exact ⟨by rw [HM.out]; rfl, ((Below.refl _ w).alloc (Nat.le_refl _) _).trans (hb2.mono (by simp))⟩
set_option maxHeartbeats 1000000 in
theorem papply_9 (a b n : Nat) (w : World) (t : Nat) (h1 : 1 ≤ n) (h64 : n ≤ 64) (hO : OpAt 59 n a b t)
    (c1 : Calls Try.prog 13 #[.int .u64 a, .int .i64 n] w fun e w' => e = .returned (.int .i64 0) ∧ w = w') (c2 : Calls Try.prog 13 #[.int .u64 b, .int .i64 n] w fun e w' => e = .returned (.int .i64 0) ∧ w = w') :
    Calls Try.prog 38 #[.int .i64 9, .int .u64 a, .int .u64 b, .int .i64 n] w (Num2 w (t, 0)) := by
  obtain ⟨r, hr, hm, hc⟩ := hO
  have HM := Lib.hid (and_mask h64 hr)
  rw [hm] at HM
  have hg := fun W => pgreatest_any n W h1 h64
  generalize 2 ^ n - 1 = q at hg HM
  clear hr hm h1 h64
  have hix : ∀ W : World, (Instr.index 69 (.agg opsV) (.int .i64 9)).run Try.prog W = .ok (.func (.func 59) #[] #[]) W := fun _ => by kernel_rfl
  have tok1 : True := trivial
  go_enter Try.func38, Try.ntmps38
  go_wp2_with (first
    | (go_at_call 13; have _t := tok1; refine c1.mono ?_; clear c1 tok1; rintro e w1 ⟨rfl, rfl⟩; have tok2 : True := trivial)
    | (go_at_call 13; have _t := tok2; refine c2.mono ?_; clear c2; rintro e w1 ⟨rfl, rfl⟩)
    | (go_at_call 41; refine (pOr_second 0 _ _ (by simp [World.cell?_alloc_mark]) (by simp [World.cell?_alloc_mark])).mono ?_; rintro e w1 ⟨rfl, rfl⟩)
    | (go_at_call 46; refine (pops_any _).mono ?_; rintro e w2 ⟨rfl, hb2⟩)
    | (go_at_call 59; refine (hc _).mono ?_; clear hc; rintro e w3 ⟨rfl, rfl⟩)
    | (go_at_call 37; refine (hg _).mono ?_; clear hg; rintro e w4 ⟨rfl, rfl⟩))
  go_ret2
  exact ⟨by rw [HM.out]; rfl, ((Below.refl _ w).alloc (Nat.le_refl _) _).trans (hb2.mono (by simp))⟩
set_option maxHeartbeats 1000000 in
theorem papply_10 (a b n : Nat) (w : World) (t : Nat) (h1 : 1 ≤ n) (h64 : n ≤ 64) (hO : OpAt 60 n a b t)
    (c1 : Calls Try.prog 13 #[.int .u64 a, .int .i64 n] w fun e w' => e = .returned (.int .i64 0) ∧ w = w') (c2 : Calls Try.prog 13 #[.int .u64 b, .int .i64 n] w fun e w' => e = .returned (.int .i64 0) ∧ w = w') :
    Calls Try.prog 38 #[.int .i64 10, .int .u64 a, .int .u64 b, .int .i64 n] w (Num2 w (t, 0)) := by
  obtain ⟨r, hr, hm, hc⟩ := hO
  have HM := Lib.hid (and_mask h64 hr)
  rw [hm] at HM
  have hg := fun W => pgreatest_any n W h1 h64
  generalize 2 ^ n - 1 = q at hg HM
  clear hr hm h1 h64
  have hix : ∀ W : World, (Instr.index 69 (.agg opsV) (.int .i64 10)).run Try.prog W = .ok (.func (.func 60) #[] #[]) W := fun _ => by kernel_rfl
  have tok1 : True := trivial
  go_enter Try.func38, Try.ntmps38
  go_wp2_with (first
    | (go_at_call 13; have _t := tok1; refine c1.mono ?_; clear c1 tok1; rintro e w1 ⟨rfl, rfl⟩; have tok2 : True := trivial)
    | (go_at_call 13; have _t := tok2; refine c2.mono ?_; clear c2; rintro e w1 ⟨rfl, rfl⟩)
    | (go_at_call 41; refine (pOr_second 0 _ _ (by simp [World.cell?_alloc_mark]) (by simp [World.cell?_alloc_mark])).mono ?_; rintro e w1 ⟨rfl, rfl⟩)
    | (go_at_call 46; refine (pops_any _).mono ?_; rintro e w2 ⟨rfl, hb2⟩)
    | (go_at_call 60; refine (hc _).mono ?_; clear hc; rintro e w3 ⟨rfl, rfl⟩)
    | (go_at_call 37; refine (hg _).mono ?_; clear hg; rintro e w4 ⟨rfl, rfl⟩))
  go_ret2
  exact ⟨by rw [HM.out]; rfl, ((Below.refl _ w).alloc (Nat.le_refl _) _).trans (hb2.mono (by simp))⟩
set_option maxHeartbeats 1000000 in
theorem papply_11 (a b n : Nat) (w : World) (t : Nat) (h1 : 1 ≤ n) (h64 : n ≤ 64) (hO : OpAt 61 n a b t)
    (c1 : Calls Try.prog 13 #[.int .u64 a, .int .i64 n] w fun e w' => e = .returned (.int .i64 0) ∧ w = w') (c2 : Calls Try.prog 13 #[.int .u64 b, .int .i64 n] w fun e w' => e = .returned (.int .i64 0) ∧ w = w') :
    Calls Try.prog 38 #[.int .i64 11, .int .u64 a, .int .u64 b, .int .i64 n] w (Num2 w (t, 0)) := by
  obtain ⟨r, hr, hm, hc⟩ := hO
  have HM := Lib.hid (and_mask h64 hr)
  rw [hm] at HM
  have hg := fun W => pgreatest_any n W h1 h64
  generalize 2 ^ n - 1 = q at hg HM
  clear hr hm h1 h64
  have hix : ∀ W : World, (Instr.index 69 (.agg opsV) (.int .i64 11)).run Try.prog W = .ok (.func (.func 61) #[] #[]) W := fun _ => by kernel_rfl
  have tok1 : True := trivial
  go_enter Try.func38, Try.ntmps38
  go_wp2_with (first
    | (go_at_call 13; have _t := tok1; refine c1.mono ?_; clear c1 tok1; rintro e w1 ⟨rfl, rfl⟩; have tok2 : True := trivial)
    | (go_at_call 13; have _t := tok2; refine c2.mono ?_; clear c2; rintro e w1 ⟨rfl, rfl⟩)
    | (go_at_call 41; refine (pOr_second 0 _ _ (by simp [World.cell?_alloc_mark]) (by simp [World.cell?_alloc_mark])).mono ?_; rintro e w1 ⟨rfl, rfl⟩)
    | (go_at_call 46; refine (pops_any _).mono ?_; rintro e w2 ⟨rfl, hb2⟩)
    | (go_at_call 61; refine (hc _).mono ?_; clear hc; rintro e w3 ⟨rfl, rfl⟩)
    | (go_at_call 37; refine (hg _).mono ?_; clear hg; rintro e w4 ⟨rfl, rfl⟩))
  go_ret2
  exact ⟨by rw [HM.out]; rfl, ((Below.refl _ w).alloc (Nat.le_refl _) _).trans (hb2.mono (by simp))⟩
set_option maxHeartbeats 1000000 in
theorem papply_12 (a b n : Nat) (w : World) (t : Nat) (h1 : 1 ≤ n) (h64 : n ≤ 64) (hO : OpAt 63 n a b t)
    (c1 : Calls Try.prog 13 #[.int .u64 a, .int .i64 n] w fun e w' => e = .returned (.int .i64 0) ∧ w = w') (c2 : Calls Try.prog 13 #[.int .u64 b, .int .i64 n] w fun e w' => e = .returned (.int .i64 0) ∧ w = w') :
    Calls Try.prog 38 #[.int .i64 12, .int .u64 a, .int .u64 b, .int .i64 n] w (Num2 w (t, 0)) := by
  obtain ⟨r, hr, hm, hc⟩ := hO
  have HM := Lib.hid (and_mask h64 hr)
  rw [hm] at HM
  have hg := fun W => pgreatest_any n W h1 h64
  generalize 2 ^ n - 1 = q at hg HM
  clear hr hm h1 h64
  have hix : ∀ W : World, (Instr.index 69 (.agg opsV) (.int .i64 12)).run Try.prog W = .ok (.func (.func 63) #[] #[]) W := fun _ => by kernel_rfl
  have tok1 : True := trivial
  go_enter Try.func38, Try.ntmps38
  go_wp2_with (first
    | (go_at_call 13; have _t := tok1; refine c1.mono ?_; clear c1 tok1; rintro e w1 ⟨rfl, rfl⟩; have tok2 : True := trivial)
    | (go_at_call 13; have _t := tok2; refine c2.mono ?_; clear c2; rintro e w1 ⟨rfl, rfl⟩)
    | (go_at_call 41; refine (pOr_second 0 _ _ (by simp [World.cell?_alloc_mark]) (by simp [World.cell?_alloc_mark])).mono ?_; rintro e w1 ⟨rfl, rfl⟩)
    | (go_at_call 46; refine (pops_any _).mono ?_; rintro e w2 ⟨rfl, hb2⟩)
    | (go_at_call 63; refine (hc _).mono ?_; clear hc; rintro e w3 ⟨rfl, rfl⟩)
    | (go_at_call 37; refine (hg _).mono ?_; clear hg; rintro e w4 ⟨rfl, rfl⟩))
  go_ret2
  exact ⟨by rw [HM.out]; rfl, ((Below.refl _ w).alloc (Nat.le_refl _) _).trans (hb2.mono (by simp))⟩
set_option maxHeartbeats 1000000 in
theorem papply_13 (a b n : Nat) (w : World) (t : Nat) (h1 : 1 ≤ n) (h64 : n ≤ 64) (hO : OpAt 64 n a b t)
    (c1 : Calls Try.prog 13 #[.int .u64 a, .int .i64 n] w fun e w' => e = .returned (.int .i64 0) ∧ w = w') (c2 : Calls Try.prog 13 #[.int .u64 b, .int .i64 n] w fun e w' => e = .returned (.int .i64 0) ∧ w = w') :
    Calls Try.prog 38 #[.int .i64 13, .int .u64 a, .int .u64 b, .int .i64 n] w (Num2 w (t, 0)) := by
  obtain ⟨r, hr, hm, hc⟩ := hO
  have HM := Lib.hid (and_mask h64 hr)
  rw [hm] at HM
  have hg := fun W => pgreatest_any n W h1 h64
  generalize 2 ^ n - 1 = q at hg HM
  clear hr hm h1 h64
  have hix : ∀ W : World, (Instr.index 69 (.agg opsV) (.int .i64 13)).run Try.prog W = .ok (.func (.func 64) #[] #[]) W := fun _ => by kernel_rfl
  have tok1 : True := trivial
  go_enter Try.func38, Try.ntmps38
  go_wp2_with (first
    | (go_at_call 13; have _t := tok1; refine c1.mono ?_; clear c1 tok1; rintro e w1 ⟨rfl, rfl⟩; have tok2 : True := trivial)
    | (go_at_call 13; have _t := tok2; refine c2.mono ?_; clear c2; rintro e w1 ⟨rfl, rfl⟩)
    | (go_at_call 41; refine (pOr_second 0 _ _ (by simp [World.cell?_alloc_mark]) (by simp [World.cell?_alloc_mark])).mono ?_; rintro e w1 ⟨rfl, rfl⟩)
    | (go_at_call 46; refine (pops_any _).mono ?_; rintro e w2 ⟨rfl, hb2⟩)
    | (go_at_call 64; refine (hc _).mono ?_; clear hc; rintro e w3 ⟨rfl, rfl⟩)
    | (go_at_call 37; refine (hg _).mono ?_; clear hg; rintro e w4 ⟨rfl, rfl⟩))
  go_ret2
  exact ⟨by rw [HM.out]; rfl, ((Below.refl _ w).alloc (Nat.le_refl _) _).trans (hb2.mono (by simp))⟩
set_option maxHeartbeats 1000000 in
theorem papply_14 (a b n : Nat) (w : World) (t : Nat) (h1 : 1 ≤ n) (h64 : n ≤ 64) (hO : OpAt 65 n a b t)
    (c1 : Calls Try.prog 13 #[.int .u64 a, .int .i64 n] w fun e w' => e = .returned (.int .i64 0) ∧ w = w') (c2 : Calls Try.prog 13 #[.int .u64 b, .int .i64 n] w fun e w' => e = .returned (.int .i64 0) ∧ w = w') :
    Calls Try.prog 38 #[.int .i64 14, .int .u64 a, .int .u64 b, .int .i64 n] w (Num2 w (t, 0)) := by
  obtain ⟨r, hr, hm, hc⟩ := hO
  have HM := Lib.hid (and_mask h64 hr)
  rw [hm] at HM
  have hg := fun W => pgreatest_any n W h1 h64
  generalize 2 ^ n - 1 = q at hg HM
  clear hr hm h1 h64
  have hix : ∀ W : World, (Instr.index 69 (.agg opsV) (.int .i64 14)).run Try.prog W = .ok (.func (.func 65) #[] #[]) W := fun _ => by kernel_rfl
  have tok1 : True := trivial
  go_enter Try.func38, Try.ntmps38
  go_wp2_with (first
    | (go_at_call 13; have _t := tok1; refine c1.mono ?_; clear c1 tok1; rintro e w1 ⟨rfl, rfl⟩; have tok2 : True := trivial)
    | (go_at_call 13; have _t := tok2; refine c2.mono ?_; clear c2; rintro e w1 ⟨rfl, rfl⟩)
    | (go_at_call 41; refine (pOr_second 0 _ _ (by simp [World.cell?_alloc_mark]) (by simp [World.cell?_alloc_mark])).mono ?_; rintro e w1 ⟨rfl, rfl⟩)
    | (go_at_call 46; refine (pops_any _).mono ?_; rintro e w2 ⟨rfl, hb2⟩)
    | (go_at_call 65; refine (hc _).mono ?_; clear hc; rintro e w3 ⟨rfl, rfl⟩)
    | (go_at_call 37; refine (hg _).mono ?_; clear hg; rintro e w4 ⟨rfl, rfl⟩))
  go_ret2
  exact ⟨by rw [HM.out]; rfl, ((Below.refl _ w).alloc (Nat.le_refl _) _).trans (hb2.mono (by simp))⟩
set_option maxHeartbeats 1000000 in
theorem papply_15 (a b n : Nat) (w : World) (t : Nat) (h1 : 1 ≤ n) (h64 : n ≤ 64) (hO : OpAt 66 n a b t)
    (c1 : Calls Try.prog 13 #[.int .u64 a, .int .i64 n] w fun e w' => e = .returned (.int .i64 0) ∧ w = w') (c2 : Calls Try.prog 13 #[.int .u64 b, .int .i64 n] w fun e w' => e = .returned (.int .i64 0) ∧ w = w') :
    Calls Try.prog 38 #[.int .i64 15, .int .u64 a, .int .u64 b, .int .i64 n] w (Num2 w (t, 0)) := by
  obtain ⟨r, hr, hm, hc⟩ := hO
  have HM := Lib.hid (and_mask h64 hr)
  rw [hm] at HM
  have hg := fun W => pgreatest_any n W h1 h64
  generalize 2 ^ n - 1 = q at hg HM
  clear hr hm h1 h64
  have hix : ∀ W : World, (Instr.index 69 (.agg opsV) (.int .i64 15)).run Try.prog W = .ok (.func (.func 66) #[] #[]) W := fun _ => by kernel_rfl
  have tok1 : True := trivial
  go_enter Try.func38, Try.ntmps38
  go_wp2_with (first
    | (go_at_call 13; have _t := tok1; refine c1.mono ?_; clear c1 tok1; rintro e w1 ⟨rfl, rfl⟩; have tok2 : True := trivial)
    | (go_at_call 13; have _t := tok2; refine c2.mono ?_; clear c2; rintro e w1 ⟨rfl, rfl⟩)
    | (go_at_call 41; refine (pOr_second 0 _ _ (by simp [World.cell?_alloc_mark]) (by simp [World.cell?_alloc_mark])).mono ?_; rintro e w1 ⟨rfl, rfl⟩)
    | (go_at_call 46; refine (pops_any _).mono ?_; rintro e w2 ⟨rfl, hb2⟩)
    | (go_at_call 66; refine (hc _).mono ?_; clear hc; rintro e w3 ⟨rfl, rfl⟩)
    | (go_at_call 37; refine (hg _).mono ?_; clear hg; rintro e w4 ⟨rfl, rfl⟩))
  go_ret2
  exact ⟨by rw [HM.out]; rfl, ((Below.refl _ w).alloc (Nat.le_refl _) _).trans (hb2.mono (by simp))⟩
set_option maxHeartbeats 1000000 in
theorem papply_16 (a b n : Nat) (w : World) (t : Nat) (h1 : 1 ≤ n) (h64 : n ≤ 64) (hO : OpAt 67 n a b t)
    (c1 : Calls Try.prog 13 #[.int .u64 a, .int .i64 n] w fun e w' => e = .returned (.int .i64 0) ∧ w = w') (c2 : Calls Try.prog 13 #[.int .u64 b, .int .i64 n] w fun e w' => e = .returned (.int .i64 0) ∧ w = w') :
    Calls Try.prog 38 #[.int .i64 16, .int .u64 a, .int .u64 b, .int .i64 n] w (Num2 w (t, 0)) := by
  obtain ⟨r, hr, hm, hc⟩ := hO
  have HM := Lib.hid (and_mask h64 hr)
  rw [hm] at HM
  have hg := fun W => pgreatest_any n W h1 h64
  generalize 2 ^ n - 1 = q at hg HM
  clear hr hm h1 h64
  have hix : ∀ W : World, (Instr.index 69 (.agg opsV) (.int .i64 16)).run Try.prog W = .ok (.func (.func 67) #[] #[]) W := fun _ => by kernel_rfl
  have tok1 : True := trivial
  go_enter Try.func38, Try.ntmps38
  go_wp2_with (first
    | (go_at_call 13; have _t := tok1; refine c1.mono ?_; clear c1 tok1; rintro e w1 ⟨rfl, rfl⟩; have tok2 : True := trivial)
    | (go_at_call 13; have _t := tok2; refine c2.mono ?_; clear c2; rintro e w1 ⟨rfl, rfl⟩)
    | (go_at_call 41; refine (pOr_second 0 _ _ (by simp [World.cell?_alloc_mark]) (by simp [World.cell?_alloc_mark])).mono ?_; rintro e w1 ⟨rfl, rfl⟩)
    | (go_at_call 46; refine (pops_any _).mono ?_; rintro e w2 ⟨rfl, hb2⟩)
    | (go_at_call 67; refine (hc _).mono ?_; clear hc; rintro e w3 ⟨rfl, rfl⟩)
    | (go_at_call 37; refine (hg _).mono ?_; clear hg; rintro e w4 ⟨rfl, rfl⟩))
  go_ret2
  exact ⟨by rw [HM.out]; rfl, ((Below.refl _ w).alloc (Nat.le_refl _) _).trans (hb2.mono (by simp))⟩
set_option maxHeartbeats 1000000 in
theorem papply_17 (a b n : Nat) (w : World) (t : Nat) (h1 : 1 ≤ n) (h64 : n ≤ 64) (hO : OpAt 69 n a b t)
    (c1 : Calls Try.prog 13 #[.int .u64 a, .int .i64 n] w fun e w' => e = .returned (.int .i64 0) ∧ w = w') (c2 : Calls Try.prog 13 #[.int .u64 b, .int .i64 n] w fun e w' => e = .returned (.int .i64 0) ∧ w = w') :
    Calls Try.prog 38 #[.int .i64 17, .int .u64 a, .int .u64 b, .int .i64 n] w (Num2 w (t, 0)) := by
  obtain ⟨r, hr, hm, hc⟩ := hO
  have HM := Lib.hid (and_mask h64 hr)
  rw [hm] at HM
  have hg := fun W => pgreatest_any n W h1 h64
  generalize 2 ^ n - 1 = q at hg HM
  clear hr hm h1 h64
  have hix : ∀ W : World, (Instr.index 69 (.agg opsV) (.int .i64 17)).run Try.prog W = .ok (.func (.func 69) #[] #[]) W := fun _ => by kernel_rfl
  have tok1 : True := trivial
  go_enter Try.func38, Try.ntmps38
  go_wp2_with (first
    | (go_at_call 13; have _t := tok1; refine c1.mono ?_; clear c1 tok1; rintro e w1 ⟨rfl, rfl⟩; have tok2 : True := trivial)
    | (go_at_call 13; have _t := tok2; refine c2.mono ?_; clear c2; rintro e w1 ⟨rfl, rfl⟩)
    | (go_at_call 41; refine (pOr_second 0 _ _ (by simp [World.cell?_alloc_mark]) (by simp [World.cell?_alloc_mark])).mono ?_; rintro e w1 ⟨rfl, rfl⟩)
    | (go_at_call 46; refine (pops_any _).mono ?_; rintro e w2 ⟨rfl, hb2⟩)
    | (go_at_call 69; refine (hc _).mono ?_; clear hc; rintro e w3 ⟨rfl, rfl⟩)
    | (go_at_call 37; refine (hg _).mono ?_; clear hg; rintro e w4 ⟨rfl, rfl⟩))
  go_ret2
  exact ⟨by rw [HM.out]; rfl, ((Below.refl _ w).alloc (Nat.le_refl _) _).trans (hb2.mono (by simp))⟩
set_option maxHeartbeats 1000000 in
theorem papply_18 (a b n : Nat) (w : World) (t : Nat) (h1 : 1 ≤ n) (h64 : n ≤ 64) (hO : OpAt 70 n a b t)
    (c1 : Calls Try.prog 13 #[.int .u64 a, .int .i64 n] w fun e w' => e = .returned (.int .i64 0) ∧ w = w') (c2 : Calls Try.prog 13 #[.int .u64 b, .int .i64 n] w fun e w' => e = .returned (.int .i64 0) ∧ w = w') :
    Calls Try.prog 38 #[.int .i64 18, .int .u64 a, .int .u64 b, .int .i64 n] w (Num2 w (t, 0)) := by
  obtain ⟨r, hr, hm, hc⟩ := hO
  have HM := Lib.hid (and_mask h64 hr)
  rw [hm] at HM
  have hg := fun W => pgreatest_any n W h1 h64
  generalize 2 ^ n - 1 = q at hg HM
  clear hr hm h1 h64
  have hix : ∀ W : World, (Instr.index 69 (.agg opsV) (.int .i64 18)).run Try.prog W = .ok (.func (.func 70) #[] #[]) W := fun _ => by kernel_rfl
  have tok1 : True := trivial
  go_enter Try.func38, Try.ntmps38
  go_wp2_with (first
    | (go_at_call 13; have _t := tok1; refine c1.mono ?_; clear c1 tok1; rintro e w1 ⟨rfl, rfl⟩; have tok2 : True := trivial)
    | (go_at_call 13; have _t := tok2; refine c2.mono ?_; clear c2; rintro e w1 ⟨rfl, rfl⟩)
    | (go_at_call 41; refine (pOr_second 0 _ _ (by simp [World.cell?_alloc_mark]) (by simp [World.cell?_alloc_mark])).mono ?_; rintro e w1 ⟨rfl, rfl⟩)
    | (go_at_call 46; refine (pops_any _).mono ?_; rintro e w2 ⟨rfl, hb2⟩)
    | (go_at_call 70; refine (hc _).mono ?_; clear hc; rintro e w3 ⟨rfl, rfl⟩)
    | (go_at_call 37; refine (hg _).mono ?_; clear hg; rintro e w4 ⟨rfl, rfl⟩))
  go_ret2
  exact ⟨by rw [HM.out]; rfl, ((Below.refl _ w).alloc (Nat.le_refl _) _).trans (hb2.mono (by simp))⟩
end Go.Proofs.Ytcpjchfgiogmeaa
