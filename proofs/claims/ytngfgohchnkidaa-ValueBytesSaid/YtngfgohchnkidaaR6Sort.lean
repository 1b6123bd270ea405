/-
  THE WALKS of the reference's within, ValidSort, fits and Array.
-/
import Derived.Test.YtngfgohchnkidaaVaEnts
namespace Go.Proofs.Ytngfgohchnkidaa
open Go.RowKit

theorem r6within_any (n a b : Int) (w : World) : Calls Try.prog 40 #[.int .i64 n, .int .i64 a, .int .i64 b] w fun e w' => e = .returned (.bool (decide (a ≤ n) && decide (n ≤ b))) ∧ w' = w := by
  by_cases h : a ≤ n
  · have hd : decide (a ≤ n) = true := decide_eq_true h
    go_enter Try.func40, Try.ntmps40
    go_wp2_with fail
    go_ret
    simp [hd]
  · have hd : decide (a ≤ n) = false := decide_eq_false h
    go_enter Try.func40, Try.ntmps40
    go_wp2_with fail
    go_ret
    simp

set_option maxHeartbeats 1000000 in
theorem r6ValidSort_any (k n ix : Int) (w : World) : Calls Try.prog 10 #[.agg #[.int .i64 k, .int .i64 n, .int .i64 ix]] w fun e w' => e = .returned (.int .i64 (sortE k n ix)) ∧ Below w.heap.size w w' := by
  have hW : ∀ a b c w, Calls Try.prog 40 #[.int .i64 a, .int .i64 b, .int .i64 c] w fun e w' => e = .returned (.bool (decide (b ≤ a ∧ a ≤ c))) ∧ w' = w := fun a b c w => by
    have := r6within_any a b c w
    rwa [and_dec] at this
  have hB := (Below.refl w.heap.size w).alloc (Nat.le_refl _) (.cells #[.int .i64 k, .int .i64 n, .int .i64 ix] 26)
  have hN1 := hW n 1 64
  have hN0 := hW n 0 64
  have hI := hW ix 1 16
  clear hW
  unfold sortE sortOk
  by_cases hk0 : k = 0
  · subst hk0
    clear hN0
    simp only [if_true]
    by_cases hp : 1 ≤ n ∧ n ≤ 64
    · have hpd : decide (1 ≤ n ∧ n ≤ 64) = true := decide_eq_true hp
      rw [hpd] at hN1 ⊢
      clear hp hpd
      clear hI
      by_cases hq : ix = 0
      · subst hq
        go_enter Try.func10, Try.ntmps10
        have g0 := heap_alloc_new w (.cells #[.int .i64 0, .int .i64 n, .int .i64 0] 26)
        obtain ⟨g0, g1, g2⟩ := three g0
        go_wp2_with (go_at_call 40; refine (hN1 _).mono ?_; clear hN1; rintro e w1 ⟨rfl, rfl⟩)
        go_ret
        exact ⟨rfl, hB⟩
      · have hqf : (ix == 0) = false := by simpa using hq
        rw [hqf]
        go_enter Try.func10, Try.ntmps10
        have g0 := heap_alloc_new w (.cells #[.int .i64 0, .int .i64 n, .int .i64 ix] 26)
        obtain ⟨g0, g1, g2⟩ := three g0
        go_wp2_with (go_at_call 40; refine (hN1 _).mono ?_; clear hN1; rintro e w1 ⟨rfl, rfl⟩)
        go_ret
        exact ⟨rfl, hB⟩
    · have hpd : decide (1 ≤ n ∧ n ≤ 64) = false := decide_eq_false hp
      rw [hpd] at hN1 ⊢
      clear hp hpd
      clear hI
      go_enter Try.func10, Try.ntmps10
      have g0 := heap_alloc_new w (.cells #[.int .i64 0, .int .i64 n, .int .i64 ix] 26)
      obtain ⟨g0, g1, g2⟩ := three g0
      go_wp2_with (go_at_call 40; refine (hN1 _).mono ?_; clear hN1; rintro e w1 ⟨rfl, rfl⟩)
      go_ret
      exact ⟨rfl, hB⟩
  · have hf0 : (k == 0) = false := by simpa using hk0
    rw [if_neg hk0]
    by_cases hk1 : k = 1
    · subst hk1
      clear hN1
      rw [if_pos rfl]
      by_cases hp : 0 ≤ n ∧ n ≤ 64
      · have hpd : decide (0 ≤ n ∧ n ≤ 64) = true := decide_eq_true hp
        rw [hpd] at hN0 ⊢
        clear hp hpd
        clear hI
        by_cases hq : ix = 0
        · subst hq
          go_enter Try.func10, Try.ntmps10
          have g0 := heap_alloc_new w (.cells #[.int .i64 1, .int .i64 n, .int .i64 0] 26)
          obtain ⟨g0, g1, g2⟩ := three g0
          go_wp2_with (go_at_call 40; refine (hN0 _).mono ?_; clear hN0; rintro e w1 ⟨rfl, rfl⟩)
          go_ret
          exact ⟨rfl, hB⟩
        · have hqf : (ix == 0) = false := by simpa using hq
          rw [hqf]
          go_enter Try.func10, Try.ntmps10
          have g0 := heap_alloc_new w (.cells #[.int .i64 1, .int .i64 n, .int .i64 ix] 26)
          obtain ⟨g0, g1, g2⟩ := three g0
          go_wp2_with (go_at_call 40; refine (hN0 _).mono ?_; clear hN0; rintro e w1 ⟨rfl, rfl⟩)
          go_ret
          exact ⟨rfl, hB⟩
      · have hpd : decide (0 ≤ n ∧ n ≤ 64) = false := decide_eq_false hp
        rw [hpd] at hN0 ⊢
        clear hp hpd
        clear hI
        go_enter Try.func10, Try.ntmps10
        have g0 := heap_alloc_new w (.cells #[.int .i64 1, .int .i64 n, .int .i64 ix] 26)
        obtain ⟨g0, g1, g2⟩ := three g0
        go_wp2_with (go_at_call 40; refine (hN0 _).mono ?_; clear hN0; rintro e w1 ⟨rfl, rfl⟩)
        go_ret
        exact ⟨rfl, hB⟩
    · have hf1 : (k == 1) = false := by simpa using hk1
      rw [if_neg hk1]
      by_cases hk2 : k = 2
      · subst hk2
        clear hN0
        rw [if_pos rfl]
        by_cases hp : 1 ≤ n ∧ n ≤ 64
        · have hpd : decide (1 ≤ n ∧ n ≤ 64) = true := decide_eq_true hp
          rw [hpd] at hN1 ⊢
          clear hp hpd
          by_cases hq : 1 ≤ ix ∧ ix ≤ 16
          · have hqd : decide (1 ≤ ix ∧ ix ≤ 16) = true := decide_eq_true hq
            rw [hqd] at hI ⊢
            clear hq hqd
            go_enter Try.func10, Try.ntmps10
            have g0 := heap_alloc_new w (.cells #[.int .i64 2, .int .i64 n, .int .i64 ix] 26)
            obtain ⟨g0, g1, g2⟩ := three g0
            go_wp2_with (first | (go_at_call 40; refine (hN1 _).mono ?_; clear hN1; rintro e w1 ⟨rfl, rfl⟩) | (go_at_call 40; refine (hI _).mono ?_; rintro e w2 ⟨rfl, rfl⟩))
            go_ret
            exact ⟨rfl, hB⟩
          · have hqd : decide (1 ≤ ix ∧ ix ≤ 16) = false := decide_eq_false hq
            rw [hqd] at hI ⊢
            clear hq hqd
            go_enter Try.func10, Try.ntmps10
            have g0 := heap_alloc_new w (.cells #[.int .i64 2, .int .i64 n, .int .i64 ix] 26)
            obtain ⟨g0, g1, g2⟩ := three g0
            go_wp2_with (first | (go_at_call 40; refine (hN1 _).mono ?_; clear hN1; rintro e w1 ⟨rfl, rfl⟩) | (go_at_call 40; refine (hI _).mono ?_; rintro e w2 ⟨rfl, rfl⟩))
            go_ret
            exact ⟨rfl, hB⟩
        · have hpd : decide (1 ≤ n ∧ n ≤ 64) = false := decide_eq_false hp
          rw [hpd] at hN1 ⊢
          clear hp hpd
          clear hI
          go_enter Try.func10, Try.ntmps10
          have g0 := heap_alloc_new w (.cells #[.int .i64 2, .int .i64 n, .int .i64 ix] 26)
          obtain ⟨g0, g1, g2⟩ := three g0
          go_wp2_with (go_at_call 40; refine (hN1 _).mono ?_; clear hN1; rintro e w1 ⟨rfl, rfl⟩)
          go_ret
          exact ⟨rfl, hB⟩
      · have hf2 : (k == 2) = false := by simpa using hk2
        rw [if_neg hk2]
        by_cases hk3 : k = 3
        · subst hk3
          clear hN1
          rw [if_pos rfl]
          by_cases hp : 0 ≤ n ∧ n ≤ 64
          · have hpd : decide (0 ≤ n ∧ n ≤ 64) = true := decide_eq_true hp
            rw [hpd] at hN0 ⊢
            clear hp hpd
            by_cases hq : 1 ≤ ix ∧ ix ≤ 16
            · have hqd : decide (1 ≤ ix ∧ ix ≤ 16) = true := decide_eq_true hq
              rw [hqd] at hI ⊢
              clear hq hqd
              go_enter Try.func10, Try.ntmps10
              have g0 := heap_alloc_new w (.cells #[.int .i64 3, .int .i64 n, .int .i64 ix] 26)
              obtain ⟨g0, g1, g2⟩ := three g0
              go_wp2_with (first | (go_at_call 40; refine (hN0 _).mono ?_; clear hN0; rintro e w1 ⟨rfl, rfl⟩) | (go_at_call 40; refine (hI _).mono ?_; rintro e w2 ⟨rfl, rfl⟩))
              go_ret
              exact ⟨rfl, hB⟩
            · have hqd : decide (1 ≤ ix ∧ ix ≤ 16) = false := decide_eq_false hq
              rw [hqd] at hI ⊢
              clear hq hqd
              go_enter Try.func10, Try.ntmps10
              have g0 := heap_alloc_new w (.cells #[.int .i64 3, .int .i64 n, .int .i64 ix] 26)
              obtain ⟨g0, g1, g2⟩ := three g0
              go_wp2_with (first | (go_at_call 40; refine (hN0 _).mono ?_; clear hN0; rintro e w1 ⟨rfl, rfl⟩) | (go_at_call 40; refine (hI _).mono ?_; rintro e w2 ⟨rfl, rfl⟩))
              go_ret
              exact ⟨rfl, hB⟩
          · have hpd : decide (0 ≤ n ∧ n ≤ 64) = false := decide_eq_false hp
            rw [hpd] at hN0 ⊢
            clear hp hpd
            clear hI
            go_enter Try.func10, Try.ntmps10
            have g0 := heap_alloc_new w (.cells #[.int .i64 3, .int .i64 n, .int .i64 ix] 26)
            obtain ⟨g0, g1, g2⟩ := three g0
            go_wp2_with (go_at_call 40; refine (hN0 _).mono ?_; clear hN0; rintro e w1 ⟨rfl, rfl⟩)
            go_ret
            exact ⟨rfl, hB⟩
        · have hf3 : (k == 3) = false := by simpa using hk3
          rw [if_neg hk3]
          clear hN1 hN0 hI
          go_enter Try.func10, Try.ntmps10
          have g0 := heap_alloc_new w (.cells #[.int .i64 k, .int .i64 n, .int .i64 ix] 26)
          obtain ⟨g0, g1, g2⟩ := three g0
          go_wp2_with fail
          go_ret
          exact ⟨rfl, hB⟩

/-- a number has at most some bits -/
def fitB (u n : Int) : Bool := decide (63 < n) || decide (u < 2 ^ n.toNat)
theorem fits_raw (n : Int) (h : 0 ≤ n ∧ n ≤ 63) : IntKind.u64.wrap (2 ^ n.toNat) = 2 ^ n.toNat := by
  obtain ⟨m, hm⟩ : ∃ m : Nat, m = n.toNat := ⟨_, rfl⟩
  rw [← hm]
  have wr : ∀ z : Int, IntKind.u64.wrap z = z % 18446744073709551616 := fun z => by simp [IntKind.wrap, IntKind.bits, IntKind.signed]
  have h1 : (1 : Int) ≤ 2 ^ m := by exact_mod_cast Nat.one_le_two_pow
  have h2 : (2 : Int) ^ m ≤ 2 ^ 63 := by exact_mod_cast Nat.pow_le_pow_right (by decide) (by omega)
  rw [wr, Int.emod_eq_of_lt (by omega) (by omega)]
theorem fits_gr (u n : Int) (hu : U64 u) (h : 0 ≤ n ∧ n ≤ 64) : fitB u n = decide (u ≤ grI n) := by
  unfold fitB grI
  by_cases h64 : 63 < n
  · obtain rfl : n = 64 := by omega
    rw [decide_eq_true h64, Bool.true_or]
    exact (decide_eq_true (by have := hu.2; show u ≤ 18446744073709551615; omega)).symm
  · rw [decide_eq_false h64, Bool.false_or]
    rw [decide_eq_decide]
    omega
theorem r6fits_any (u n : Int) (w : World) (h : 0 ≤ n ∧ n ≤ 64) : Calls Try.prog 44 #[.int .u64 u, .int .i64 n] w fun e w' => e = .returned (.bool (fitB u n)) ∧ w' = w := by
  obtain ⟨R, hR⟩ : ∃ R, R = fitB u n := ⟨_, rfl⟩
  rw [← hR]
  have HR := Lib.hid hR
  clear hR
  by_cases h64 : 63 < n
  · have hd : decide (63 < n) = true := decide_eq_true h64
    have hRt := Lib.hid (show R = true from by rw [HR.out]; unfold fitB; rw [hd]; rfl)
    clear HR
    go_enter Try.func44, Try.ntmps44
    go_wp2_with fail
    go_ret
    exact ⟨congrArg (fun b => Ending.returned (.bool b)) hRt.out.symm, rfl⟩
  · have hd : decide (63 < n) = false := decide_eq_false h64
    have hw : IntKind.u64.wrap n = n := by
      have wr : ∀ z : Int, IntKind.u64.wrap z = z % 18446744073709551616 := fun z => by simp [IntKind.wrap, IntKind.bits, IntKind.signed]
      rw [wr, Int.emod_eq_of_lt (by omega) (by omega)]
    have hf := fits_raw n (by omega)
    by_cases hlt : u < 2 ^ n.toNat
    · have hld : decide (u < 2 ^ n.toNat) = true := decide_eq_true hlt
      have hRt := Lib.hid (show R = true from by rw [HR.out]; unfold fitB; rw [hd, hld]; rfl)
      clear HR hlt
      go_enter Try.func44, Try.ntmps44
      go_wp2_with fail
      go_ret
      exact ⟨congrArg (fun b => Ending.returned (.bool b)) hRt.out.symm, rfl⟩
    · have hld : decide (u < 2 ^ n.toNat) = false := decide_eq_false hlt
      have hRt := Lib.hid (show R = false from by rw [HR.out]; unfold fitB; rw [hd, hld]; rfl)
      clear HR hlt
      go_enter Try.func44, Try.ntmps44
      go_wp2_with fail
      go_ret
      exact ⟨congrArg (fun b => Ending.returned (.bool b)) hRt.out.symm, rfl⟩
theorem r6Array_any (k n ix : Int) (w : World) : Calls Try.prog 45 #[.agg #[.int .i64 k, .int .i64 n, .int .i64 ix]] w fun e w' => e = .returned (.bool (k == 2 || k == 3)) ∧ Below w.heap.size w w' := by
  have hB := (Below.refl w.heap.size w).alloc (Nat.le_refl _) (.cells #[.int .i64 k, .int .i64 n, .int .i64 ix] 26)
  have g0 := heap_alloc_new w (.cells #[.int .i64 k, .int .i64 n, .int .i64 ix] 26)
  obtain ⟨g0, g1, g2⟩ := three g0
  by_cases h2 : k = 2
  · subst h2
    go_enter Try.func45, Try.ntmps45
    go_wp2_with fail
    go_ret
    exact ⟨rfl, hB⟩
  · have hf : (k == 2) = false := by simpa using h2
    by_cases h3 : k = 3
    · subst h3
      go_enter Try.func45, Try.ntmps45
      go_wp2_with fail
      go_ret
      exact ⟨rfl, hB⟩
    · have hf3 : (k == 3) = false := by simpa using h3
      rw [show (k == 2 || k == 3) = false by rw [hf, hf3]; rfl]
      go_enter Try.func45, Try.ntmps45
      go_wp2_with fail
      go_ret
      exact ⟨rfl, hB⟩
end Go.Proofs.Ytngfgohchnkidaa
