/-
  THE WALKS of the program's within, ValidSort, greatest, isEmpty, element and Zero.
-/
import Derived.Test.YtngfgohchnkidaaVaW
namespace Go.Proofs.Ytngfgohchnkidaa
open Go.RowKit

theorem vwithin_any (n a b : Int) (w : World) : Calls Try.prog 41 #[.int .i64 n, .int .i64 a, .int .i64 b] w fun e w' => e = .returned (.bool (decide (a ≤ n) && decide (n ≤ b))) ∧ w' = w := by
  by_cases h : a ≤ n
  · have hd : decide (a ≤ n) = true := decide_eq_true h
    go_enter Try.func41, Try.ntmps41
    go_wp2_with fail
    go_ret
    simp [hd]
  · have hd : decide (a ≤ n) = false := decide_eq_false h
    go_enter Try.func41, Try.ntmps41
    go_wp2_with fail
    go_ret
    simp

/-- what is said of a sort: 0, or 9 -/
def sortOk (k n ix : Int) : Bool :=
  if k = 0 then decide (1 ≤ n ∧ n ≤ 64) && ix == 0 else if k = 1 then decide (0 ≤ n ∧ n ≤ 64) && ix == 0
  else if k = 2 then decide (1 ≤ n ∧ n ≤ 64) && decide (1 ≤ ix ∧ ix ≤ 16) else if k = 3 then decide (0 ≤ n ∧ n ≤ 64) && decide (1 ≤ ix ∧ ix ≤ 16) else false
def sortE (k n ix : Int) : Int := if sortOk k n ix then 0 else 9
theorem and_dec (p q : Prop) [Decidable p] [Decidable q] : (decide p && decide q) = decide (p ∧ q) := by simp

set_option maxHeartbeats 1000000 in
theorem vValidSort_any (k n ix : Int) (w : World) : Calls Try.prog 12 #[.agg #[.int .i64 k, .int .i64 n, .int .i64 ix]] w fun e w' => e = .returned (.int .i64 (sortE k n ix)) ∧ Below w.heap.size w w' := by
  have hW : ∀ a b c w, Calls Try.prog 41 #[.int .i64 a, .int .i64 b, .int .i64 c] w fun e w' => e = .returned (.bool (decide (b ≤ a ∧ a ≤ c))) ∧ w' = w := fun a b c w => by
    have := vwithin_any a b c w
    rwa [and_dec] at this
  have hB := (Below.refl w.heap.size w).alloc (Nat.le_refl _) (.cells #[.int .i64 k, .int .i64 n, .int .i64 ix] 26)
  have hN1 := hW n 1 64
  have hN0 := hW n 0 64
  have hI := hW ix 1 16
  clear hW
  unfold sortE sortOk
  by_cases hk0 : k = 0
  · subst hk0
    clear hN0
    simp only [if_true]
    by_cases hp : 1 ≤ n ∧ n ≤ 64
    · have hpd : decide (1 ≤ n ∧ n ≤ 64) = true := decide_eq_true hp
      rw [hpd] at hN1 ⊢
      clear hp hpd
      clear hI
      by_cases hq : ix = 0
      · subst hq
        go_enter Try.func12, Try.ntmps12
        have g0 := heap_alloc_new w (.cells #[.int .i64 0, .int .i64 n, .int .i64 0] 26)
        obtain ⟨g0, g1, g2⟩ := three g0
        go_wp2_with (go_at_call 41; refine (hN1 _).mono ?_; clear hN1; rintro e w1 ⟨rfl, rfl⟩)
        go_ret
        exact ⟨rfl, hB⟩
      · have hqf : (ix == 0) = false := by simpa using hq
        rw [hqf]
        go_enter Try.func12, Try.ntmps12
        have g0 := heap_alloc_new w (.cells #[.int .i64 0, .int .i64 n, .int .i64 ix] 26)
        obtain ⟨g0, g1, g2⟩ := three g0
        go_wp2_with (go_at_call 41; refine (hN1 _).mono ?_; clear hN1; rintro e w1 ⟨rfl, rfl⟩)
        go_ret
        exact ⟨rfl, hB⟩
    · have hpd : decide (1 ≤ n ∧ n ≤ 64) = false := decide_eq_false hp
      rw [hpd] at hN1 ⊢
      clear hp hpd
      clear hI
      go_enter Try.func12, Try.ntmps12
      have g0 := heap_alloc_new w (.cells #[.int .i64 0, .int .i64 n, .int .i64 ix] 26)
      obtain ⟨g0, g1, g2⟩ := three g0
      go_wp2_with (go_at_call 41; refine (hN1 _).mono ?_; clear hN1; rintro e w1 ⟨rfl, rfl⟩)
      go_ret
      exact ⟨rfl, hB⟩
  · have hf0 : (k == 0) = false := by simpa using hk0
    rw [if_neg hk0]
    by_cases hk1 : k = 1
    · subst hk1
      clear hN1
      rw [if_pos rfl]
      by_cases hp : 0 ≤ n ∧ n ≤ 64
      · have hpd : decide (0 ≤ n ∧ n ≤ 64) = true := decide_eq_true hp
        rw [hpd] at hN0 ⊢
        clear hp hpd
        clear hI
        by_cases hq : ix = 0
        · subst hq
          go_enter Try.func12, Try.ntmps12
          have g0 := heap_alloc_new w (.cells #[.int .i64 1, .int .i64 n, .int .i64 0] 26)
          obtain ⟨g0, g1, g2⟩ := three g0
          go_wp2_with (go_at_call 41; refine (hN0 _).mono ?_; clear hN0; rintro e w1 ⟨rfl, rfl⟩)
          go_ret
          exact ⟨rfl, hB⟩
        · have hqf : (ix == 0) = false := by simpa using hq
          rw [hqf]
          go_enter Try.func12, Try.ntmps12
          have g0 := heap_alloc_new w (.cells #[.int .i64 1, .int .i64 n, .int .i64 ix] 26)
          obtain ⟨g0, g1, g2⟩ := three g0
          go_wp2_with (go_at_call 41; refine (hN0 _).mono ?_; clear hN0; rintro e w1 ⟨rfl, rfl⟩)
          go_ret
          exact ⟨rfl, hB⟩
      · have hpd : decide (0 ≤ n ∧ n ≤ 64) = false := decide_eq_false hp
        rw [hpd] at hN0 ⊢
        clear hp hpd
        clear hI
        go_enter Try.func12, Try.ntmps12
        have g0 := heap_alloc_new w (.cells #[.int .i64 1, .int .i64 n, .int .i64 ix] 26)
        obtain ⟨g0, g1, g2⟩ := three g0
        go_wp2_with (go_at_call 41; refine (hN0 _).mono ?_; clear hN0; rintro e w1 ⟨rfl, rfl⟩)
        go_ret
        exact ⟨rfl, hB⟩
    · have hf1 : (k == 1) = false := by simpa using hk1
      rw [if_neg hk1]
      by_cases hk2 : k = 2
      · subst hk2
        clear hN0
        rw [if_pos rfl]
        by_cases hp : 1 ≤ n ∧ n ≤ 64
        · have hpd : decide (1 ≤ n ∧ n ≤ 64) = true := decide_eq_true hp
          rw [hpd] at hN1 ⊢
          clear hp hpd
          by_cases hq : 1 ≤ ix ∧ ix ≤ 16
          · have hqd : decide (1 ≤ ix ∧ ix ≤ 16) = true := decide_eq_true hq
            rw [hqd] at hI ⊢
            clear hq hqd
            go_enter Try.func12, Try.ntmps12
            have g0 := heap_alloc_new w (.cells #[.int .i64 2, .int .i64 n, .int .i64 ix] 26)
            obtain ⟨g0, g1, g2⟩ := three g0
            go_wp2_with (first | (go_at_call 41; refine (hN1 _).mono ?_; clear hN1; rintro e w1 ⟨rfl, rfl⟩) | (go_at_call 41; refine (hI _).mono ?_; rintro e w2 ⟨rfl, rfl⟩))
            go_ret
            exact ⟨rfl, hB⟩
          · have hqd : decide (1 ≤ ix ∧ ix ≤ 16) = false := decide_eq_false hq
            rw [hqd] at hI ⊢
            clear hq hqd
            go_enter Try.func12, Try.ntmps12
            have g0 := heap_alloc_new w (.cells #[.int .i64 2, .int .i64 n, .int .i64 ix] 26)
            obtain ⟨g0, g1, g2⟩ := three g0
            go_wp2_with (first | (go_at_call 41; refine (hN1 _).mono ?_; clear hN1; rintro e w1 ⟨rfl, rfl⟩) | (go_at_call 41; refine (hI _).mono ?_; rintro e w2 ⟨rfl, rfl⟩))
            go_ret
            exact ⟨rfl, hB⟩
        · have hpd : decide (1 ≤ n ∧ n ≤ 64) = false := decide_eq_false hp
          rw [hpd] at hN1 ⊢
          clear hp hpd
          clear hI
          go_enter Try.func12, Try.ntmps12
          have g0 := heap_alloc_new w (.cells #[.int .i64 2, .int .i64 n, .int .i64 ix] 26)
          obtain ⟨g0, g1, g2⟩ := three g0
          go_wp2_with (go_at_call 41; refine (hN1 _).mono ?_; clear hN1; rintro e w1 ⟨rfl, rfl⟩)
          go_ret
          exact ⟨rfl, hB⟩
      · have hf2 : (k == 2) = false := by simpa using hk2
        rw [if_neg hk2]
        by_cases hk3 : k = 3
        · subst hk3
          clear hN1
          rw [if_pos rfl]
          by_cases hp : 0 ≤ n ∧ n ≤ 64
          · have hpd : decide (0 ≤ n ∧ n ≤ 64) = true := decide_eq_true hp
            rw [hpd] at hN0 ⊢
            clear hp hpd
            by_cases hq : 1 ≤ ix ∧ ix ≤ 16
            · have hqd : decide (1 ≤ ix ∧ ix ≤ 16) = true := decide_eq_true hq
              rw [hqd] at hI ⊢
              clear hq hqd
              go_enter Try.func12, Try.ntmps12
              have g0 := heap_alloc_new w (.cells #[.int .i64 3, .int .i64 n, .int .i64 ix] 26)
              obtain ⟨g0, g1, g2⟩ := three g0
              go_wp2_with (first | (go_at_call 41; refine (hN0 _).mono ?_; clear hN0; rintro e w1 ⟨rfl, rfl⟩) | (go_at_call 41; refine (hI _).mono ?_; rintro e w2 ⟨rfl, rfl⟩))
              go_ret
              exact ⟨rfl, hB⟩
            · have hqd : decide (1 ≤ ix ∧ ix ≤ 16) = false := decide_eq_false hq
              rw [hqd] at hI ⊢
              clear hq hqd
              go_enter Try.func12, Try.ntmps12
              have g0 := heap_alloc_new w (.cells #[.int .i64 3, .int .i64 n, .int .i64 ix] 26)
              obtain ⟨g0, g1, g2⟩ := three g0
              go_wp2_with (first | (go_at_call 41; refine (hN0 _).mono ?_; clear hN0; rintro e w1 ⟨rfl, rfl⟩) | (go_at_call 41; refine (hI _).mono ?_; rintro e w2 ⟨rfl, rfl⟩))
              go_ret
              exact ⟨rfl, hB⟩
          · have hpd : decide (0 ≤ n ∧ n ≤ 64) = false := decide_eq_false hp
            rw [hpd] at hN0 ⊢
            clear hp hpd
            clear hI
            go_enter Try.func12, Try.ntmps12
            have g0 := heap_alloc_new w (.cells #[.int .i64 3, .int .i64 n, .int .i64 ix] 26)
            obtain ⟨g0, g1, g2⟩ := three g0
            go_wp2_with (go_at_call 41; refine (hN0 _).mono ?_; clear hN0; rintro e w1 ⟨rfl, rfl⟩)
            go_ret
            exact ⟨rfl, hB⟩
        · have hf3 : (k == 3) = false := by simpa using hk3
          rw [if_neg hk3]
          clear hN1 hN0 hI
          go_enter Try.func12, Try.ntmps12
          have g0 := heap_alloc_new w (.cells #[.int .i64 k, .int .i64 n, .int .i64 ix] 26)
          obtain ⟨g0, g1, g2⟩ := three g0
          go_wp2_with fail
          go_ret
          exact ⟨rfl, hB⟩
end Go.Proofs.Ytngfgohchnkidaa
