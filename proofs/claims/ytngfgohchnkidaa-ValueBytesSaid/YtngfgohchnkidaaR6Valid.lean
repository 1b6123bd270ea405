/-
  THE WALK of the reference's Valid: a number, a text, a sort that is none.
-/
import Derived.Test.YtngfgohchnkidaaR6Sort
namespace Go.Proofs.Ytngfgohchnkidaa
open Go.RowKit

set_option maxHeartbeats 1000000 in
set_option maxRecDepth 100000 in
theorem r6Valid0_any (n ix u : Int) (s : ByteArray) (A : Option Addr) (len c : Nat) (w : World) (hu : U64 u) (hok : sortOk 0 n ix = true) : Calls Try.prog 15 #[vav 0 n ix u s A len c] w fun e w' => e = .returned (.int .i64 (if bvOk n u s.size len then 0 else 1)) ∧ Below w.heap.size w w' := by
  have hb0 : ∀ o, Below w.heap.size w (w.alloc o) := fun o => (Below.refl _ _).alloc (Nat.le_refl _) o
  have hV := fun W => r6ValidSort_any 0 n ix W
  have hA := fun W => r6Array_any 0 n ix W
  have hn : 0 ≤ n ∧ n ≤ 64 := by unfold sortOk at hok; simp at hok; omega
  have hF := fun W => r6fits_any u n W hn
  rw [fits_gr u n hu hn] at hF
  unfold sortE at hV
  rw [hok] at hV
  simp only [if_true] at hV
  unfold vav
  clear hok
  obtain ⟨K, hK⟩ : ∃ K : Int, K = if bvOk n u s.size len then 0 else 1 := ⟨_, rfl⟩
  rw [← hK]
  have HK := Lib.hid hK
  clear hK
  by_cases hp : u ≤ grI n
  · have hpd : decide (u ≤ grI n) = true := decide_eq_true hp
    rw [hpd] at hF
    by_cases hs : s.size = 0
    · have hsz : decide ((0 : Int) < (s.size : Int)) = false := decide_eq_false (by omega)
      have hsy : decide (0 < s.size) = false := decide_eq_false (by omega)
      by_cases hm : len = 0
      · have hmz : decide ((0 : Int) < (len : Int)) = false := decide_eq_false (by omega)
        have hmy : decide (0 < len) = false := decide_eq_false (by omega)
        have hr := Lib.hid (show bvOk n u s.size len = true from by unfold bvOk; rw [hpd, hs, hm]; rfl)
        clear hp hs hm hpd hn hu
        go_enter Try.func15, Try.ntmps15
        go_wp2_with (first | (go_at_call 10; refine (hV _).mono ?_; clear hV; rintro e w1 ⟨rfl, hw1⟩; have hs1 := hw1.size; simp at hs1; have hB1 := (hb0 (.cells #[.int .i64 0, .int .i64 n, .int .i64 ix, .int .u64 u, .string s, .slice A len c] 30)).trans (hw1.mono (by simp)); have hn0 := (hw1.block w.heap.size (by simp)).trans (heap_alloc_new w (.cells #[.int .i64 0, .int .i64 n, .int .i64 ix, .int .u64 u, .string s, .slice A len c] 30)); have hn1 := (heap_alloc_old w1 (.cells #[.int .i64 0, .int .i64 n, .int .i64 ix] 26) w.heap.size (by omega)).trans hn0; obtain ⟨p0, p1, p2, p3, p4, p5⟩ := six hn0; obtain ⟨q0, q1, q2, q3, q4, q5⟩ := six hn1; obtain ⟨r0, r1, r2⟩ := three (heap_alloc_new w1 (.cells #[.int .i64 0, .int .i64 n, .int .i64 ix] 26)); have hB2 := hB1.alloc (by omega) (.cells #[.int .i64 0, .int .i64 n, .int .i64 ix] 26); clear hn0 hn1) | (go_at_call 44; refine (hF _).mono ?_; clear hF; rintro e w2 ⟨rfl, rfl⟩) | (go_at_call 45; refine (hA _).mono ?_; clear hA; rintro e w3 ⟨rfl, hw3⟩; have hB3 := hB2.trans (hw3.mono (by simp; omega))))
        go_ret
        exact ⟨by rw [HK.out, hr.out]; rfl, by first | exact hB3 | exact hB2 | exact hB1⟩
      · have hmz : decide ((0 : Int) < (len : Int)) = true := decide_eq_true (by omega)
        have hmy : decide (0 < len) = true := decide_eq_true (by omega)
        have hr := Lib.hid (show bvOk n u s.size len = false from by unfold bvOk; rw [hpd, hs, show (len == 0) = false by simpa using hm]; rfl)
        clear hp hs hm hpd hn hu
        go_enter Try.func15, Try.ntmps15
        go_wp2_with (first | (go_at_call 10; refine (hV _).mono ?_; clear hV; rintro e w1 ⟨rfl, hw1⟩; have hs1 := hw1.size; simp at hs1; have hB1 := (hb0 (.cells #[.int .i64 0, .int .i64 n, .int .i64 ix, .int .u64 u, .string s, .slice A len c] 30)).trans (hw1.mono (by simp)); have hn0 := (hw1.block w.heap.size (by simp)).trans (heap_alloc_new w (.cells #[.int .i64 0, .int .i64 n, .int .i64 ix, .int .u64 u, .string s, .slice A len c] 30)); have hn1 := (heap_alloc_old w1 (.cells #[.int .i64 0, .int .i64 n, .int .i64 ix] 26) w.heap.size (by omega)).trans hn0; obtain ⟨p0, p1, p2, p3, p4, p5⟩ := six hn0; obtain ⟨q0, q1, q2, q3, q4, q5⟩ := six hn1; obtain ⟨r0, r1, r2⟩ := three (heap_alloc_new w1 (.cells #[.int .i64 0, .int .i64 n, .int .i64 ix] 26)); have hB2 := hB1.alloc (by omega) (.cells #[.int .i64 0, .int .i64 n, .int .i64 ix] 26); clear hn0 hn1) | (go_at_call 44; refine (hF _).mono ?_; clear hF; rintro e w2 ⟨rfl, rfl⟩) | (go_at_call 45; refine (hA _).mono ?_; clear hA; rintro e w3 ⟨rfl, hw3⟩; have hB3 := hB2.trans (hw3.mono (by simp; omega))))
        go_ret
        exact ⟨by rw [HK.out, hr.out]; rfl, by first | exact hB3 | exact hB2 | exact hB1⟩
    · have hsz : decide ((0 : Int) < (s.size : Int)) = true := decide_eq_true (by omega)
      have hsy : decide (0 < s.size) = true := decide_eq_true (by omega)
      have hr := Lib.hid (show bvOk n u s.size len = false from by unfold bvOk; rw [hpd, show (s.size == 0) = false by simpa using hs]; rfl)
      clear hp hs hpd hn hu
      go_enter Try.func15, Try.ntmps15
      go_wp2_with (first | (go_at_call 10; refine (hV _).mono ?_; clear hV; rintro e w1 ⟨rfl, hw1⟩; have hs1 := hw1.size; simp at hs1; have hB1 := (hb0 (.cells #[.int .i64 0, .int .i64 n, .int .i64 ix, .int .u64 u, .string s, .slice A len c] 30)).trans (hw1.mono (by simp)); have hn0 := (hw1.block w.heap.size (by simp)).trans (heap_alloc_new w (.cells #[.int .i64 0, .int .i64 n, .int .i64 ix, .int .u64 u, .string s, .slice A len c] 30)); have hn1 := (heap_alloc_old w1 (.cells #[.int .i64 0, .int .i64 n, .int .i64 ix] 26) w.heap.size (by omega)).trans hn0; obtain ⟨p0, p1, p2, p3, p4, p5⟩ := six hn0; obtain ⟨q0, q1, q2, q3, q4, q5⟩ := six hn1; obtain ⟨r0, r1, r2⟩ := three (heap_alloc_new w1 (.cells #[.int .i64 0, .int .i64 n, .int .i64 ix] 26)); have hB2 := hB1.alloc (by omega) (.cells #[.int .i64 0, .int .i64 n, .int .i64 ix] 26); clear hn0 hn1) | (go_at_call 44; refine (hF _).mono ?_; clear hF; rintro e w2 ⟨rfl, rfl⟩) | (go_at_call 45; refine (hA _).mono ?_; clear hA; rintro e w3 ⟨rfl, hw3⟩; have hB3 := hB2.trans (hw3.mono (by simp; omega))))
      go_ret
      exact ⟨by rw [HK.out, hr.out]; rfl, by first | exact hB3 | exact hB2 | exact hB1⟩
  · have hpd : decide (u ≤ grI n) = false := decide_eq_false hp
    rw [hpd] at hF
    have hr := Lib.hid (show bvOk n u s.size len = false from by unfold bvOk; rw [hpd]; rfl)
    clear hp hpd hn hu
    go_enter Try.func15, Try.ntmps15
    go_wp2_with (first | (go_at_call 10; refine (hV _).mono ?_; clear hV; rintro e w1 ⟨rfl, hw1⟩; have hs1 := hw1.size; simp at hs1; have hB1 := (hb0 (.cells #[.int .i64 0, .int .i64 n, .int .i64 ix, .int .u64 u, .string s, .slice A len c] 30)).trans (hw1.mono (by simp)); have hn0 := (hw1.block w.heap.size (by simp)).trans (heap_alloc_new w (.cells #[.int .i64 0, .int .i64 n, .int .i64 ix, .int .u64 u, .string s, .slice A len c] 30)); have hn1 := (heap_alloc_old w1 (.cells #[.int .i64 0, .int .i64 n, .int .i64 ix] 26) w.heap.size (by omega)).trans hn0; obtain ⟨p0, p1, p2, p3, p4, p5⟩ := six hn0; obtain ⟨q0, q1, q2, q3, q4, q5⟩ := six hn1; obtain ⟨r0, r1, r2⟩ := three (heap_alloc_new w1 (.cells #[.int .i64 0, .int .i64 n, .int .i64 ix] 26)); have hB2 := hB1.alloc (by omega) (.cells #[.int .i64 0, .int .i64 n, .int .i64 ix] 26); clear hn0 hn1) | (go_at_call 44; refine (hF _).mono ?_; clear hF; rintro e w2 ⟨rfl, rfl⟩) | (go_at_call 45; refine (hA _).mono ?_; clear hA; rintro e w3 ⟨rfl, hw3⟩; have hB3 := hB2.trans (hw3.mono (by simp; omega))))
    go_ret
    exact ⟨by rw [HK.out, hr.out]; rfl, by first | exact hB3 | exact hB2 | exact hB1⟩
set_option maxHeartbeats 1000000 in
set_option maxRecDepth 100000 in
theorem r6Valid1_any (n ix u : Int) (s : ByteArray) (A : Option Addr) (len c : Nat) (w : World) (hu : U64 u) (hok : sortOk 1 n ix = true) : Calls Try.prog 15 #[vav 1 n ix u s A len c] w fun e w' => e = .returned (.int .i64 (if stOk n u s.size len then 0 else 1)) ∧ Below w.heap.size w w' := by
  have hb0 : ∀ o, Below w.heap.size w (w.alloc o) := fun o => (Below.refl _ _).alloc (Nat.le_refl _) o
  have hV := fun W => r6ValidSort_any 1 n ix W
  have hA := fun W => r6Array_any 1 n ix W
  have hn : 0 ≤ n ∧ n ≤ 64 := by unfold sortOk at hok; simp at hok; omega
  unfold sortE at hV
  rw [hok] at hV
  simp only [if_true] at hV
  unfold vav
  clear hok
  obtain ⟨K, hK⟩ : ∃ K : Int, K = if stOk n u s.size len then 0 else 1 := ⟨_, rfl⟩
  rw [← hK]
  have HK := Lib.hid hK
  clear hK
  by_cases hp : u = 0
  · have hpz : decide (0 < u) = false := decide_eq_false (by omega)
    by_cases hs : (s.size : Int) ≤ n
    · have hsz : decide (n < (s.size : Int)) = false := decide_eq_false (by omega)
      by_cases hm : len = 0
      · have hmz : decide ((0 : Int) < (len : Int)) = false := decide_eq_false (by omega)
        have hmy : decide (0 < len) = false := decide_eq_false (by omega)
        have hr := Lib.hid (show stOk n u s.size len = true from by unfold stOk; rw [hp, decide_eq_true hs, hm]; rfl)
        clear hp hs hm hn hu
        go_enter Try.func15, Try.ntmps15
        go_wp2_with (first | (go_at_call 10; refine (hV _).mono ?_; clear hV; rintro e w1 ⟨rfl, hw1⟩; have hs1 := hw1.size; simp at hs1; have hB1 := (hb0 (.cells #[.int .i64 1, .int .i64 n, .int .i64 ix, .int .u64 u, .string s, .slice A len c] 30)).trans (hw1.mono (by simp)); have hn0 := (hw1.block w.heap.size (by simp)).trans (heap_alloc_new w (.cells #[.int .i64 1, .int .i64 n, .int .i64 ix, .int .u64 u, .string s, .slice A len c] 30)); have hn1 := (heap_alloc_old w1 (.cells #[.int .i64 1, .int .i64 n, .int .i64 ix] 26) w.heap.size (by omega)).trans hn0; obtain ⟨p0, p1, p2, p3, p4, p5⟩ := six hn0; obtain ⟨q0, q1, q2, q3, q4, q5⟩ := six hn1; obtain ⟨r0, r1, r2⟩ := three (heap_alloc_new w1 (.cells #[.int .i64 1, .int .i64 n, .int .i64 ix] 26)); have hB2 := hB1.alloc (by omega) (.cells #[.int .i64 1, .int .i64 n, .int .i64 ix] 26); clear hn0 hn1) | (go_at_call 44; refine (hF _).mono ?_; clear hF; rintro e w2 ⟨rfl, rfl⟩) | (go_at_call 45; refine (hA _).mono ?_; clear hA; rintro e w3 ⟨rfl, hw3⟩; have hB3 := hB2.trans (hw3.mono (by simp; omega))))
        go_ret
        exact ⟨by rw [HK.out, hr.out]; rfl, by first | exact hB3 | exact hB2 | exact hB1⟩
      · have hmz : decide ((0 : Int) < (len : Int)) = true := decide_eq_true (by omega)
        have hmy : decide (0 < len) = true := decide_eq_true (by omega)
        have hr := Lib.hid (show stOk n u s.size len = false from by unfold stOk; rw [hp, decide_eq_true hs, show (len == 0) = false by simpa using hm]; rfl)
        clear hp hs hm hn hu
        go_enter Try.func15, Try.ntmps15
        go_wp2_with (first | (go_at_call 10; refine (hV _).mono ?_; clear hV; rintro e w1 ⟨rfl, hw1⟩; have hs1 := hw1.size; simp at hs1; have hB1 := (hb0 (.cells #[.int .i64 1, .int .i64 n, .int .i64 ix, .int .u64 u, .string s, .slice A len c] 30)).trans (hw1.mono (by simp)); have hn0 := (hw1.block w.heap.size (by simp)).trans (heap_alloc_new w (.cells #[.int .i64 1, .int .i64 n, .int .i64 ix, .int .u64 u, .string s, .slice A len c] 30)); have hn1 := (heap_alloc_old w1 (.cells #[.int .i64 1, .int .i64 n, .int .i64 ix] 26) w.heap.size (by omega)).trans hn0; obtain ⟨p0, p1, p2, p3, p4, p5⟩ := six hn0; obtain ⟨q0, q1, q2, q3, q4, q5⟩ := six hn1; obtain ⟨r0, r1, r2⟩ := three (heap_alloc_new w1 (.cells #[.int .i64 1, .int .i64 n, .int .i64 ix] 26)); have hB2 := hB1.alloc (by omega) (.cells #[.int .i64 1, .int .i64 n, .int .i64 ix] 26); clear hn0 hn1) | (go_at_call 44; refine (hF _).mono ?_; clear hF; rintro e w2 ⟨rfl, rfl⟩) | (go_at_call 45; refine (hA _).mono ?_; clear hA; rintro e w3 ⟨rfl, hw3⟩; have hB3 := hB2.trans (hw3.mono (by simp; omega))))
        go_ret
        exact ⟨by rw [HK.out, hr.out]; rfl, by first | exact hB3 | exact hB2 | exact hB1⟩
    · have hsz : decide (n < (s.size : Int)) = true := decide_eq_true (by omega)
      have hr := Lib.hid (show stOk n u s.size len = false from by unfold stOk; rw [hp, decide_eq_false hs]; rfl)
      clear hp hs hn hu
      go_enter Try.func15, Try.ntmps15
      go_wp2_with (first | (go_at_call 10; refine (hV _).mono ?_; clear hV; rintro e w1 ⟨rfl, hw1⟩; have hs1 := hw1.size; simp at hs1; have hB1 := (hb0 (.cells #[.int .i64 1, .int .i64 n, .int .i64 ix, .int .u64 u, .string s, .slice A len c] 30)).trans (hw1.mono (by simp)); have hn0 := (hw1.block w.heap.size (by simp)).trans (heap_alloc_new w (.cells #[.int .i64 1, .int .i64 n, .int .i64 ix, .int .u64 u, .string s, .slice A len c] 30)); have hn1 := (heap_alloc_old w1 (.cells #[.int .i64 1, .int .i64 n, .int .i64 ix] 26) w.heap.size (by omega)).trans hn0; obtain ⟨p0, p1, p2, p3, p4, p5⟩ := six hn0; obtain ⟨q0, q1, q2, q3, q4, q5⟩ := six hn1; obtain ⟨r0, r1, r2⟩ := three (heap_alloc_new w1 (.cells #[.int .i64 1, .int .i64 n, .int .i64 ix] 26)); have hB2 := hB1.alloc (by omega) (.cells #[.int .i64 1, .int .i64 n, .int .i64 ix] 26); clear hn0 hn1) | (go_at_call 44; refine (hF _).mono ?_; clear hF; rintro e w2 ⟨rfl, rfl⟩) | (go_at_call 45; refine (hA _).mono ?_; clear hA; rintro e w3 ⟨rfl, hw3⟩; have hB3 := hB2.trans (hw3.mono (by simp; omega))))
      go_ret
      exact ⟨by rw [HK.out, hr.out]; rfl, by first | exact hB3 | exact hB2 | exact hB1⟩
  · have hpz : decide (0 < u) = true := decide_eq_true (by have := hu.1; omega)
    have hr := Lib.hid (show stOk n u s.size len = false from by unfold stOk; rw [show (u == 0) = false by simpa using hp]; rfl)
    clear hp hn hu
    go_enter Try.func15, Try.ntmps15
    go_wp2_with (first | (go_at_call 10; refine (hV _).mono ?_; clear hV; rintro e w1 ⟨rfl, hw1⟩; have hs1 := hw1.size; simp at hs1; have hB1 := (hb0 (.cells #[.int .i64 1, .int .i64 n, .int .i64 ix, .int .u64 u, .string s, .slice A len c] 30)).trans (hw1.mono (by simp)); have hn0 := (hw1.block w.heap.size (by simp)).trans (heap_alloc_new w (.cells #[.int .i64 1, .int .i64 n, .int .i64 ix, .int .u64 u, .string s, .slice A len c] 30)); have hn1 := (heap_alloc_old w1 (.cells #[.int .i64 1, .int .i64 n, .int .i64 ix] 26) w.heap.size (by omega)).trans hn0; obtain ⟨p0, p1, p2, p3, p4, p5⟩ := six hn0; obtain ⟨q0, q1, q2, q3, q4, q5⟩ := six hn1; obtain ⟨r0, r1, r2⟩ := three (heap_alloc_new w1 (.cells #[.int .i64 1, .int .i64 n, .int .i64 ix] 26)); have hB2 := hB1.alloc (by omega) (.cells #[.int .i64 1, .int .i64 n, .int .i64 ix] 26); clear hn0 hn1) | (go_at_call 44; refine (hF _).mono ?_; clear hF; rintro e w2 ⟨rfl, rfl⟩) | (go_at_call 45; refine (hA _).mono ?_; clear hA; rintro e w3 ⟨rfl, hw3⟩; have hB3 := hB2.trans (hw3.mono (by simp; omega))))
    go_ret
    exact ⟨by rw [HK.out, hr.out]; rfl, by first | exact hB3 | exact hB2 | exact hB1⟩
set_option maxHeartbeats 1000000 in
set_option maxRecDepth 100000 in
theorem r6Valid9_any (k n ix u : Int) (s : ByteArray) (A : Option Addr) (len c : Nat) (w : World) (hok : sortOk k n ix = false) : Calls Try.prog 15 #[vav k n ix u s A len c] w fun e w' => e = .returned (.int .i64 9) ∧ Below w.heap.size w w' := by
  have hb0 : ∀ o, Below w.heap.size w (w.alloc o) := fun o => (Below.refl _ _).alloc (Nat.le_refl _) o
  have hV := fun W => r6ValidSort_any k n ix W
  unfold sortE at hV
  rw [hok] at hV
  simp only [Bool.false_eq_true, if_false] at hV
  unfold vav
  clear hok
  obtain ⟨p0, p1, p2, p3, p4, p5⟩ := six (heap_alloc_new w (.cells #[.int .i64 k, .int .i64 n, .int .i64 ix, .int .u64 u, .string s, .slice A len c] 30))
  go_enter Try.func15, Try.ntmps15
  go_wp2_with (go_at_call 10; refine (hV _).mono ?_; clear hV; rintro e w1 ⟨rfl, hw1⟩; have hB1 := (hb0 (.cells #[.int .i64 k, .int .i64 n, .int .i64 ix, .int .u64 u, .string s, .slice A len c] 30)).trans (hw1.mono (by simp)))
  go_ret
  exact ⟨rfl, hB1⟩
set_option maxHeartbeats 1000000 in
set_option maxRecDepth 100000 in
theorem r6ValidU2_any (n ix u : Int) (s : ByteArray) (A : Option Addr) (len c : Nat) (w : World) (hu : U64 u) (hus : ¬ (u = 0 ∧ s.size = 0)) (hok : sortOk 2 n ix = true) : Calls Try.prog 15 #[vav 2 n ix u s A len c] w fun e w' => e = .returned (.int .i64 (1)) ∧ Below w.heap.size w w' := by
  have hb0 : ∀ o, Below w.heap.size w (w.alloc o) := fun o => (Below.refl _ _).alloc (Nat.le_refl _) o
  have hV := fun W => r6ValidSort_any 2 n ix W
  have hA := fun W => r6Array_any 2 n ix W
  have hn : 0 ≤ n ∧ n ≤ 64 := by unfold sortOk at hok; simp at hok; omega
  unfold sortE at hV
  rw [hok] at hV
  simp only [if_true] at hV
  unfold vav
  clear hok
  by_cases hp : u = 0
  · have hpz : decide (0 < u) = false := decide_eq_false (by omega)
    by_cases hs : s.size = 0
    · exact absurd ⟨hp, hs⟩ hus
    · have hsz : decide ((0 : Int) < (s.size : Int)) = true := decide_eq_true (by omega)
      have hsy : decide (0 < s.size) = true := decide_eq_true (by omega)
      clear hp hs hn hu hus
      go_enter Try.func15, Try.ntmps15
      go_wp2_with (first | (go_at_call 10; refine (hV _).mono ?_; clear hV; rintro e w1 ⟨rfl, hw1⟩; have hs1 := hw1.size; simp at hs1; have hB1 := (hb0 (.cells #[.int .i64 2, .int .i64 n, .int .i64 ix, .int .u64 u, .string s, .slice A len c] 30)).trans (hw1.mono (by simp)); have hn0 := (hw1.block w.heap.size (by simp)).trans (heap_alloc_new w (.cells #[.int .i64 2, .int .i64 n, .int .i64 ix, .int .u64 u, .string s, .slice A len c] 30)); have hn1 := (heap_alloc_old w1 (.cells #[.int .i64 2, .int .i64 n, .int .i64 ix] 26) w.heap.size (by omega)).trans hn0; obtain ⟨p0, p1, p2, p3, p4, p5⟩ := six hn0; obtain ⟨q0, q1, q2, q3, q4, q5⟩ := six hn1; obtain ⟨r0, r1, r2⟩ := three (heap_alloc_new w1 (.cells #[.int .i64 2, .int .i64 n, .int .i64 ix] 26)); have hB2 := hB1.alloc (by omega) (.cells #[.int .i64 2, .int .i64 n, .int .i64 ix] 26); clear hn0) | (go_at_call 45; refine (hA _).mono ?_; clear hA; rintro e w3 ⟨rfl, hw3⟩; have hB3 := hB2.trans (hw3.mono (by simp; omega)); have hn2 := (hw3.block w.heap.size (by simp; omega)).trans hn1; obtain ⟨t0, t1, t2, t3, t4, t5⟩ := six hn2; clear hn2))
      go_ret
      exact ⟨rfl, by first | exact hB3 | exact hB2 | exact hB1⟩
  · have hpz : decide (0 < u) = true := decide_eq_true (by have := hu.1; omega)
    clear hp hn hu hus
    go_enter Try.func15, Try.ntmps15
    go_wp2_with (first | (go_at_call 10; refine (hV _).mono ?_; clear hV; rintro e w1 ⟨rfl, hw1⟩; have hs1 := hw1.size; simp at hs1; have hB1 := (hb0 (.cells #[.int .i64 2, .int .i64 n, .int .i64 ix, .int .u64 u, .string s, .slice A len c] 30)).trans (hw1.mono (by simp)); have hn0 := (hw1.block w.heap.size (by simp)).trans (heap_alloc_new w (.cells #[.int .i64 2, .int .i64 n, .int .i64 ix, .int .u64 u, .string s, .slice A len c] 30)); have hn1 := (heap_alloc_old w1 (.cells #[.int .i64 2, .int .i64 n, .int .i64 ix] 26) w.heap.size (by omega)).trans hn0; obtain ⟨p0, p1, p2, p3, p4, p5⟩ := six hn0; obtain ⟨q0, q1, q2, q3, q4, q5⟩ := six hn1; obtain ⟨r0, r1, r2⟩ := three (heap_alloc_new w1 (.cells #[.int .i64 2, .int .i64 n, .int .i64 ix] 26)); have hB2 := hB1.alloc (by omega) (.cells #[.int .i64 2, .int .i64 n, .int .i64 ix] 26); clear hn0) | (go_at_call 45; refine (hA _).mono ?_; clear hA; rintro e w3 ⟨rfl, hw3⟩; have hB3 := hB2.trans (hw3.mono (by simp; omega)); have hn2 := (hw3.block w.heap.size (by simp; omega)).trans hn1; obtain ⟨t0, t1, t2, t3, t4, t5⟩ := six hn2; clear hn2))
    go_ret
    exact ⟨rfl, by first | exact hB3 | exact hB2 | exact hB1⟩
set_option maxHeartbeats 1000000 in
set_option maxRecDepth 100000 in
theorem r6ValidU3_any (n ix u : Int) (s : ByteArray) (A : Option Addr) (len c : Nat) (w : World) (hu : U64 u) (hus : ¬ (u = 0 ∧ s.size = 0)) (hok : sortOk 3 n ix = true) : Calls Try.prog 15 #[vav 3 n ix u s A len c] w fun e w' => e = .returned (.int .i64 (1)) ∧ Below w.heap.size w w' := by
  have hb0 : ∀ o, Below w.heap.size w (w.alloc o) := fun o => (Below.refl _ _).alloc (Nat.le_refl _) o
  have hV := fun W => r6ValidSort_any 3 n ix W
  have hA := fun W => r6Array_any 3 n ix W
  have hn : 0 ≤ n ∧ n ≤ 64 := by unfold sortOk at hok; simp at hok; omega
  unfold sortE at hV
  rw [hok] at hV
  simp only [if_true] at hV
  unfold vav
  clear hok
  by_cases hp : u = 0
  · have hpz : decide (0 < u) = false := decide_eq_false (by omega)
    by_cases hs : s.size = 0
    · exact absurd ⟨hp, hs⟩ hus
    · have hsz : decide ((0 : Int) < (s.size : Int)) = true := decide_eq_true (by omega)
      have hsy : decide (0 < s.size) = true := decide_eq_true (by omega)
      clear hp hs hn hu hus
      go_enter Try.func15, Try.ntmps15
      go_wp2_with (first | (go_at_call 10; refine (hV _).mono ?_; clear hV; rintro e w1 ⟨rfl, hw1⟩; have hs1 := hw1.size; simp at hs1; have hB1 := (hb0 (.cells #[.int .i64 3, .int .i64 n, .int .i64 ix, .int .u64 u, .string s, .slice A len c] 30)).trans (hw1.mono (by simp)); have hn0 := (hw1.block w.heap.size (by simp)).trans (heap_alloc_new w (.cells #[.int .i64 3, .int .i64 n, .int .i64 ix, .int .u64 u, .string s, .slice A len c] 30)); have hn1 := (heap_alloc_old w1 (.cells #[.int .i64 3, .int .i64 n, .int .i64 ix] 26) w.heap.size (by omega)).trans hn0; obtain ⟨p0, p1, p2, p3, p4, p5⟩ := six hn0; obtain ⟨q0, q1, q2, q3, q4, q5⟩ := six hn1; obtain ⟨r0, r1, r2⟩ := three (heap_alloc_new w1 (.cells #[.int .i64 3, .int .i64 n, .int .i64 ix] 26)); have hB2 := hB1.alloc (by omega) (.cells #[.int .i64 3, .int .i64 n, .int .i64 ix] 26); clear hn0) | (go_at_call 45; refine (hA _).mono ?_; clear hA; rintro e w3 ⟨rfl, hw3⟩; have hB3 := hB2.trans (hw3.mono (by simp; omega)); have hn2 := (hw3.block w.heap.size (by simp; omega)).trans hn1; obtain ⟨t0, t1, t2, t3, t4, t5⟩ := six hn2; clear hn2))
      go_ret
      exact ⟨rfl, by first | exact hB3 | exact hB2 | exact hB1⟩
  · have hpz : decide (0 < u) = true := decide_eq_true (by have := hu.1; omega)
    clear hp hn hu hus
    go_enter Try.func15, Try.ntmps15
    go_wp2_with (first | (go_at_call 10; refine (hV _).mono ?_; clear hV; rintro e w1 ⟨rfl, hw1⟩; have hs1 := hw1.size; simp at hs1; have hB1 := (hb0 (.cells #[.int .i64 3, .int .i64 n, .int .i64 ix, .int .u64 u, .string s, .slice A len c] 30)).trans (hw1.mono (by simp)); have hn0 := (hw1.block w.heap.size (by simp)).trans (heap_alloc_new w (.cells #[.int .i64 3, .int .i64 n, .int .i64 ix, .int .u64 u, .string s, .slice A len c] 30)); have hn1 := (heap_alloc_old w1 (.cells #[.int .i64 3, .int .i64 n, .int .i64 ix] 26) w.heap.size (by omega)).trans hn0; obtain ⟨p0, p1, p2, p3, p4, p5⟩ := six hn0; obtain ⟨q0, q1, q2, q3, q4, q5⟩ := six hn1; obtain ⟨r0, r1, r2⟩ := three (heap_alloc_new w1 (.cells #[.int .i64 3, .int .i64 n, .int .i64 ix] 26)); have hB2 := hB1.alloc (by omega) (.cells #[.int .i64 3, .int .i64 n, .int .i64 ix] 26); clear hn0) | (go_at_call 45; refine (hA _).mono ?_; clear hA; rintro e w3 ⟨rfl, hw3⟩; have hB3 := hB2.trans (hw3.mono (by simp; omega)); have hn2 := (hw3.block w.heap.size (by simp; omega)).trans hn1; obtain ⟨t0, t1, t2, t3, t4, t5⟩ := six hn2; clear hn2))
    go_ret
    exact ⟨rfl, by first | exact hB3 | exact hB2 | exact hB1⟩
end Go.Proofs.Ytngfgohchnkidaa
