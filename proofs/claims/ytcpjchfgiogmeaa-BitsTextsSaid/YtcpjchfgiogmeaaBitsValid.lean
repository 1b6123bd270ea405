/-
  THE WALKS of the reference's Valid, Width, Value.
-/
import Derived.Test.YtcpjchfgiogmeaaBitsTimes
import Derived.Test.YtcpjchfgiogmeaaRef
namespace Go.Proofs.Ytcpjchfgiogmeaa
open Go.RowKit

/-- Valid(u, n) as a number -/
def validE (u : Nat) (n : Int) : Int := if n < 1 ∨ 64 < n then 1 else if u < 2 ^ n.toNat then 0 else 5
theorem validE_in {u m : Nat} (h1 : 1 ≤ m) (h64 : m ≤ 64) : validE u m = if u < 2 ^ m then 0 else 5 := by
  unfold validE
  rw [if_neg (by omega), Int.toNat_natCast]

set_option maxHeartbeats 1000000 in
theorem bValid_in (u m : Nat) (w : World) (hu : u < 18446744073709551616) (h1 : 1 ≤ m) (h64 : m ≤ 64) :
    Calls Try.prog 14 #[.int .u64 u, .int .i64 m] w fun e w' => e = .returned (.int .i64 (validE u m)) ∧ Below w.heap.size w w' := by
  have cB := bBits_any u m w hu h64
  have hl := bitsL_length m u
  have ho := ofL_bitsL m u
  rw [validE_in h1 h64]
  have cO : ∀ W A c, RdB W W.heap.size A (bitsL m u) → Calls Try.prog 36 #[.slice A m c] W fun e w' => e = .returned (.int .u64 (ofL (bitsL m u))) ∧ W = w' := fun W A c hr =>
    bOf_any A m c W.heap.size _ W hl.symm (by omega) hr
  generalize bitsL m u = l at cB cO hl ho
  have HL := Lib.hid hl
  have hlt := ofL_lt l
  rw [hl] at hlt
  have hp : 2 ^ m ≤ 18446744073709551616 := by
    have : 2 ^ m ≤ 2 ^ 64 := Nat.pow_le_pow_right (by decide) h64
    omega
  have hv64 : ofL l < 18446744073709551616 := by omega
  by_cases hv : u < 2 ^ m
  · rw [if_pos hv]
    rw [Nat.mod_eq_of_lt hv] at ho
    rw [ho] at cO
    clear ho hlt hp hv hl hv64
    go_enter Try.func14, Try.ntmps14
    go_wp2_with (first
      | (go_at_call 32; refine cB.mono ?_; clear cB; rintro e w1 ⟨A, c, rfl, hrow, hb1⟩; rw [HL.out] at hrow ⊢; have hr := rdb_own hrow)
      | (go_at_call 36; refine (cO _ _ _ hr).mono ?_; clear cO; rintro e w2 ⟨rfl, rfl⟩))
    go_ret
    exact ⟨rfl, hb1⟩
  · rw [if_neg hv]
    have hne : ofL l ≠ u := by omega
    have hne1 : ((ofL l : Int) != (u : Int)) = true := by simp; omega
    have hne2 : ((ofL l : Int) == (u : Int)) = false := by simp; omega
    generalize ofL l = v at cO hne hne1 hne2 hv64
    clear ho hlt hp hv hl hne
    go_enter Try.func14, Try.ntmps14
    go_wp2_with (first
      | (go_at_call 32; refine cB.mono ?_; clear cB; rintro e w1 ⟨A, c, rfl, hrow, hb1⟩; rw [HL.out] at hrow ⊢; have hr := rdb_own hrow)
      | (go_at_call 36; refine (cO _ _ _ hr).mono ?_; clear cO; rintro e w2 ⟨rfl, rfl⟩))
    go_ret
    exact ⟨rfl, hb1⟩
theorem bValid_any (u : Nat) (n : Int) (w : World) (hu : u < 18446744073709551616) :
    Calls Try.prog 14 #[.int .u64 u, .int .i64 n] w fun e w' => e = .returned (.int .i64 (validE u n)) ∧ Below w.heap.size w w' := by
  by_cases h1 : n < 1
  · have he := Lib.hid (show validE u n = 1 by unfold validE; rw [if_pos (.inl h1)])
    go_enter Try.func14, Try.ntmps14
    go_wp2
    go_ret
    exact ⟨by rw [he.out]; rfl, Below.refl _ _⟩
  · by_cases h2 : 64 < n
    · have he := Lib.hid (show validE u n = 1 by unfold validE; rw [if_pos (.inr h2)])
      go_enter Try.func14, Try.ntmps14
      go_wp2
      go_ret
      exact ⟨by rw [he.out]; rfl, Below.refl _ _⟩
    · obtain ⟨m, rfl⟩ : ∃ m : Nat, n = m := ⟨n.toNat, by omega⟩
      exact bValid_in u m w hu (by omega) (by omega)

set_option maxHeartbeats 1000000 in
theorem bWidth_any (n : Int) (hn : I64 n) : ∃ m : Nat, 1 ≤ m ∧ m ≤ 64 ∧ ∀ w, Calls Try.prog 11 #[.int .i64 n] w fun e w' => e = .returned (.int .i64 m) ∧ Below w.heap.size w w' := by
  have cA : ∀ w, Calls Try.prog 22 #[.int .i64 n, .int .i64 1048576] w fun e w' => e = .returned (.int .i64 (aroundI n 1048576)) ∧ w = w' := fun w => Around_any n 1048576 w hn (by decide) (by decide)
  obtain ⟨h0, h1⟩ := aroundI_bounds (n := n) (most := 1048576) (by decide)
  obtain ⟨k, hk⟩ : ∃ k : Nat, aroundI n 1048576 = k := ⟨(aroundI n 1048576).toNat, by omega⟩
  rw [hk] at cA h1
  clear h0 hk hn
  by_cases h4 : (k : Int) % 4 = 0
  · obtain ⟨j, hj⟩ : ∃ j : Nat, (k : Int) / 4 % 6 = j := ⟨((k : Int) / 4 % 6).toNat, by omega⟩
    have hj6 : j < 6 := by omega
    obtain ⟨v, hv⟩ : ∃ v : Nat, [64, 63, 32, 33, 1, 8][j]? = some v := ⟨_, List.getElem?_eq_getElem (by simpa using hj6)⟩
    refine ⟨v, ?_, ?_, fun w => ?_⟩
    · have : j = 0 ∨ j = 1 ∨ j = 2 ∨ j = 3 ∨ j = 4 ∨ j = 5 := by omega
      rcases this with rfl | rfl | rfl | rfl | rfl | rfl <;> simp at hv <;> omega
    · have : j = 0 ∨ j = 1 ∨ j = 2 ∨ j = 3 ∨ j = 4 ∨ j = 5 := by omega
      rcases this with rfl | rfl | rfl | rfl | rfl | rfl <;> simp at hv <;> omega
    · have hcell : (w.alloc (.cells #[.int .i64 64, .int .i64 63, .int .i64 32, .int .i64 33, .int .i64 1, .int .i64 8] 3)).cell? ⟨w.heap.size, j, none⟩ = some (.int .i64 v) := by
        have : j = 0 ∨ j = 1 ∨ j = 2 ∨ j = 3 ∨ j = 4 ∨ j = 5 := by omega
        rw [World.cell?_alloc_mark]
        rcases this with rfl | rfl | rfl | rfl | rfl | rfl <;> simp at hv <;> subst hv <;> rfl
      have cAw := cA w
      clear cA hv
      go_enter Try.func11, Try.ntmps11
      go_wp2_with (go_at_call 22; refine cAw.mono ?_; clear cAw; rintro e w1 ⟨rfl, rfl⟩)
      go_ret
      exact ⟨rfl, (Below.refl _ _).alloc (Nat.le_refl _) _⟩
  · refine ⟨1 + k / 4 % 9, by omega, by omega, fun w => ?_⟩
    have cAw := cA w
    have h4b : ((k : Int) % 4 == 0) = false := by simpa using h4
    clear cA
    go_enter Try.func11, Try.ntmps11
    go_wp2_with (go_at_call 22; refine cAw.mono ?_; clear cAw; rintro e w1 ⟨rfl, rfl⟩)
    go_ret
    exact ⟨by simp, Below.refl _ _⟩
end Go.Proofs.Ytcpjchfgiogmeaa
