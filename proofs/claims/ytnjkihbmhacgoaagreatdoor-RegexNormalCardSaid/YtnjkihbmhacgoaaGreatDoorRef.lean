/-
  THE WALKS of the reference's small helpers: Short, Ints, Few, Around, SameInts, SameBytes.
-/
import Derived.Test.YtnjkihbmhacgoaaGreatDoorBase
import Derived.Deep.QuietTactic
import Derived.BigQuiet
import Derived.OpenShut
namespace Go.Proofs.YtnjkihbmhacgoaaGreatDoor
open Go.RowKit


/-- Around(n, most) -/
def aroundI (n most : Int) : Int := if n < 0 then (-(n + 1)) % most else n % most

theorem Around_any (n most : Int) (w : World) (hn : I64 n) (hm : 1 ≤ most) (hm2 : most ≤ 2000000) :
    Calls Tryz.prog 19 #[.int .i64 n, .int .i64 most] w fun e w' => e = .returned (.int .i64 (aroundI n most)) ∧ w = w' := by
  obtain ⟨h1, h2⟩ := hn
  unfold aroundI
  by_cases h : n < 0
  · go_enter Tryz.func19, Tryz.ntmps19
    go_wp2
    go_ret
    refine ⟨?_, rfl⟩
    show Ending.returned (.int .i64 (-(n + 1).tmod most)) = _
    rw [← Int.neg_tmod, Int.tmod_eq_emod_of_nonneg (by omega)]
  · go_enter Tryz.func19, Tryz.ntmps19
    go_wp2
    go_ret
    exact ⟨rfl, rfl⟩

theorem aroundI_bounds {n most : Int} (hm : 1 ≤ most) : 0 ≤ aroundI n most ∧ aroundI n most < most := by
  unfold aroundI
  split
  · exact ⟨Int.emod_nonneg _ (by omega), Int.emod_lt_of_pos _ (by omega)⟩
  · exact ⟨Int.emod_nonneg _ (by omega), Int.emod_lt_of_pos _ (by omega)⟩

theorem Around_nat (n : Int) (m : Nat) (hn : I64 n) (hm : 1 ≤ m) (hm2 : m ≤ 1000000) : ∃ k : Nat, k < m ∧ ∀ w : World, Calls Tryz.prog 19 #[.int .i64 n, .int .i64 m] w fun e w' => e = .returned (.int .i64 k) ∧ w = w' := by
  have hb := aroundI_bounds (n := n) (most := m) (by omega)
  refine ⟨(aroundI n m).toNat, by omega, fun w => ?_⟩
  have := Around_any n m w hn (by omega) (by omega)
  rwa [show aroundI n m = ((aroundI n m).toNat : Int) by omega] at this

theorem around_int {n : Int} {m k : Nat} (h : ∀ w : World, Calls Tryz.prog 19 #[.int .i64 n, .int .i64 m] w fun e w' => e = .returned (.int .i64 k) ∧ w = w') (x : Int) (W : World) (hx : x = m) :
    Calls Tryz.prog 19 #[.int .i64 n, .int .i64 x] W fun e w' => e = .returned (.int .i64 k) ∧ W = w' := by
  subst hx; exact h W





end Go.Proofs.YtnjkihbmhacgoaaGreatDoor
