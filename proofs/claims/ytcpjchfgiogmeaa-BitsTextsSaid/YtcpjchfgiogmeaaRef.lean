/-
  THE WALKS of the reference's small helpers: Short, Ints, Few, Around, SameInts, SameBytes.
-/
import Derived.Test.YtcpjchfgiogmeaaBase
import Derived.Deep.QuietTactic
import Derived.BigQuiet
import Derived.OpenShut
namespace Go.Proofs.Ytcpjchfgiogmeaa
open Go.RowKit

theorem Short_long (s : ByteArray) (m : Nat) (w : World) (hs : s.size ≤ maxLen) (hm : m < s.size) :
    Calls Try.prog 30 #[.string s, .int .i64 m] w fun e w' => e = .returned (.string (s.extract 0 m)) ∧ w = w' := by
  have := hs
  unfold maxLen at this
  go_enter Try.func30, Try.ntmps30
  go_wp2
  go_ret
  exact ⟨rfl, rfl⟩

theorem Short_short (s : ByteArray) (m : Nat) (w : World) (hs : s.size ≤ maxLen) (hm : s.size ≤ m) :
    Calls Try.prog 30 #[.string s, .int .i64 m] w fun e w' => e = .returned (.string s) ∧ w = w' := by
  have := hs
  unfold maxLen at this
  go_enter Try.func30, Try.ntmps30
  go_wp2
  go_ret
  exact ⟨rfl, rfl⟩

theorem Short_any (s : ByteArray) (m : Nat) (w : World) (hs : s.size ≤ maxLen) :
    Calls Try.prog 30 #[.string s, .int .i64 m] w fun e w' => ∃ t : ByteArray, e = .returned (.string t) ∧ t.size ≤ m ∧ w = w' := by
  by_cases h : m < s.size
  · exact (Short_long s m w hs h).mono fun e w' he => ⟨_, he.1, by rw [ByteArray.size_extract]; omega, he.2⟩
  · exact (Short_short s m w hs (by omega)).mono fun e w' he => ⟨_, he.1, by omega, he.2⟩

/-- Around(n, most) -/
def aroundI (n most : Int) : Int := if n < 0 then (-(n + 1)) % most else n % most

theorem Around_any (n most : Int) (w : World) (hn : I64 n) (hm : 1 ≤ most) (hm2 : most ≤ 2000000) :
    Calls Try.prog 22 #[.int .i64 n, .int .i64 most] w fun e w' => e = .returned (.int .i64 (aroundI n most)) ∧ w = w' := by
  obtain ⟨h1, h2⟩ := hn
  unfold aroundI
  by_cases h : n < 0
  · go_enter Try.func22, Try.ntmps22
    go_wp2
    go_ret
    refine ⟨?_, rfl⟩
    show Ending.returned (.int .i64 (-(n + 1).tmod most)) = _
    rw [← Int.neg_tmod, Int.tmod_eq_emod_of_nonneg (by omega)]
  · go_enter Try.func22, Try.ntmps22
    go_wp2
    go_ret
    exact ⟨rfl, rfl⟩

theorem aroundI_bounds {n most : Int} (hm : 1 ≤ most) : 0 ≤ aroundI n most ∧ aroundI n most < most := by
  unfold aroundI
  split
  · exact ⟨Int.emod_nonneg _ (by omega), Int.emod_lt_of_pos _ (by omega)⟩
  · exact ⟨Int.emod_nonneg _ (by omega), Int.emod_lt_of_pos _ (by omega)⟩

theorem Around_nat (n : Int) (m : Nat) (hn : I64 n) (hm : 1 ≤ m) (hm2 : m ≤ 1000000) : ∃ k : Nat, k < m ∧ ∀ w : World, Calls Try.prog 22 #[.int .i64 n, .int .i64 m] w fun e w' => e = .returned (.int .i64 k) ∧ w = w' := by
  have hb := aroundI_bounds (n := n) (most := m) (by omega)
  refine ⟨(aroundI n m).toNat, by omega, fun w => ?_⟩
  have := Around_any n m w hn (by omega) (by omega)
  rwa [show aroundI n m = ((aroundI n m).toNat : Int) by omega] at this

theorem around_int {n : Int} {m k : Nat} (h : ∀ w : World, Calls Try.prog 22 #[.int .i64 n, .int .i64 m] w fun e w' => e = .returned (.int .i64 k) ∧ w = w') (x : Int) (W : World) (hx : x = m) :
    Calls Try.prog 22 #[.int .i64 n, .int .i64 x] W fun e w' => e = .returned (.int .i64 k) ∧ W = w' := by
  subst hx; exact h W





end Go.Proofs.Ytcpjchfgiogmeaa
