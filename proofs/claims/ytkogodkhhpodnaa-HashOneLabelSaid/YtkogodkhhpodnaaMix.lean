/-
  THE WALKS of the two mixers: each returns 'mixI'.
-/
import Derived.Test.YtkogodkhhpodnaaRows
import Derived.Test.YtkogodkhhpodnaaMath
import Derived.WalkKit
import Derived.WalkSpells
import Derived.WalkLawsBesides
namespace Go.Proofs.Ytkogodkhhpodnaa
open Go.RowKit

theorem mix_any (s x : Int) (w : World) :
    Calls Try.prog 26 #[.int .u64 s, .int .u64 x] w fun e w' => e = .returned (.int .u64 (mixI s x)) ∧ w = w' := by
  go_enter Try.func26, Try.ntmps26
  go_wp2
  go_ret
  exact ⟨rfl, rfl⟩

theorem rmix_any (s x : Int) (w : World) :
    Calls Try.prog 27 #[.int .u64 s, .int .u64 x] w fun e w' => e = .returned (.int .u64 (mixI s x)) ∧ w = w' := by
  go_enter Try.func27, Try.ntmps27
  go_wp2
  go_ret
  exact ⟨by unfold mixI; rw [← rdiv]; rfl, rfl⟩
end Go.Proofs.Ytkogodkhhpodnaa
