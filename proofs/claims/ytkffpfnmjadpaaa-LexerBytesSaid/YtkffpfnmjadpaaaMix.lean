/-
  THE WALKS of the two mixers: each returns 'mixI'.
-/
import Derived.Test.YtkffpfnmjadpaaaRows
import Derived.Test.YtkffpfnmjadpaaaBase
import Derived.WalkKit
import Derived.WalkSpells
import Derived.WalkLawsBesides
namespace Go.Proofs.Ytkffpfnmjadpaaa
open Go.RowKit

theorem mix_any (s x : Int) (w : World) :
    Calls Try.prog 51 #[.int .u64 s, .int .u64 x] w fun e w' => e = .returned (.int .u64 (mixI s x)) ∧ w = w' := by
  go_enter Try.func51, Try.ntmps51
  go_wp2
  go_ret
  exact ⟨rfl, rfl⟩

end Go.Proofs.Ytkffpfnmjadpaaa
