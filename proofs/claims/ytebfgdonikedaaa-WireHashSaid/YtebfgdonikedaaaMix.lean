/-
  THE WALKS of the two mixers: each returns 'mixI'.
-/
import Derived.Test.YtebfgdonikedaaaRows
import Derived.Test.YtebfgdonikedaaaBase
import Derived.WalkKit
import Derived.WalkSpells
import Derived.WalkLawsBesides
namespace Go.Proofs.Ytebfgdonikedaaa
open Go.RowKit

theorem mix_any (s x : Int) (w : World) :
    Calls Try.prog 72 #[.int .u64 s, .int .u64 x] w fun e w' => e = .returned (.int .u64 (mixI s x)) ∧ w = w' := by
  go_enter Try.func72, Try.ntmps72
  go_wp2
  go_ret
  exact ⟨rfl, rfl⟩

end Go.Proofs.Ytebfgdonikedaaa
