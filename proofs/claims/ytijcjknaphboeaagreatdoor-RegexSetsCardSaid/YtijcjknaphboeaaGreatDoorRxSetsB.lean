/-
  THE LAW on sets (P4.9), lives put in.
-/
import Derived.Test.YtijcjknaphboeaaGreatDoorRxSets
import Derived.Test.YtijcjknaphboeaaGreatDoorRxLives
namespace Go.Proofs.YtijcjknaphboeaaGreatDoor
open Go.RowKit
theorem sets_any (A1 A2 A3 : Option Addr) (n1 n2 n3 c1 c2 c3 : Nat) (z1 z2 z3 : List Int) (c : Int) (w : World) (hc : 0 ≤ c ∧ c < 256) (hL1 : MkL n1 z1) (hL2 : MkL n2 z2) (hL3 : MkL n3 z3) (hr1 : RdI w w.heap.size .i64 A1 z1) (hr2 : RdI w w.heap.size .i64 A2 z2) (hr3 : RdI w w.heap.size .i64 A3 z3) (hG : GW w) :
    Calls Tryz.prog 5 #[.slice A1 n1 c1, .slice A2 n2 c2, .slice A3 n3 c3, .int .u8 c] w fun e w' => e = .returned (.bool true) ∧ Below w.heap.size w w' :=
  sets_walk A1 A2 A3 n1 n2 n3 c1 c2 c3 z1 z2 z3 c w hc hL1 hL2 hL3 hr1 hr2 hr3 (Lib.hid fun W hW => xlives_any W (hG.below hW))
end Go.Proofs.YtijcjknaphboeaaGreatDoor
