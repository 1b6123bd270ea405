/-
  No cell of these rows narrows 'for every input' (looked for: loops, veiled, ifaces, maps, wideKeys, modest, calm, conditions, laid).
  DERIVED. THE GIVEN ROWS OF THIS SEAT. 6 by the template 'for every input the law returns true; each argument reads behind the call as it read before'; 0 by the template 'total and deterministic' (their statements: YtngfgohchnkidaaTotals.lean).
  GIVEN WITH THE SEED: the statements are not yours to turn. If you find one false, say at which input.
  Laid BY PROGRAM, IN A SANDBOX (cutbox-rows.mjs): the forced cells as the released guide's own fill.sh prints them over the translation 7246d07a744f0555… (all of the seat's roots in one cut). By AI agents, Wed Nov 11 2026. No macro, syntax, notation, axiom, sorry.
-/
import Derived.Test.YtngfgohchnkidaaChecked
import GoSem.Claim
import GoSem.ClaimJoined
import GoSem.ClaimMapViews
import Derived.JoinedTies
import Derived.KernelRfl
namespace Go.Proofs.Ytngfgohchnkidaa
/- THE CELL 'sum', in the pinned program and in every row, IS THE sha256 OF THE DUMP (.gsa) THAT YtngfgohchnkidaaProg.lean LOADS. Nothing in Lean hashes anything: it is a label: what it is worth is what the hold of that sum in a sandbox is worth. -/
noncomputable def Try.pinned : Pinned := { name := "ytngfgohchnkidaa", sum := "7246d07a744f05552a68069d8233c6fa6ebea37322c131ff87332b07459e5754", checked := Try.checked }
namespace Rows
def none {H : Type} : Left H := { results := [], args := [] }

/-- 'enthymemelaw06.ValueValid': WHATEVER THE INPUT: true; the input reads as it did. -/
def valueValidSpec : ChangeSpec := { name := "valueValid", fn := fun _ => fun
  | [d1, d2, d3, d4, d5] => { results := [.lit (.bool true)], args := [d1, d2, d3, d4, d5] }
  | _ => none }
def valueValidRow : OpenClaim := { program := "ytngfgohchnkidaa", sum := "7246d07a744f05552a68069d8233c6fa6ebea37322c131ff87332b07459e5754", func := "enthymeme/enthymemelaw06.ValueValid", spec := "valueValid", unfollowed := true, recurses := true, apart := false }
def ValueValidSaid : Prop := valueValidRow.holds Try.pinned (OpenSpec.ofChange valueValidSpec)

/-- ITS FALSE NEIGHBOUR: 'it returns false'. Refute it at one input. -/
def valueValidWrong : ChangeSpec := { name := "valueValid", fn := fun _ => fun
  | [d1, d2, d3, d4, d5] => { results := [.lit (.bool false)], args := [d1, d2, d3, d4, d5] }
  | _ => none }
def ValueValidWrongFalsely : Prop := valueValidRow.holds Try.pinned (OpenSpec.ofChange valueValidWrong)

/-- 'enthymemelaw06.ValueOrder': WHATEVER THE INPUT: true; the input reads as it did. -/
def valueOrderSpec : ChangeSpec := { name := "valueOrder", fn := fun _ => fun
  | [d1, d2, d3, d4, d5, d6] => { results := [.lit (.bool true)], args := [d1, d2, d3, d4, d5, d6] }
  | _ => none }
def valueOrderRow : OpenClaim := { program := "ytngfgohchnkidaa", sum := "7246d07a744f05552a68069d8233c6fa6ebea37322c131ff87332b07459e5754", func := "enthymeme/enthymemelaw06.ValueOrder", spec := "valueOrder", unfollowed := true, recurses := true, apart := false }
def ValueOrderSaid : Prop := valueOrderRow.holds Try.pinned (OpenSpec.ofChange valueOrderSpec)

/-- ITS FALSE NEIGHBOUR: 'it returns false'. Refute it at one input. -/
def valueOrderWrong : ChangeSpec := { name := "valueOrder", fn := fun _ => fun
  | [d1, d2, d3, d4, d5, d6] => { results := [.lit (.bool false)], args := [d1, d2, d3, d4, d5, d6] }
  | _ => none }
def ValueOrderWrongFalsely : Prop := valueOrderRow.holds Try.pinned (OpenSpec.ofChange valueOrderWrong)

/-- 'enthymemelaw06.ValueArrays': WHATEVER THE INPUT: true; the input reads as it did. -/
def valueArraysSpec : ChangeSpec := { name := "valueArrays", fn := fun _ => fun
  | [d1, d2, d3, d4, d5, d6, d7] => { results := [.lit (.bool true)], args := [d1, d2, d3, d4, d5, d6, d7] }
  | _ => none }
def valueArraysRow : OpenClaim := { program := "ytngfgohchnkidaa", sum := "7246d07a744f05552a68069d8233c6fa6ebea37322c131ff87332b07459e5754", func := "enthymeme/enthymemelaw06.ValueArrays", spec := "valueArrays", unfollowed := true, recurses := true, apart := false }
def ValueArraysSaid : Prop := valueArraysRow.holds Try.pinned (OpenSpec.ofChange valueArraysSpec)

/-- ITS FALSE NEIGHBOUR: 'it returns false'. Refute it at one input. -/
def valueArraysWrong : ChangeSpec := { name := "valueArrays", fn := fun _ => fun
  | [d1, d2, d3, d4, d5, d6, d7] => { results := [.lit (.bool false)], args := [d1, d2, d3, d4, d5, d6, d7] }
  | _ => none }
def ValueArraysWrongFalsely : Prop := valueArraysRow.holds Try.pinned (OpenSpec.ofChange valueArraysWrong)

/-- 'enthymemelaw06.ValueBytes': WHATEVER THE INPUT: true; the input reads as it did. -/
def valueBytesSpec : ChangeSpec := { name := "valueBytes", fn := fun _ => fun
  | [d1, d2, d3, d4, d5, d6, d7] => { results := [.lit (.bool true)], args := [d1, d2, d3, d4, d5, d6, d7] }
  | _ => none }
def valueBytesRow : OpenClaim := { program := "ytngfgohchnkidaa", sum := "7246d07a744f05552a68069d8233c6fa6ebea37322c131ff87332b07459e5754", func := "enthymeme/enthymemelaw06.ValueBytes", spec := "valueBytes", unfollowed := true, recurses := true, apart := false }
def ValueBytesSaid : Prop := valueBytesRow.holds Try.pinned (OpenSpec.ofChange valueBytesSpec)

/-- ITS FALSE NEIGHBOUR: 'it returns false'. Refute it at one input. -/
def valueBytesWrong : ChangeSpec := { name := "valueBytes", fn := fun _ => fun
  | [d1, d2, d3, d4, d5, d6, d7] => { results := [.lit (.bool false)], args := [d1, d2, d3, d4, d5, d6, d7] }
  | _ => none }
def ValueBytesWrongFalsely : Prop := valueBytesRow.holds Try.pinned (OpenSpec.ofChange valueBytesWrong)

/-- 'enthymemelaw06.ValueWrites': WHATEVER THE INPUT: true; the input reads as it did. -/
def valueWritesSpec : ChangeSpec := { name := "valueWrites", fn := fun _ => fun
  | [d1, d2, d3, d4, d5] => { results := [.lit (.bool true)], args := [d1, d2, d3, d4, d5] }
  | _ => none }
def valueWritesRow : OpenClaim := { program := "ytngfgohchnkidaa", sum := "7246d07a744f05552a68069d8233c6fa6ebea37322c131ff87332b07459e5754", func := "enthymeme/enthymemelaw06.ValueWrites", spec := "valueWrites", unfollowed := true, recurses := true, apart := false }
def ValueWritesSaid : Prop := valueWritesRow.holds Try.pinned (OpenSpec.ofChange valueWritesSpec)

/-- ITS FALSE NEIGHBOUR: 'it returns false'. Refute it at one input. -/
def valueWritesWrong : ChangeSpec := { name := "valueWrites", fn := fun _ => fun
  | [d1, d2, d3, d4, d5] => { results := [.lit (.bool false)], args := [d1, d2, d3, d4, d5] }
  | _ => none }
def ValueWritesWrongFalsely : Prop := valueWritesRow.holds Try.pinned (OpenSpec.ofChange valueWritesWrong)

/-- 'enthymemelaw06.ValueExtensional': WHATEVER THE INPUT: true; the input reads as it did. -/
def valueExtensionalSpec : ChangeSpec := { name := "valueExtensional", fn := fun _ => fun
  | [d1, d2, d3] => { results := [.lit (.bool true)], args := [d1, d2, d3] }
  | _ => none }
def valueExtensionalRow : OpenClaim := { program := "ytngfgohchnkidaa", sum := "7246d07a744f05552a68069d8233c6fa6ebea37322c131ff87332b07459e5754", func := "enthymeme/enthymemelaw06.ValueExtensional", spec := "valueExtensional", unfollowed := true, recurses := true, apart := false }
def ValueExtensionalSaid : Prop := valueExtensionalRow.holds Try.pinned (OpenSpec.ofChange valueExtensionalSpec)

/-- ITS FALSE NEIGHBOUR: 'it returns false'. Refute it at one input. -/
def valueExtensionalWrong : ChangeSpec := { name := "valueExtensional", fn := fun _ => fun
  | [d1, d2, d3] => { results := [.lit (.bool false)], args := [d1, d2, d3] }
  | _ => none }
def ValueExtensionalWrongFalsely : Prop := valueExtensionalRow.holds Try.pinned (OpenSpec.ofChange valueExtensionalWrong)

/- THE SECOND FORM. 'bulk': how many values and letters a reading holds, each counted each time it is reached (what is shared counts as often as it is met; a slice's spare places count too). A statement '..UptoSaid' is the law's where the arguments, and the package variables that the reading takes, are together of bulk at most 1048576: NARROWER than '..Said'. Prove '..Said' where nothing that the law and all that it calls make is longer than what came in: it says more and counts as full. Else prove '..UptoSaid'. A law counts once. -/
mutual
def uptoBulk {H : Type} : DataW H → Nat
  | .lit (.string bytes) => bytes.length + 1
  | .lit _ => 1
  | .nil => 1
  | .ptr d => uptoBulk d + 1
  | .slice elems spare => uptoBulkAll elems + uptoBulkAll spare + 1
  | .agg parts => uptoBulkAll parts + 1
  | .iface _ d => uptoBulk d + 1
  | .map entries => uptoBulkEntries entries + 1
  | .held _ => 1
def uptoBulkAll {H : Type} : List (DataW H) → Nat
  | [] => 0
  | d :: r => uptoBulk d + uptoBulkAll r
def uptoBulkEntries {H : Type} : List (Lit × DataW H) → Nat
  | [] => 0
  | x :: r => uptoBulkEntry x + uptoBulkEntries r
def uptoBulkEntry {H : Type} : Lit × DataW H → Nat
  | (.string bytes, d) => bytes.length + uptoBulk d + 1
  | (_, d) => uptoBulk d + 1
 end
def uptoSmall : (H : Type) → List (DataW H) → Bool := fun _ ds => decide (uptoBulkAll ds ≤ 1048576)
def OpenSpec.upto (s : _root_.Go.ChangeSpec) : _root_.Go.OpenSpec := { _root_.Go.OpenSpec.ofChange s with cond := some uptoSmall }

/-- 'enthymemelaw06.ValueValid', WHERE WHAT IT READS IS OF BULK AT MOST 1048576: true; the input reads as it did. -/
def valueValidUptoRow : OpenClaim := { program := "ytngfgohchnkidaa", sum := "7246d07a744f05552a68069d8233c6fa6ebea37322c131ff87332b07459e5754", func := "enthymeme/enthymemelaw06.ValueValid", spec := "valueValid", unfollowed := true, recurses := true, apart := false, narrowed := true }
def ValueValidUptoSaid : Prop := valueValidUptoRow.holds Try.pinned (OpenSpec.upto valueValidSpec)

/-- 'enthymemelaw06.ValueOrder', WHERE WHAT IT READS IS OF BULK AT MOST 1048576: true; the input reads as it did. -/
def valueOrderUptoRow : OpenClaim := { program := "ytngfgohchnkidaa", sum := "7246d07a744f05552a68069d8233c6fa6ebea37322c131ff87332b07459e5754", func := "enthymeme/enthymemelaw06.ValueOrder", spec := "valueOrder", unfollowed := true, recurses := true, apart := false, narrowed := true }
def ValueOrderUptoSaid : Prop := valueOrderUptoRow.holds Try.pinned (OpenSpec.upto valueOrderSpec)

/-- 'enthymemelaw06.ValueArrays', WHERE WHAT IT READS IS OF BULK AT MOST 1048576: true; the input reads as it did. -/
def valueArraysUptoRow : OpenClaim := { program := "ytngfgohchnkidaa", sum := "7246d07a744f05552a68069d8233c6fa6ebea37322c131ff87332b07459e5754", func := "enthymeme/enthymemelaw06.ValueArrays", spec := "valueArrays", unfollowed := true, recurses := true, apart := false, narrowed := true }
def ValueArraysUptoSaid : Prop := valueArraysUptoRow.holds Try.pinned (OpenSpec.upto valueArraysSpec)

/-- 'enthymemelaw06.ValueBytes', WHERE WHAT IT READS IS OF BULK AT MOST 1048576: true; the input reads as it did. -/
def valueBytesUptoRow : OpenClaim := { program := "ytngfgohchnkidaa", sum := "7246d07a744f05552a68069d8233c6fa6ebea37322c131ff87332b07459e5754", func := "enthymeme/enthymemelaw06.ValueBytes", spec := "valueBytes", unfollowed := true, recurses := true, apart := false, narrowed := true }
def ValueBytesUptoSaid : Prop := valueBytesUptoRow.holds Try.pinned (OpenSpec.upto valueBytesSpec)

/-- 'enthymemelaw06.ValueWrites', WHERE WHAT IT READS IS OF BULK AT MOST 1048576: true; the input reads as it did. -/
def valueWritesUptoRow : OpenClaim := { program := "ytngfgohchnkidaa", sum := "7246d07a744f05552a68069d8233c6fa6ebea37322c131ff87332b07459e5754", func := "enthymeme/enthymemelaw06.ValueWrites", spec := "valueWrites", unfollowed := true, recurses := true, apart := false, narrowed := true }
def ValueWritesUptoSaid : Prop := valueWritesUptoRow.holds Try.pinned (OpenSpec.upto valueWritesSpec)

/-- 'enthymemelaw06.ValueExtensional', WHERE WHAT IT READS IS OF BULK AT MOST 1048576: true; the input reads as it did. -/
def valueExtensionalUptoRow : OpenClaim := { program := "ytngfgohchnkidaa", sum := "7246d07a744f05552a68069d8233c6fa6ebea37322c131ff87332b07459e5754", func := "enthymeme/enthymemelaw06.ValueExtensional", spec := "valueExtensional", unfollowed := true, recurses := true, apart := false, narrowed := true }
def ValueExtensionalUptoSaid : Prop := valueExtensionalUptoRow.holds Try.pinned (OpenSpec.upto valueExtensionalSpec)

end Rows
end Go.Proofs.Ytngfgohchnkidaa
