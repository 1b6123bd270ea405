/-
  DERIVED. GIVEN WITH THE SEED: THE CARDS: each row of YtnjkihbmhacgoaaGreatDoorRows.lean that lists a variable, with what it lists TIED to the program's text (the seventh form; the later family's looks); each row that meets fmt, with fmt's text TOLD by the authors' own Lean function (tested against real Go, not proved from fmt's source: count such statements apart). THE CARD IS WHAT COUNTS. Prove the row's statement (the work); the ties are given (YtnjkihbmhacgoaaGreatDoorTie.lean); close each card by the builder's one call (the guide's Derived/Test/ToyasCard.lean, 'card_holds'). Laid BY PROGRAM, IN A SANDBOX (cutbox-door.mjs). By AI agents, Wed Nov 11 2026. No macro, syntax, notation, axiom, sorry.
-/
import Derived.Test.YtnjkihbmhacgoaaGreatDoorRows
import GoSem.ClaimSeven
namespace Go.Proofs.YtnjkihbmhacgoaaGreatDoor
namespace Rows

/-- THE TIED CARD OF 'enthymemelaw04.RegexNormal'. -/
def regexNormalCard : Claim7 := { stood := { row := regexNormalRow, standIns := [], harness := (true, "e16fda81a806b69fe1ce3d7fdef1a4a40cdf677e6c261fd5e0cf8244eb25cf08"), looks := false }, kinds := [], alts := [], laidByText := true, laidKinds := [.data, .data, .pinned], laidTests := true, laidLooks := .later }
def RegexNormalCardSaid : Prop := Claim7.holds Tryz.pinned (.plain (OpenSpec.ofChange regexNormalSpec)) regexNormalCard

/-- THE SECOND FORM's CARD OF 'enthymemelaw04.RegexNormal'. -/
def regexNormalUptoCard : Claim7 := { stood := { row := regexNormalUptoRow, standIns := [], harness := (true, "e16fda81a806b69fe1ce3d7fdef1a4a40cdf677e6c261fd5e0cf8244eb25cf08"), looks := false }, kinds := [], alts := [], laidByText := true, laidKinds := [.data, .data, .pinned], laidTests := true, laidLooks := .later }
def RegexNormalUptoCardSaid : Prop := Claim7.holds Tryz.pinned (.plain (OpenSpec.upto regexNormalSpec)) regexNormalUptoCard
end Rows
end Go.Proofs.YtnjkihbmhacgoaaGreatDoor
