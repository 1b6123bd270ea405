/-
  DERIVED. GIVEN WITH THE SEED: THE CARDS: each row of YtijcjknaphboeaaGreatDoorRows.lean that lists a variable, with what it lists TIED to the program's text (the seventh form; the later family's looks); each row that meets fmt, with fmt's text TOLD by the authors' own Lean function (tested against real Go, not proved from fmt's source: count such statements apart). THE CARD IS WHAT COUNTS. Prove the row's statement (the work); the ties are given (YtijcjknaphboeaaGreatDoorTie.lean); close each card by the builder's one call (the guide's Derived/Test/ToyasCard.lean, 'card_holds'). Laid BY PROGRAM, IN A SANDBOX (cutbox-door.mjs). By AI agents, Wed Nov 11 2026. No macro, syntax, notation, axiom, sorry.
-/
import Derived.Test.YtijcjknaphboeaaGreatDoorRows
import GoSem.ClaimSeven
namespace Go.Proofs.YtijcjknaphboeaaGreatDoor
namespace Rows

/-- THE TIED CARD OF 'enthymemelaw04.RegexNormal'. -/
def regexNormalCard : Claim7 := { stood := { row := regexNormalRow, standIns := [], harness := (true, "4360477ab017cb7fdac9a8df7c546df25d29753c7d3d5f0aa1080c05ea303bd9"), looks := false }, kinds := [], alts := [], laidByText := true, laidKinds := [.data, .data, .pinned], laidTests := true, laidLooks := .later }
def RegexNormalCardSaid : Prop := Claim7.holds Tryz.pinned (.plain (OpenSpec.ofChange regexNormalSpec)) regexNormalCard

/-- THE TIED CARD OF 'enthymemelaw04.RegexMatches'. -/
def regexMatchesCard : Claim7 := { stood := { row := regexMatchesRow, standIns := [], harness := (true, "4360477ab017cb7fdac9a8df7c546df25d29753c7d3d5f0aa1080c05ea303bd9"), looks := false }, kinds := [], alts := [], laidByText := true, laidKinds := [.data, .data, .pinned], laidTests := true, laidLooks := .later }
def RegexMatchesCardSaid : Prop := Claim7.holds Tryz.pinned (.plain (OpenSpec.ofChange regexMatchesSpec)) regexMatchesCard

/-- THE TIED CARD OF 'enthymemelaw04.RegexSets'. -/
def regexSetsCard : Claim7 := { stood := { row := regexSetsRow, standIns := [], harness := (true, "4360477ab017cb7fdac9a8df7c546df25d29753c7d3d5f0aa1080c05ea303bd9"), looks := false }, kinds := [], alts := [], laidByText := true, laidKinds := [.data, .data, .pinned], laidTests := true, laidLooks := .later }
def RegexSetsCardSaid : Prop := Claim7.holds Tryz.pinned (.plain (OpenSpec.ofChange regexSetsSpec)) regexSetsCard

/-- THE TIED CARD OF 'enthymemelaw04.RegexOrder'. -/
def regexOrderCard : Claim7 := { stood := { row := regexOrderRow, standIns := [], harness := (true, "4360477ab017cb7fdac9a8df7c546df25d29753c7d3d5f0aa1080c05ea303bd9"), looks := false }, kinds := [], alts := [], laidByText := true, laidKinds := [.data, .data, .pinned], laidTests := true, laidLooks := .later }
def RegexOrderCardSaid : Prop := Claim7.holds Tryz.pinned (.plain (OpenSpec.ofChange regexOrderSpec)) regexOrderCard

/-- THE SECOND FORM's CARD OF 'enthymemelaw04.RegexNormal'. -/
def regexNormalUptoCard : Claim7 := { stood := { row := regexNormalUptoRow, standIns := [], harness := (true, "4360477ab017cb7fdac9a8df7c546df25d29753c7d3d5f0aa1080c05ea303bd9"), looks := false }, kinds := [], alts := [], laidByText := true, laidKinds := [.data, .data, .pinned], laidTests := true, laidLooks := .later }
def RegexNormalUptoCardSaid : Prop := Claim7.holds Tryz.pinned (.plain (OpenSpec.upto regexNormalSpec)) regexNormalUptoCard

/-- THE SECOND FORM's CARD OF 'enthymemelaw04.RegexMatches'. -/
def regexMatchesUptoCard : Claim7 := { stood := { row := regexMatchesUptoRow, standIns := [], harness := (true, "4360477ab017cb7fdac9a8df7c546df25d29753c7d3d5f0aa1080c05ea303bd9"), looks := false }, kinds := [], alts := [], laidByText := true, laidKinds := [.data, .data, .pinned], laidTests := true, laidLooks := .later }
def RegexMatchesUptoCardSaid : Prop := Claim7.holds Tryz.pinned (.plain (OpenSpec.upto regexMatchesSpec)) regexMatchesUptoCard

/-- THE SECOND FORM's CARD OF 'enthymemelaw04.RegexSets'. -/
def regexSetsUptoCard : Claim7 := { stood := { row := regexSetsUptoRow, standIns := [], harness := (true, "4360477ab017cb7fdac9a8df7c546df25d29753c7d3d5f0aa1080c05ea303bd9"), looks := false }, kinds := [], alts := [], laidByText := true, laidKinds := [.data, .data, .pinned], laidTests := true, laidLooks := .later }
def RegexSetsUptoCardSaid : Prop := Claim7.holds Tryz.pinned (.plain (OpenSpec.upto regexSetsSpec)) regexSetsUptoCard

/-- THE SECOND FORM's CARD OF 'enthymemelaw04.RegexOrder'. -/
def regexOrderUptoCard : Claim7 := { stood := { row := regexOrderUptoRow, standIns := [], harness := (true, "4360477ab017cb7fdac9a8df7c546df25d29753c7d3d5f0aa1080c05ea303bd9"), looks := false }, kinds := [], alts := [], laidByText := true, laidKinds := [.data, .data, .pinned], laidTests := true, laidLooks := .later }
def RegexOrderUptoCardSaid : Prop := Claim7.holds Tryz.pinned (.plain (OpenSpec.upto regexOrderSpec)) regexOrderUptoCard
end Rows
end Go.Proofs.YtijcjknaphboeaaGreatDoor
