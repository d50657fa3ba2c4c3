/-
  DERIVED. GIVEN WITH THE SEED: THE CARDS: each row of YtnffjoipinhojabGreatDoorRows.lean that lists a variable, with what it lists TIED to the program's text (the seventh form; the later family's looks); each row that meets fmt, with fmt's text TOLD by the authors' own Lean function (tested against real Go, not proved from fmt's source: count such statements apart). THE CARD IS WHAT COUNTS. Prove the row's statement (the work); the ties are given (YtnffjoipinhojabGreatDoorTie.lean); close each card by the builder's one call (the guide's Derived/Test/ToyasCard.lean, 'card_holds'). Laid BY PROGRAM, IN A SANDBOX (cutbox-door.mjs). By AI agents, Wed Nov 11 2026. No macro, syntax, notation, axiom, sorry.
-/
import Derived.Test.YtnffjoipinhojabGreatDoorRows
import GoSem.ClaimSeven
namespace Go.Proofs.YtnffjoipinhojabGreatDoor
namespace Rows

/-- THE TIED CARD OF 'trinelaw.TurtlePrints'. -/
def turtlePrintsCard : Claim7 := { stood := { row := turtlePrintsRow, standIns := [], harness := (true, "17b350605e018d8ca370b3ddbe23a427f281111547cad0f58be7e506bd57a2be"), looks := true }, kinds := [], alts := [], laidByText := true, laidKinds := [.data, .handle, .pinned, .pinned], laidTests := true, laidLooks := .later }
def TurtlePrintsCardSaid : Prop := Claim7.holds Tryz.pinned (.plain (OpenSpec.ofChange turtlePrintsSpec)) turtlePrintsCard

/-- THE TIED CARD OF 'trinelaw.TurtleBack'. -/
def turtleBackCard : Claim7 := { stood := { row := turtleBackRow, standIns := [], harness := (true, "17b350605e018d8ca370b3ddbe23a427f281111547cad0f58be7e506bd57a2be"), looks := true }, kinds := [], alts := [], laidByText := true, laidKinds := [.data, .data, .data, .data, .handle, .pinned, .pinned], laidTests := true, laidLooks := .later }
def TurtleBackCardSaid : Prop := Claim7.holds Tryz.pinned (.plain (OpenSpec.ofChange turtleBackSpec)) turtleBackCard

/-- THE TIED CARD OF 'trinelaw.TurtleLines'. -/
def turtleLinesCard : Claim7 := { stood := { row := turtleLinesRow, standIns := [], harness := (true, "17b350605e018d8ca370b3ddbe23a427f281111547cad0f58be7e506bd57a2be"), looks := true }, kinds := [], alts := [], laidByText := true, laidKinds := [.data, .data, .data, .data, .handle, .pinned, .pinned], laidTests := true, laidLooks := .later }
def TurtleLinesCardSaid : Prop := Claim7.holds Tryz.pinned (.plain (OpenSpec.ofChange turtleLinesSpec)) turtleLinesCard

/-- THE SECOND FORM's CARD OF 'trinelaw.TurtlePrints'. -/
def turtlePrintsUptoCard : Claim7 := { stood := { row := turtlePrintsUptoRow, standIns := [], harness := (true, "17b350605e018d8ca370b3ddbe23a427f281111547cad0f58be7e506bd57a2be"), looks := true }, kinds := [], alts := [], laidByText := true, laidKinds := [.data, .handle, .pinned, .pinned], laidTests := true, laidLooks := .later }
def TurtlePrintsUptoCardSaid : Prop := Claim7.holds Tryz.pinned (.plain (OpenSpec.upto turtlePrintsSpec)) turtlePrintsUptoCard

/-- THE SECOND FORM's CARD OF 'trinelaw.TurtleBack'. -/
def turtleBackUptoCard : Claim7 := { stood := { row := turtleBackUptoRow, standIns := [], harness := (true, "17b350605e018d8ca370b3ddbe23a427f281111547cad0f58be7e506bd57a2be"), looks := true }, kinds := [], alts := [], laidByText := true, laidKinds := [.data, .data, .data, .data, .handle, .pinned, .pinned], laidTests := true, laidLooks := .later }
def TurtleBackUptoCardSaid : Prop := Claim7.holds Tryz.pinned (.plain (OpenSpec.upto turtleBackSpec)) turtleBackUptoCard

/-- THE SECOND FORM's CARD OF 'trinelaw.TurtleLines'. -/
def turtleLinesUptoCard : Claim7 := { stood := { row := turtleLinesUptoRow, standIns := [], harness := (true, "17b350605e018d8ca370b3ddbe23a427f281111547cad0f58be7e506bd57a2be"), looks := true }, kinds := [], alts := [], laidByText := true, laidKinds := [.data, .data, .data, .data, .handle, .pinned, .pinned], laidTests := true, laidLooks := .later }
def TurtleLinesUptoCardSaid : Prop := Claim7.holds Tryz.pinned (.plain (OpenSpec.upto turtleLinesSpec)) turtleLinesUptoCard
end Rows
end Go.Proofs.YtnffjoipinhojabGreatDoor
