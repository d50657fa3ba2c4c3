/-
  DERIVED. GIVEN WITH THE SEED: THE CARDS: each row of YtnffjoipinhojaaGreatDoorRows.lean that lists a variable, with what it lists TIED to the program's text (the seventh form; the later family's looks); each row that meets fmt, with fmt's text TOLD by the authors' own Lean function (tested against real Go, not proved from fmt's source: count such statements apart). THE CARD IS WHAT COUNTS. Prove the row's statement (the work); the ties are given (YtnffjoipinhojaaGreatDoorTie.lean); close each card by the builder's one call (the guide's Derived/Test/ToyasCard.lean, 'card_holds'). Laid BY PROGRAM, IN A SANDBOX (cutbox-door.mjs). By AI agents, Wed Nov 11 2026. No macro, syntax, notation, axiom, sorry.
-/
import Derived.Test.YtnffjoipinhojaaGreatDoorRows
import GoSem.ClaimSeven
namespace Go.Proofs.YtnffjoipinhojaaGreatDoor
namespace Rows

/-- THE TIED CARD OF 'trinelaw.TermReads'. -/
def termReadsCard : Claim7 := { stood := { row := termReadsRow, standIns := [], harness := (true, "448905398bea572080513209855088e8a0b29b0eb9686a2afd137c9146c54420"), looks := true }, kinds := [], alts := [], laidByText := true, laidKinds := [.data, .handle, .pinned, .pinned], laidTests := true, laidLooks := .later }
def TermReadsCardSaid : Prop := Claim7.holds Tryz.pinned (.plain (OpenSpec.ofChange termReadsSpec)) termReadsCard

/-- THE TIED CARD OF 'trinelaw.TermKinds'. -/
def termKindsCard : Claim7 := { stood := { row := termKindsRow, standIns := [], harness := (true, "448905398bea572080513209855088e8a0b29b0eb9686a2afd137c9146c54420"), looks := true }, kinds := [], alts := [], laidByText := true, laidKinds := [.data, .pinned, .pinned], laidTests := true, laidLooks := .later }
def TermKindsCardSaid : Prop := Claim7.holds Tryz.pinned (.plain (OpenSpec.ofChange termKindsSpec)) termKindsCard

/-- THE TIED CARD OF 'trinelaw.TermLiterals'. -/
def termLiteralsCard : Claim7 := { stood := { row := termLiteralsRow, standIns := [], harness := (true, "448905398bea572080513209855088e8a0b29b0eb9686a2afd137c9146c54420"), looks := true }, kinds := [], alts := [], laidByText := true, laidKinds := [.data, .handle, .pinned, .pinned], laidTests := true, laidLooks := .later }
def TermLiteralsCardSaid : Prop := Claim7.holds Tryz.pinned (.plain (OpenSpec.ofChange termLiteralsSpec)) termLiteralsCard

/-- THE TIED CARD OF 'trinelaw.TermBack'. -/
def termBackCard : Claim7 := { stood := { row := termBackRow, standIns := [], harness := (true, "448905398bea572080513209855088e8a0b29b0eb9686a2afd137c9146c54420"), looks := true }, kinds := [], alts := [], laidByText := true, laidKinds := [.data, .handle, .pinned, .pinned], laidTests := true, laidLooks := .later }
def TermBackCardSaid : Prop := Claim7.holds Tryz.pinned (.plain (OpenSpec.ofChange termBackSpec)) termBackCard

/-- THE TIED CARD OF 'trinelaw.LineReads'. -/
def lineReadsCard : Claim7 := { stood := { row := lineReadsRow, standIns := [], harness := (true, "448905398bea572080513209855088e8a0b29b0eb9686a2afd137c9146c54420"), looks := true }, kinds := [], alts := [], laidByText := true, laidKinds := [.data, .handle, .pinned, .pinned], laidTests := true, laidLooks := .later }
def LineReadsCardSaid : Prop := Claim7.holds Tryz.pinned (.plain (OpenSpec.ofChange lineReadsSpec)) lineReadsCard

/-- THE TIED CARD OF 'trinelaw.LineSets'. -/
def lineSetsCard : Claim7 := { stood := { row := lineSetsRow, standIns := [], harness := (true, "448905398bea572080513209855088e8a0b29b0eb9686a2afd137c9146c54420"), looks := true }, kinds := [], alts := [], laidByText := true, laidKinds := [.data, .handle, .pinned, .pinned], laidTests := true, laidLooks := .later }
def LineSetsCardSaid : Prop := Claim7.holds Tryz.pinned (.plain (OpenSpec.ofChange lineSetsSpec)) lineSetsCard

/-- THE TIED CARD OF 'trinelaw.TurtleReads'. -/
def turtleReadsCard : Claim7 := { stood := { row := turtleReadsRow, standIns := [], harness := (true, "448905398bea572080513209855088e8a0b29b0eb9686a2afd137c9146c54420"), looks := true }, kinds := [], alts := [], laidByText := true, laidKinds := [.data, .data, .data, .data, .handle, .pinned, .pinned], laidTests := true, laidLooks := .later }
def TurtleReadsCardSaid : Prop := Claim7.holds Tryz.pinned (.plain (OpenSpec.ofChange turtleReadsSpec)) turtleReadsCard

/-- THE SECOND FORM's CARD OF 'trinelaw.TermReads'. -/
def termReadsUptoCard : Claim7 := { stood := { row := termReadsUptoRow, standIns := [], harness := (true, "448905398bea572080513209855088e8a0b29b0eb9686a2afd137c9146c54420"), looks := true }, kinds := [], alts := [], laidByText := true, laidKinds := [.data, .handle, .pinned, .pinned], laidTests := true, laidLooks := .later }
def TermReadsUptoCardSaid : Prop := Claim7.holds Tryz.pinned (.plain (OpenSpec.upto termReadsSpec)) termReadsUptoCard

/-- THE SECOND FORM's CARD OF 'trinelaw.TermKinds'. -/
def termKindsUptoCard : Claim7 := { stood := { row := termKindsUptoRow, standIns := [], harness := (true, "448905398bea572080513209855088e8a0b29b0eb9686a2afd137c9146c54420"), looks := true }, kinds := [], alts := [], laidByText := true, laidKinds := [.data, .pinned, .pinned], laidTests := true, laidLooks := .later }
def TermKindsUptoCardSaid : Prop := Claim7.holds Tryz.pinned (.plain (OpenSpec.upto termKindsSpec)) termKindsUptoCard

/-- THE SECOND FORM's CARD OF 'trinelaw.TermLiterals'. -/
def termLiteralsUptoCard : Claim7 := { stood := { row := termLiteralsUptoRow, standIns := [], harness := (true, "448905398bea572080513209855088e8a0b29b0eb9686a2afd137c9146c54420"), looks := true }, kinds := [], alts := [], laidByText := true, laidKinds := [.data, .handle, .pinned, .pinned], laidTests := true, laidLooks := .later }
def TermLiteralsUptoCardSaid : Prop := Claim7.holds Tryz.pinned (.plain (OpenSpec.upto termLiteralsSpec)) termLiteralsUptoCard

/-- THE SECOND FORM's CARD OF 'trinelaw.TermBack'. -/
def termBackUptoCard : Claim7 := { stood := { row := termBackUptoRow, standIns := [], harness := (true, "448905398bea572080513209855088e8a0b29b0eb9686a2afd137c9146c54420"), looks := true }, kinds := [], alts := [], laidByText := true, laidKinds := [.data, .handle, .pinned, .pinned], laidTests := true, laidLooks := .later }
def TermBackUptoCardSaid : Prop := Claim7.holds Tryz.pinned (.plain (OpenSpec.upto termBackSpec)) termBackUptoCard

/-- THE SECOND FORM's CARD OF 'trinelaw.LineReads'. -/
def lineReadsUptoCard : Claim7 := { stood := { row := lineReadsUptoRow, standIns := [], harness := (true, "448905398bea572080513209855088e8a0b29b0eb9686a2afd137c9146c54420"), looks := true }, kinds := [], alts := [], laidByText := true, laidKinds := [.data, .handle, .pinned, .pinned], laidTests := true, laidLooks := .later }
def LineReadsUptoCardSaid : Prop := Claim7.holds Tryz.pinned (.plain (OpenSpec.upto lineReadsSpec)) lineReadsUptoCard

/-- THE SECOND FORM's CARD OF 'trinelaw.LineSets'. -/
def lineSetsUptoCard : Claim7 := { stood := { row := lineSetsUptoRow, standIns := [], harness := (true, "448905398bea572080513209855088e8a0b29b0eb9686a2afd137c9146c54420"), looks := true }, kinds := [], alts := [], laidByText := true, laidKinds := [.data, .handle, .pinned, .pinned], laidTests := true, laidLooks := .later }
def LineSetsUptoCardSaid : Prop := Claim7.holds Tryz.pinned (.plain (OpenSpec.upto lineSetsSpec)) lineSetsUptoCard

/-- THE SECOND FORM's CARD OF 'trinelaw.TurtleReads'. -/
def turtleReadsUptoCard : Claim7 := { stood := { row := turtleReadsUptoRow, standIns := [], harness := (true, "448905398bea572080513209855088e8a0b29b0eb9686a2afd137c9146c54420"), looks := true }, kinds := [], alts := [], laidByText := true, laidKinds := [.data, .data, .data, .data, .handle, .pinned, .pinned], laidTests := true, laidLooks := .later }
def TurtleReadsUptoCardSaid : Prop := Claim7.holds Tryz.pinned (.plain (OpenSpec.upto turtleReadsSpec)) turtleReadsUptoCard
end Rows
end Go.Proofs.YtnffjoipinhojaaGreatDoor
