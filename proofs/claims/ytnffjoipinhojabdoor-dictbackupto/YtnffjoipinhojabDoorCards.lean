/-
  DERIVED. GIVEN WITH THE SEED: THE CARDS: each row of YtnffjoipinhojabDoorRows.lean that lists a variable, with what it lists TIED to the program's text (the seventh form; the later family's looks); each row that meets fmt, with fmt's text TOLD by the authors' own Lean function (tested against real Go, not proved from fmt's source: count such statements apart). THE CARD IS WHAT COUNTS. Prove the row's statement (the work); the ties are given (YtnffjoipinhojabDoorTie.lean); close each card by the builder's one call (the guide's Derived/Test/ToyasCard.lean, 'card_holds'). Laid BY PROGRAM, IN A SANDBOX (cutbox-door.mjs). By AI agents, Wed Nov 11 2026. No macro, syntax, notation, axiom, sorry.
-/
import Derived.Test.YtnffjoipinhojabDoorRows
import GoSem.ClaimSeven
namespace Go.Proofs.YtnffjoipinhojabDoor
namespace Rows

/-- THE TIED CARD OF 'trinelaw.DictBuilds'. -/
def dictBuildsCard : Claim7 := { stood := { row := dictBuildsRow, standIns := [], harness := (true, "614dbf878af49db28d215d88a9897efd7b270511c10966aabd2ccd4a93985720"), looks := true }, kinds := [], alts := [], laidByText := true, laidKinds := [.handle], laidTests := true, laidLooks := .later }
def DictBuildsCardSaid : Prop := Claim7.holds Tryd.pinned (.plain (OpenSpec.ofChange dictBuildsSpec)) dictBuildsCard

/-- THE TIED CARD OF 'trinelaw.DictOpens'. -/
def dictOpensCard : Claim7 := { stood := { row := dictOpensRow, standIns := [], harness := (true, "614dbf878af49db28d215d88a9897efd7b270511c10966aabd2ccd4a93985720"), looks := true }, kinds := [], alts := [], laidByText := true, laidKinds := [.handle], laidTests := true, laidLooks := .later }
def DictOpensCardSaid : Prop := Claim7.holds Tryd.pinned (.plain (OpenSpec.ofChange dictOpensSpec)) dictOpensCard

/-- THE TIED CARD OF 'trinelaw.DictBack'. -/
def dictBackCard : Claim7 := { stood := { row := dictBackRow, standIns := [], harness := (true, "614dbf878af49db28d215d88a9897efd7b270511c10966aabd2ccd4a93985720"), looks := true }, kinds := [], alts := [], laidByText := true, laidKinds := [.handle], laidTests := true, laidLooks := .later }
def DictBackCardSaid : Prop := Claim7.holds Tryd.pinned (.plain (OpenSpec.ofChange dictBackSpec)) dictBackCard

/-- THE SECOND FORM's CARD OF 'trinelaw.DictBuilds'. -/
def dictBuildsUptoCard : Claim7 := { stood := { row := dictBuildsUptoRow, standIns := [], harness := (true, "614dbf878af49db28d215d88a9897efd7b270511c10966aabd2ccd4a93985720"), looks := true }, kinds := [], alts := [], laidByText := true, laidKinds := [.handle], laidTests := true, laidLooks := .later }
def DictBuildsUptoCardSaid : Prop := Claim7.holds Tryd.pinned (.plain (OpenSpec.upto dictBuildsSpec)) dictBuildsUptoCard

/-- THE SECOND FORM's CARD OF 'trinelaw.DictOpens'. -/
def dictOpensUptoCard : Claim7 := { stood := { row := dictOpensUptoRow, standIns := [], harness := (true, "614dbf878af49db28d215d88a9897efd7b270511c10966aabd2ccd4a93985720"), looks := true }, kinds := [], alts := [], laidByText := true, laidKinds := [.handle], laidTests := true, laidLooks := .later }
def DictOpensUptoCardSaid : Prop := Claim7.holds Tryd.pinned (.plain (OpenSpec.upto dictOpensSpec)) dictOpensUptoCard

/-- THE SECOND FORM's CARD OF 'trinelaw.DictBack'. -/
def dictBackUptoCard : Claim7 := { stood := { row := dictBackUptoRow, standIns := [], harness := (true, "614dbf878af49db28d215d88a9897efd7b270511c10966aabd2ccd4a93985720"), looks := true }, kinds := [], alts := [], laidByText := true, laidKinds := [.handle], laidTests := true, laidLooks := .later }
def DictBackUptoCardSaid : Prop := Claim7.holds Tryd.pinned (.plain (OpenSpec.upto dictBackSpec)) dictBackUptoCard
end Rows
end Go.Proofs.YtnffjoipinhojabDoor
