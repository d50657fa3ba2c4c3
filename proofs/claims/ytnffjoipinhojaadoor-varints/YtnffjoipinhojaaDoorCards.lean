/-
  DERIVED. GIVEN WITH THE SEED: THE CARDS: each row of YtnffjoipinhojaaDoorRows.lean that lists a variable, with what it lists TIED to the program's text (the seventh form; the later family's looks); each row that meets fmt, with fmt's text TOLD by the authors' own Lean function (tested against real Go, not proved from fmt's source: count such statements apart). THE CARD IS WHAT COUNTS. Prove the row's statement (the work); the ties are given (YtnffjoipinhojaaDoorTie.lean); close each card by the builder's one call (the guide's Derived/Test/ToyasCard.lean, 'card_holds'). Laid BY PROGRAM, IN A SANDBOX (cutbox-door.mjs). By AI agents, Wed Nov 11 2026. No macro, syntax, notation, axiom, sorry.
-/
import Derived.Test.YtnffjoipinhojaaDoorRows
import GoSem.ClaimSeven
namespace Go.Proofs.YtnffjoipinhojaaDoor
namespace Rows

/-- THE TIED CARD OF 'trinelaw.Varints'. -/
def varintsCard : Claim7 := { stood := { row := varintsRow, standIns := [], harness := (true, "10066d6860fcc7ba766dee11dca06a2ae54f5a82530cbf08d3188e0ac317c0e9"), looks := true }, kinds := [], alts := [], laidByText := true, laidKinds := [.handle], laidTests := true, laidLooks := .later }
def VarintsCardSaid : Prop := Claim7.holds Tryd.pinned (.plain (OpenSpec.ofChange varintsSpec)) varintsCard

/-- THE TIED CARD OF 'trinelaw.Packs'. -/
def packsCard : Claim7 := { stood := { row := packsRow, standIns := [], harness := (true, "10066d6860fcc7ba766dee11dca06a2ae54f5a82530cbf08d3188e0ac317c0e9"), looks := true }, kinds := [], alts := [], laidByText := true, laidKinds := [.handle], laidTests := true, laidLooks := .later }
def PacksCardSaid : Prop := Claim7.holds Tryd.pinned (.plain (OpenSpec.ofChange packsSpec)) packsCard

/-- THE TIED CARD OF 'trinelaw.Rows'. -/
def rowsCard : Claim7 := { stood := { row := rowsRow, standIns := [], harness := (true, "10066d6860fcc7ba766dee11dca06a2ae54f5a82530cbf08d3188e0ac317c0e9"), looks := true }, kinds := [], alts := [], laidByText := true, laidKinds := [.data, .handle], laidTests := true, laidLooks := .later }
def RowsCardSaid : Prop := Claim7.holds Tryd.pinned (.plain (OpenSpec.ofChange rowsSpec)) rowsCard

/-- THE TIED CARD OF 'trinelaw.Ranks'. -/
def ranksCard : Claim7 := { stood := { row := ranksRow, standIns := [], harness := (true, "10066d6860fcc7ba766dee11dca06a2ae54f5a82530cbf08d3188e0ac317c0e9"), looks := true }, kinds := [], alts := [], laidByText := true, laidKinds := [.data, .handle], laidTests := true, laidLooks := .later }
def RanksCardSaid : Prop := Claim7.holds Tryd.pinned (.plain (OpenSpec.ofChange ranksSpec)) ranksCard

/-- THE SECOND FORM's CARD OF 'trinelaw.Varints'. -/
def varintsUptoCard : Claim7 := { stood := { row := varintsUptoRow, standIns := [], harness := (true, "10066d6860fcc7ba766dee11dca06a2ae54f5a82530cbf08d3188e0ac317c0e9"), looks := true }, kinds := [], alts := [], laidByText := true, laidKinds := [.handle], laidTests := true, laidLooks := .later }
def VarintsUptoCardSaid : Prop := Claim7.holds Tryd.pinned (.plain (OpenSpec.upto varintsSpec)) varintsUptoCard

/-- THE SECOND FORM's CARD OF 'trinelaw.Packs'. -/
def packsUptoCard : Claim7 := { stood := { row := packsUptoRow, standIns := [], harness := (true, "10066d6860fcc7ba766dee11dca06a2ae54f5a82530cbf08d3188e0ac317c0e9"), looks := true }, kinds := [], alts := [], laidByText := true, laidKinds := [.handle], laidTests := true, laidLooks := .later }
def PacksUptoCardSaid : Prop := Claim7.holds Tryd.pinned (.plain (OpenSpec.upto packsSpec)) packsUptoCard

/-- THE SECOND FORM's CARD OF 'trinelaw.Rows'. -/
def rowsUptoCard : Claim7 := { stood := { row := rowsUptoRow, standIns := [], harness := (true, "10066d6860fcc7ba766dee11dca06a2ae54f5a82530cbf08d3188e0ac317c0e9"), looks := true }, kinds := [], alts := [], laidByText := true, laidKinds := [.data, .handle], laidTests := true, laidLooks := .later }
def RowsUptoCardSaid : Prop := Claim7.holds Tryd.pinned (.plain (OpenSpec.upto rowsSpec)) rowsUptoCard

/-- THE SECOND FORM's CARD OF 'trinelaw.Ranks'. -/
def ranksUptoCard : Claim7 := { stood := { row := ranksUptoRow, standIns := [], harness := (true, "10066d6860fcc7ba766dee11dca06a2ae54f5a82530cbf08d3188e0ac317c0e9"), looks := true }, kinds := [], alts := [], laidByText := true, laidKinds := [.data, .handle], laidTests := true, laidLooks := .later }
def RanksUptoCardSaid : Prop := Claim7.holds Tryd.pinned (.plain (OpenSpec.upto ranksSpec)) ranksUptoCard
end Rows
end Go.Proofs.YtnffjoipinhojaaDoor
