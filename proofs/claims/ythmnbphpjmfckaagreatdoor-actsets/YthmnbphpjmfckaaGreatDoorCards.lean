/-
  DERIVED. GIVEN WITH THE SEED: THE CARDS: each row of YthmnbphpjmfckaaGreatDoorRows.lean that lists a variable, with what it lists TIED to the program's text (the seventh form; the later family's looks); each row that meets fmt, with fmt's text TOLD by the authors' own Lean function (tested against real Go, not proved from fmt's source: count such statements apart). THE CARD IS WHAT COUNTS. Prove the row's statement (the work); the ties are given (YthmnbphpjmfckaaGreatDoorTie.lean); close each card by the builder's one call (the guide's Derived/Test/ToyasCard.lean, 'card_holds'). Laid BY PROGRAM, IN A SANDBOX (cutbox-door.mjs). By AI agents, Wed Nov 11 2026. No macro, syntax, notation, axiom, sorry.
-/
import Derived.Test.YthmnbphpjmfckaaGreatDoorRows
import GoSem.ClaimSeven
namespace Go.Proofs.YthmnbphpjmfckaaGreatDoor
namespace Rows

/-- THE TIED CARD OF 'vedettelaw11.ActTells'. -/
def actTellsCard : Claim7 := { stood := { row := actTellsRow, standIns := [], harness := (true, "1919ae3e01ed290595ecd728dedadbf3595aed4e12085d5cd48cf18869062282"), looks := false }, kinds := [], alts := [], laidByText := true, laidKinds := [.data], laidTests := true, laidLooks := .later }
def ActTellsCardSaid : Prop := Claim7.holds Tryz.pinned (.plain (OpenSpec.ofChange actTellsSpec)) actTellsCard

/-- THE TIED CARD OF 'vedettelaw11.ActDoes'. -/
def actDoesCard : Claim7 := { stood := { row := actDoesRow, standIns := [], harness := (true, "1919ae3e01ed290595ecd728dedadbf3595aed4e12085d5cd48cf18869062282"), looks := false }, kinds := [], alts := [], laidByText := true, laidKinds := [.data], laidTests := true, laidLooks := .later }
def ActDoesCardSaid : Prop := Claim7.holds Tryz.pinned (.plain (OpenSpec.ofChange actDoesSpec)) actDoesCard

/-- THE TIED CARD OF 'vedettelaw11.ActCells'. -/
def actCellsCard : Claim7 := { stood := { row := actCellsRow, standIns := [], harness := (true, "1919ae3e01ed290595ecd728dedadbf3595aed4e12085d5cd48cf18869062282"), looks := false }, kinds := [], alts := [], laidByText := true, laidKinds := [.data], laidTests := true, laidLooks := .later }
def ActCellsCardSaid : Prop := Claim7.holds Tryz.pinned (.plain (OpenSpec.ofChange actCellsSpec)) actCellsCard

/-- THE TIED CARD OF 'vedettelaw11.ActTwice'. -/
def actTwiceCard : Claim7 := { stood := { row := actTwiceRow, standIns := [], harness := (true, "1919ae3e01ed290595ecd728dedadbf3595aed4e12085d5cd48cf18869062282"), looks := false }, kinds := [], alts := [], laidByText := true, laidKinds := [.data], laidTests := true, laidLooks := .later }
def ActTwiceCardSaid : Prop := Claim7.holds Tryz.pinned (.plain (OpenSpec.ofChange actTwiceSpec)) actTwiceCard

/-- THE TIED CARD OF 'vedettelaw11.ActSets'. -/
def actSetsCard : Claim7 := { stood := { row := actSetsRow, standIns := [], harness := (true, "1919ae3e01ed290595ecd728dedadbf3595aed4e12085d5cd48cf18869062282"), looks := false }, kinds := [], alts := [], laidByText := true, laidKinds := [.data], laidTests := true, laidLooks := .later }
def ActSetsCardSaid : Prop := Claim7.holds Tryz.pinned (.plain (OpenSpec.ofChange actSetsSpec)) actSetsCard

/-- THE SECOND FORM's CARD OF 'vedettelaw11.ActTells'. -/
def actTellsUptoCard : Claim7 := { stood := { row := actTellsUptoRow, standIns := [], harness := (true, "1919ae3e01ed290595ecd728dedadbf3595aed4e12085d5cd48cf18869062282"), looks := false }, kinds := [], alts := [], laidByText := true, laidKinds := [.data], laidTests := true, laidLooks := .later }
def ActTellsUptoCardSaid : Prop := Claim7.holds Tryz.pinned (.plain (OpenSpec.upto actTellsSpec)) actTellsUptoCard

/-- THE SECOND FORM's CARD OF 'vedettelaw11.ActDoes'. -/
def actDoesUptoCard : Claim7 := { stood := { row := actDoesUptoRow, standIns := [], harness := (true, "1919ae3e01ed290595ecd728dedadbf3595aed4e12085d5cd48cf18869062282"), looks := false }, kinds := [], alts := [], laidByText := true, laidKinds := [.data], laidTests := true, laidLooks := .later }
def ActDoesUptoCardSaid : Prop := Claim7.holds Tryz.pinned (.plain (OpenSpec.upto actDoesSpec)) actDoesUptoCard

/-- THE SECOND FORM's CARD OF 'vedettelaw11.ActCells'. -/
def actCellsUptoCard : Claim7 := { stood := { row := actCellsUptoRow, standIns := [], harness := (true, "1919ae3e01ed290595ecd728dedadbf3595aed4e12085d5cd48cf18869062282"), looks := false }, kinds := [], alts := [], laidByText := true, laidKinds := [.data], laidTests := true, laidLooks := .later }
def ActCellsUptoCardSaid : Prop := Claim7.holds Tryz.pinned (.plain (OpenSpec.upto actCellsSpec)) actCellsUptoCard

/-- THE SECOND FORM's CARD OF 'vedettelaw11.ActTwice'. -/
def actTwiceUptoCard : Claim7 := { stood := { row := actTwiceUptoRow, standIns := [], harness := (true, "1919ae3e01ed290595ecd728dedadbf3595aed4e12085d5cd48cf18869062282"), looks := false }, kinds := [], alts := [], laidByText := true, laidKinds := [.data], laidTests := true, laidLooks := .later }
def ActTwiceUptoCardSaid : Prop := Claim7.holds Tryz.pinned (.plain (OpenSpec.upto actTwiceSpec)) actTwiceUptoCard

/-- THE SECOND FORM's CARD OF 'vedettelaw11.ActSets'. -/
def actSetsUptoCard : Claim7 := { stood := { row := actSetsUptoRow, standIns := [], harness := (true, "1919ae3e01ed290595ecd728dedadbf3595aed4e12085d5cd48cf18869062282"), looks := false }, kinds := [], alts := [], laidByText := true, laidKinds := [.data], laidTests := true, laidLooks := .later }
def ActSetsUptoCardSaid : Prop := Claim7.holds Tryz.pinned (.plain (OpenSpec.upto actSetsSpec)) actSetsUptoCard
end Rows
end Go.Proofs.YthmnbphpjmfckaaGreatDoor
