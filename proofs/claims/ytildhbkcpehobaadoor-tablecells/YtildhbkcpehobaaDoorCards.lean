/-
  DERIVED. GIVEN WITH THE SEED: THE CARDS: each row of YtildhbkcpehobaaDoorRows.lean that lists a variable, with what it lists TIED to the program's text (the seventh form; the later family's looks); each row that meets fmt, with fmt's text TOLD by the authors' own Lean function (tested against real Go, not proved from fmt's source: count such statements apart). THE CARD IS WHAT COUNTS. Prove the row's statement (the work); the ties are given (YtildhbkcpehobaaDoorTie.lean); close each card by the builder's one call (the guide's Derived/Test/ToyasCard.lean, 'card_holds'). Laid BY PROGRAM, IN A SANDBOX (cutbox-door.mjs). By AI agents, Wed Nov 11 2026. No macro, syntax, notation, axiom, sorry.
-/
import Derived.Test.YtildhbkcpehobaaDoorRows
import GoSem.ClaimSeven
namespace Go.Proofs.YtildhbkcpehobaaDoor
namespace Rows

/-- THE TIED CARD OF 'vedettelaw9.TableCells'. -/
def tableCellsCard : Claim7 := { stood := { row := tableCellsRow, standIns := [], harness := (true, "4d1cb17433c6e5fb01383cd22658f0a672d33ddc86b52a01092985a336b79d3d"), looks := true }, kinds := [], alts := [], laidByText := true, laidKinds := [.data], laidTests := true, laidLooks := .later }
def TableCellsCardSaid : Prop := Claim7.holds Tryd.pinned (.plain (OpenSpec.ofChange tableCellsSpec)) tableCellsCard

/-- THE TIED CARD OF 'vedettelaw9.TableMoves'. -/
def tableMovesCard : Claim7 := { stood := { row := tableMovesRow, standIns := [], harness := (true, "4d1cb17433c6e5fb01383cd22658f0a672d33ddc86b52a01092985a336b79d3d"), looks := true }, kinds := [], alts := [], laidByText := true, laidKinds := [.data], laidTests := true, laidLooks := .later }
def TableMovesCardSaid : Prop := Claim7.holds Tryd.pinned (.plain (OpenSpec.ofChange tableMovesSpec)) tableMovesCard

/-- THE TIED CARD OF 'vedettelaw9.TableFull'. -/
def tableFullCard : Claim7 := { stood := { row := tableFullRow, standIns := [], harness := (true, "4d1cb17433c6e5fb01383cd22658f0a672d33ddc86b52a01092985a336b79d3d"), looks := true }, kinds := [], alts := [], laidByText := true, laidKinds := [.data], laidTests := true, laidLooks := .later }
def TableFullCardSaid : Prop := Claim7.holds Tryd.pinned (.plain (OpenSpec.ofChange tableFullSpec)) tableFullCard

/-- THE SECOND FORM's CARD OF 'vedettelaw9.TableCells'. -/
def tableCellsUptoCard : Claim7 := { stood := { row := tableCellsUptoRow, standIns := [], harness := (true, "4d1cb17433c6e5fb01383cd22658f0a672d33ddc86b52a01092985a336b79d3d"), looks := true }, kinds := [], alts := [], laidByText := true, laidKinds := [.data], laidTests := true, laidLooks := .later }
def TableCellsUptoCardSaid : Prop := Claim7.holds Tryd.pinned (.plain (OpenSpec.upto tableCellsSpec)) tableCellsUptoCard

/-- THE SECOND FORM's CARD OF 'vedettelaw9.TableMoves'. -/
def tableMovesUptoCard : Claim7 := { stood := { row := tableMovesUptoRow, standIns := [], harness := (true, "4d1cb17433c6e5fb01383cd22658f0a672d33ddc86b52a01092985a336b79d3d"), looks := true }, kinds := [], alts := [], laidByText := true, laidKinds := [.data], laidTests := true, laidLooks := .later }
def TableMovesUptoCardSaid : Prop := Claim7.holds Tryd.pinned (.plain (OpenSpec.upto tableMovesSpec)) tableMovesUptoCard

/-- THE SECOND FORM's CARD OF 'vedettelaw9.TableFull'. -/
def tableFullUptoCard : Claim7 := { stood := { row := tableFullUptoRow, standIns := [], harness := (true, "4d1cb17433c6e5fb01383cd22658f0a672d33ddc86b52a01092985a336b79d3d"), looks := true }, kinds := [], alts := [], laidByText := true, laidKinds := [.data], laidTests := true, laidLooks := .later }
def TableFullUptoCardSaid : Prop := Claim7.holds Tryd.pinned (.plain (OpenSpec.upto tableFullSpec)) tableFullUptoCard
end Rows
end Go.Proofs.YtildhbkcpehobaaDoor
