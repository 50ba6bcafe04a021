/-
  DERIVED. GIVEN WITH THE SEED: THE CARDS: each row of YthhloefgncbifaaDoorRows.lean that lists a variable, with what it lists TIED to the program's text (the seventh form; the later family's looks); each row that meets fmt, with fmt's text TOLD by the authors' own Lean function (tested against real Go, not proved from fmt's source: count such statements apart). THE CARD IS WHAT COUNTS. Prove the row's statement (the work); the ties are given (YthhloefgncbifaaDoorTie.lean); close each card by the builder's one call (the guide's Derived/Test/ToyasCard.lean, 'card_holds'). Laid BY PROGRAM, IN A SANDBOX (cutbox-door.mjs). By AI agents, Wed Nov 11 2026. No macro, syntax, notation, axiom, sorry.
-/
import Derived.Test.YthhloefgncbifaaDoorRows
import GoSem.ClaimSeven
namespace Go.Proofs.YthhloefgncbifaaDoor
namespace Rows

/-- THE TIED CARD OF 'vedettelaw5.CellTells'. -/
def cellTellsCard : Claim7 := { stood := { row := cellTellsRow, standIns := [], harness := (true, "538d28736f568148dde0d0d35bcae49565480ca64308aa011f2f237717ab1407"), looks := false }, kinds := [], alts := [], laidByText := true, laidKinds := [.data], laidTests := true, laidLooks := .later }
def CellTellsCardSaid : Prop := Claim7.holds Tryd.pinned (.plain (OpenSpec.ofChange cellTellsSpec)) cellTellsCard

/-- THE TIED CARD OF 'vedettelaw5.CellWhole'. -/
def cellWholeCard : Claim7 := { stood := { row := cellWholeRow, standIns := [], harness := (true, "538d28736f568148dde0d0d35bcae49565480ca64308aa011f2f237717ab1407"), looks := false }, kinds := [], alts := [], laidByText := true, laidKinds := [.data], laidTests := true, laidLooks := .later }
def CellWholeCardSaid : Prop := Claim7.holds Tryd.pinned (.plain (OpenSpec.ofChange cellWholeSpec)) cellWholeCard

/-- THE TIED CARD OF 'vedettelaw5.CellNeighbours'. -/
def cellNeighboursCard : Claim7 := { stood := { row := cellNeighboursRow, standIns := [], harness := (true, "538d28736f568148dde0d0d35bcae49565480ca64308aa011f2f237717ab1407"), looks := false }, kinds := [], alts := [], laidByText := true, laidKinds := [.data], laidTests := true, laidLooks := .later }
def CellNeighboursCardSaid : Prop := Claim7.holds Tryd.pinned (.plain (OpenSpec.ofChange cellNeighboursSpec)) cellNeighboursCard

/-- THE TIED CARD OF 'vedettelaw5.CellCounts'. -/
def cellCountsCard : Claim7 := { stood := { row := cellCountsRow, standIns := [], harness := (true, "538d28736f568148dde0d0d35bcae49565480ca64308aa011f2f237717ab1407"), looks := false }, kinds := [], alts := [], laidByText := true, laidKinds := [.data], laidTests := true, laidLooks := .later }
def CellCountsCardSaid : Prop := Claim7.holds Tryd.pinned (.plain (OpenSpec.ofChange cellCountsSpec)) cellCountsCard

/-- THE SECOND FORM's CARD OF 'vedettelaw5.CellTells'. -/
def cellTellsUptoCard : Claim7 := { stood := { row := cellTellsUptoRow, standIns := [], harness := (true, "538d28736f568148dde0d0d35bcae49565480ca64308aa011f2f237717ab1407"), looks := false }, kinds := [], alts := [], laidByText := true, laidKinds := [.data], laidTests := true, laidLooks := .later }
def CellTellsUptoCardSaid : Prop := Claim7.holds Tryd.pinned (.plain (OpenSpec.upto cellTellsSpec)) cellTellsUptoCard

/-- THE SECOND FORM's CARD OF 'vedettelaw5.CellWhole'. -/
def cellWholeUptoCard : Claim7 := { stood := { row := cellWholeUptoRow, standIns := [], harness := (true, "538d28736f568148dde0d0d35bcae49565480ca64308aa011f2f237717ab1407"), looks := false }, kinds := [], alts := [], laidByText := true, laidKinds := [.data], laidTests := true, laidLooks := .later }
def CellWholeUptoCardSaid : Prop := Claim7.holds Tryd.pinned (.plain (OpenSpec.upto cellWholeSpec)) cellWholeUptoCard

/-- THE SECOND FORM's CARD OF 'vedettelaw5.CellNeighbours'. -/
def cellNeighboursUptoCard : Claim7 := { stood := { row := cellNeighboursUptoRow, standIns := [], harness := (true, "538d28736f568148dde0d0d35bcae49565480ca64308aa011f2f237717ab1407"), looks := false }, kinds := [], alts := [], laidByText := true, laidKinds := [.data], laidTests := true, laidLooks := .later }
def CellNeighboursUptoCardSaid : Prop := Claim7.holds Tryd.pinned (.plain (OpenSpec.upto cellNeighboursSpec)) cellNeighboursUptoCard

/-- THE SECOND FORM's CARD OF 'vedettelaw5.CellCounts'. -/
def cellCountsUptoCard : Claim7 := { stood := { row := cellCountsUptoRow, standIns := [], harness := (true, "538d28736f568148dde0d0d35bcae49565480ca64308aa011f2f237717ab1407"), looks := false }, kinds := [], alts := [], laidByText := true, laidKinds := [.data], laidTests := true, laidLooks := .later }
def CellCountsUptoCardSaid : Prop := Claim7.holds Tryd.pinned (.plain (OpenSpec.upto cellCountsSpec)) cellCountsUptoCard
end Rows
end Go.Proofs.YthhloefgncbifaaDoor
