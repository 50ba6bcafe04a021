/-
  DERIVED. GIVEN WITH THE SEED: THE CARDS: each row of YtlkphkpalckgnaaDoorRows.lean that lists a variable, with what it lists TIED to the program's text (the seventh form; the later family's looks); each row that meets fmt, with fmt's text TOLD by the authors' own Lean function (tested against real Go, not proved from fmt's source: count such statements apart). THE CARD IS WHAT COUNTS. Prove the row's statement (the work); the ties are given (YtlkphkpalckgnaaDoorTie.lean); close each card by the builder's one call (the guide's Derived/Test/ToyasCard.lean, 'card_holds'). Laid BY PROGRAM, IN A SANDBOX (cutbox-door.mjs). By AI agents, Wed Nov 11 2026. No macro, syntax, notation, axiom, sorry.
-/
import Derived.Test.YtlkphkpalckgnaaDoorRows
import GoSem.ClaimSeven
namespace Go.Proofs.YtlkphkpalckgnaaDoor
namespace Rows

/-- THE TIED CARD OF 'vedettelaw4.MortonTells'. -/
def mortonTellsCard : Claim7 := { stood := { row := mortonTellsRow, standIns := [], harness := (true, "88b875217eafa84c4995fd83a6614626f72f033578190a24a69d57d35766fa89"), looks := false }, kinds := [], alts := [], laidByText := true, laidKinds := [.data], laidTests := true, laidLooks := .later }
def MortonTellsCardSaid : Prop := Claim7.holds Tryd.pinned (.plain (OpenSpec.ofChange mortonTellsSpec)) mortonTellsCard

/-- THE TIED CARD OF 'vedettelaw4.MortonBack'. -/
def mortonBackCard : Claim7 := { stood := { row := mortonBackRow, standIns := [], harness := (true, "88b875217eafa84c4995fd83a6614626f72f033578190a24a69d57d35766fa89"), looks := false }, kinds := [], alts := [], laidByText := true, laidKinds := [.data], laidTests := true, laidLooks := .later }
def MortonBackCardSaid : Prop := Claim7.holds Tryd.pinned (.plain (OpenSpec.ofChange mortonBackSpec)) mortonBackCard

/-- THE TIED CARD OF 'vedettelaw4.MortonOrder'. -/
def mortonOrderCard : Claim7 := { stood := { row := mortonOrderRow, standIns := [], harness := (true, "88b875217eafa84c4995fd83a6614626f72f033578190a24a69d57d35766fa89"), looks := false }, kinds := [], alts := [], laidByText := true, laidKinds := [.data], laidTests := true, laidLooks := .later }
def MortonOrderCardSaid : Prop := Claim7.holds Tryd.pinned (.plain (OpenSpec.ofChange mortonOrderSpec)) mortonOrderCard

/-- THE SECOND FORM's CARD OF 'vedettelaw4.MortonTells'. -/
def mortonTellsUptoCard : Claim7 := { stood := { row := mortonTellsUptoRow, standIns := [], harness := (true, "88b875217eafa84c4995fd83a6614626f72f033578190a24a69d57d35766fa89"), looks := false }, kinds := [], alts := [], laidByText := true, laidKinds := [.data], laidTests := true, laidLooks := .later }
def MortonTellsUptoCardSaid : Prop := Claim7.holds Tryd.pinned (.plain (OpenSpec.upto mortonTellsSpec)) mortonTellsUptoCard

/-- THE SECOND FORM's CARD OF 'vedettelaw4.MortonBack'. -/
def mortonBackUptoCard : Claim7 := { stood := { row := mortonBackUptoRow, standIns := [], harness := (true, "88b875217eafa84c4995fd83a6614626f72f033578190a24a69d57d35766fa89"), looks := false }, kinds := [], alts := [], laidByText := true, laidKinds := [.data], laidTests := true, laidLooks := .later }
def MortonBackUptoCardSaid : Prop := Claim7.holds Tryd.pinned (.plain (OpenSpec.upto mortonBackSpec)) mortonBackUptoCard

/-- THE SECOND FORM's CARD OF 'vedettelaw4.MortonOrder'. -/
def mortonOrderUptoCard : Claim7 := { stood := { row := mortonOrderUptoRow, standIns := [], harness := (true, "88b875217eafa84c4995fd83a6614626f72f033578190a24a69d57d35766fa89"), looks := false }, kinds := [], alts := [], laidByText := true, laidKinds := [.data], laidTests := true, laidLooks := .later }
def MortonOrderUptoCardSaid : Prop := Claim7.holds Tryd.pinned (.plain (OpenSpec.upto mortonOrderSpec)) mortonOrderUptoCard
end Rows
end Go.Proofs.YtlkphkpalckgnaaDoor
