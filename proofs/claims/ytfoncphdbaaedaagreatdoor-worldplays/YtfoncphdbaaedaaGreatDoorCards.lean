/-
  DERIVED. GIVEN WITH THE SEED: THE CARDS: each row of YtfoncphdbaaedaaGreatDoorRows.lean that lists a variable, with what it lists TIED to the program's text (the seventh form; the later family's looks); each row that meets fmt, with fmt's text TOLD by the authors' own Lean function (tested against real Go, not proved from fmt's source: count such statements apart). THE CARD IS WHAT COUNTS. Prove the row's statement (the work); the ties are given (YtfoncphdbaaedaaGreatDoorTie.lean); close each card by the builder's one call (the guide's Derived/Test/ToyasCard.lean, 'card_holds'). Laid BY PROGRAM, IN A SANDBOX (cutbox-door.mjs). By AI agents, Wed Nov 11 2026. No macro, syntax, notation, axiom, sorry.
-/
import Derived.Test.YtfoncphdbaaedaaGreatDoorRows
import GoSem.ClaimSeven
namespace Go.Proofs.YtfoncphdbaaedaaGreatDoor
namespace Rows

/-- THE TIED CARD OF 'vedettelaw12.WorldPlays'. -/
def worldPlaysCard : Claim7 := { stood := { row := worldPlaysRow, standIns := [], harness := (true, "dedd6cb34770d93af0edbf2928e7be5c3a09ebc128949375eb309686618b9df1"), looks := true }, kinds := [], alts := [], laidByText := true, laidKinds := [.data], laidTests := true, laidLooks := .later }
def WorldPlaysCardSaid : Prop := Claim7.holds Tryz.pinned (.plain (OpenSpec.ofChange worldPlaysSpec)) worldPlaysCard

/-- THE TIED CARD OF 'vedettelaw12.WorldApart'. -/
def worldApartCard : Claim7 := { stood := { row := worldApartRow, standIns := [], harness := (true, "dedd6cb34770d93af0edbf2928e7be5c3a09ebc128949375eb309686618b9df1"), looks := true }, kinds := [], alts := [], laidByText := true, laidKinds := [.data], laidTests := true, laidLooks := .later }
def WorldApartCardSaid : Prop := Claim7.holds Tryz.pinned (.plain (OpenSpec.ofChange worldApartSpec)) worldApartCard

/-- THE TIED CARD OF 'vedettelaw12.WorldFree'. -/
def worldFreeCard : Claim7 := { stood := { row := worldFreeRow, standIns := [], harness := (true, "dedd6cb34770d93af0edbf2928e7be5c3a09ebc128949375eb309686618b9df1"), looks := true }, kinds := [], alts := [], laidByText := true, laidKinds := [.data], laidTests := true, laidLooks := .later }
def WorldFreeCardSaid : Prop := Claim7.holds Tryz.pinned (.plain (OpenSpec.ofChange worldFreeSpec)) worldFreeCard

/-- THE TIED CARD OF 'vedettelaw12.WorldLast'. -/
def worldLastCard : Claim7 := { stood := { row := worldLastRow, standIns := [], harness := (true, "dedd6cb34770d93af0edbf2928e7be5c3a09ebc128949375eb309686618b9df1"), looks := true }, kinds := [], alts := [], laidByText := true, laidKinds := [.data], laidTests := true, laidLooks := .later }
def WorldLastCardSaid : Prop := Claim7.holds Tryz.pinned (.plain (OpenSpec.ofChange worldLastSpec)) worldLastCard

/-- THE SECOND FORM's CARD OF 'vedettelaw12.WorldPlays'. -/
def worldPlaysUptoCard : Claim7 := { stood := { row := worldPlaysUptoRow, standIns := [], harness := (true, "dedd6cb34770d93af0edbf2928e7be5c3a09ebc128949375eb309686618b9df1"), looks := true }, kinds := [], alts := [], laidByText := true, laidKinds := [.data], laidTests := true, laidLooks := .later }
def WorldPlaysUptoCardSaid : Prop := Claim7.holds Tryz.pinned (.plain (OpenSpec.upto worldPlaysSpec)) worldPlaysUptoCard

/-- THE SECOND FORM's CARD OF 'vedettelaw12.WorldApart'. -/
def worldApartUptoCard : Claim7 := { stood := { row := worldApartUptoRow, standIns := [], harness := (true, "dedd6cb34770d93af0edbf2928e7be5c3a09ebc128949375eb309686618b9df1"), looks := true }, kinds := [], alts := [], laidByText := true, laidKinds := [.data], laidTests := true, laidLooks := .later }
def WorldApartUptoCardSaid : Prop := Claim7.holds Tryz.pinned (.plain (OpenSpec.upto worldApartSpec)) worldApartUptoCard

/-- THE SECOND FORM's CARD OF 'vedettelaw12.WorldFree'. -/
def worldFreeUptoCard : Claim7 := { stood := { row := worldFreeUptoRow, standIns := [], harness := (true, "dedd6cb34770d93af0edbf2928e7be5c3a09ebc128949375eb309686618b9df1"), looks := true }, kinds := [], alts := [], laidByText := true, laidKinds := [.data], laidTests := true, laidLooks := .later }
def WorldFreeUptoCardSaid : Prop := Claim7.holds Tryz.pinned (.plain (OpenSpec.upto worldFreeSpec)) worldFreeUptoCard

/-- THE SECOND FORM's CARD OF 'vedettelaw12.WorldLast'. -/
def worldLastUptoCard : Claim7 := { stood := { row := worldLastUptoRow, standIns := [], harness := (true, "dedd6cb34770d93af0edbf2928e7be5c3a09ebc128949375eb309686618b9df1"), looks := true }, kinds := [], alts := [], laidByText := true, laidKinds := [.data], laidTests := true, laidLooks := .later }
def WorldLastUptoCardSaid : Prop := Claim7.holds Tryz.pinned (.plain (OpenSpec.upto worldLastSpec)) worldLastUptoCard
end Rows
end Go.Proofs.YtfoncphdbaaedaaGreatDoor
