/-
  DERIVED. GIVEN WITH THE SEED: THE CARDS: each row of YtpedngbjpbeanaaDoorRows.lean that lists a variable, with what it lists TIED to the program's text (the seventh form; the later family's looks); each row that meets fmt, with fmt's text TOLD by the authors' own Lean function (tested against real Go, not proved from fmt's source: count such statements apart). THE CARD IS WHAT COUNTS. Prove the row's statement (the work); the ties are given (YtpedngbjpbeanaaDoorTie.lean); close each card by the builder's one call (the guide's Derived/Test/ToyasCard.lean, 'card_holds'). Laid BY PROGRAM, IN A SANDBOX (cutbox-door.mjs). By AI agents, Wed Nov 11 2026. No macro, syntax, notation, axiom, sorry.
-/
import Derived.Test.YtpedngbjpbeanaaDoorRows
import GoSem.ClaimSeven
namespace Go.Proofs.YtpedngbjpbeanaaDoor
namespace Rows

/-- THE TIED CARD OF 'vedettelaw17.NoteBack'. -/
def noteBackCard : Claim7 := { stood := { row := noteBackRow, standIns := [], harness := (true, "3c6d20aca5cfe6d49a28b3149d252bfc9cda9008a1911849aadb7b82cd662cd3"), looks := false }, kinds := [], alts := [], laidByText := true, laidKinds := [.data], laidTests := true, laidLooks := .later }
def NoteBackCardSaid : Prop := Claim7.holds Tryd.pinned (.plain (OpenSpec.ofChange noteBackSpec)) noteBackCard

/-- THE TIED CARD OF 'vedettelaw17.NoteSpoils'. -/
def noteSpoilsCard : Claim7 := { stood := { row := noteSpoilsRow, standIns := [], harness := (true, "3c6d20aca5cfe6d49a28b3149d252bfc9cda9008a1911849aadb7b82cd662cd3"), looks := false }, kinds := [], alts := [], laidByText := true, laidKinds := [.data], laidTests := true, laidLooks := .later }
def NoteSpoilsCardSaid : Prop := Claim7.holds Tryd.pinned (.plain (OpenSpec.ofChange noteSpoilsSpec)) noteSpoilsCard

/-- THE TIED CARD OF 'vedettelaw17.NoteCells'. -/
def noteCellsCard : Claim7 := { stood := { row := noteCellsRow, standIns := [], harness := (true, "3c6d20aca5cfe6d49a28b3149d252bfc9cda9008a1911849aadb7b82cd662cd3"), looks := false }, kinds := [], alts := [], laidByText := true, laidKinds := [.data], laidTests := true, laidLooks := .later }
def NoteCellsCardSaid : Prop := Claim7.holds Tryd.pinned (.plain (OpenSpec.ofChange noteCellsSpec)) noteCellsCard

/-- THE SECOND FORM's CARD OF 'vedettelaw17.NoteBack'. -/
def noteBackUptoCard : Claim7 := { stood := { row := noteBackUptoRow, standIns := [], harness := (true, "3c6d20aca5cfe6d49a28b3149d252bfc9cda9008a1911849aadb7b82cd662cd3"), looks := false }, kinds := [], alts := [], laidByText := true, laidKinds := [.data], laidTests := true, laidLooks := .later }
def NoteBackUptoCardSaid : Prop := Claim7.holds Tryd.pinned (.plain (OpenSpec.upto noteBackSpec)) noteBackUptoCard

/-- THE SECOND FORM's CARD OF 'vedettelaw17.NoteSpoils'. -/
def noteSpoilsUptoCard : Claim7 := { stood := { row := noteSpoilsUptoRow, standIns := [], harness := (true, "3c6d20aca5cfe6d49a28b3149d252bfc9cda9008a1911849aadb7b82cd662cd3"), looks := false }, kinds := [], alts := [], laidByText := true, laidKinds := [.data], laidTests := true, laidLooks := .later }
def NoteSpoilsUptoCardSaid : Prop := Claim7.holds Tryd.pinned (.plain (OpenSpec.upto noteSpoilsSpec)) noteSpoilsUptoCard

/-- THE SECOND FORM's CARD OF 'vedettelaw17.NoteCells'. -/
def noteCellsUptoCard : Claim7 := { stood := { row := noteCellsUptoRow, standIns := [], harness := (true, "3c6d20aca5cfe6d49a28b3149d252bfc9cda9008a1911849aadb7b82cd662cd3"), looks := false }, kinds := [], alts := [], laidByText := true, laidKinds := [.data], laidTests := true, laidLooks := .later }
def NoteCellsUptoCardSaid : Prop := Claim7.holds Tryd.pinned (.plain (OpenSpec.upto noteCellsSpec)) noteCellsUptoCard
end Rows
end Go.Proofs.YtpedngbjpbeanaaDoor
