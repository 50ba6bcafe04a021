/-
  DERIVED. GIVEN WITH THE SEED: THE CARDS: each row of YtihmpdjlfpbieaaDoorRows.lean that lists a variable, with what it lists TIED to the program's text (the seventh form; the later family's looks); each row that meets fmt, with fmt's text TOLD by the authors' own Lean function (tested against real Go, not proved from fmt's source: count such statements apart). THE CARD IS WHAT COUNTS. Prove the row's statement (the work); the ties are given (YtihmpdjlfpbieaaDoorTie.lean); close each card by the builder's one call (the guide's Derived/Test/ToyasCard.lean, 'card_holds'). Laid BY PROGRAM, IN A SANDBOX (cutbox-door.mjs). By AI agents, Wed Nov 11 2026. No macro, syntax, notation, axiom, sorry.
-/
import Derived.Test.YtihmpdjlfpbieaaDoorRows
import GoSem.ClaimSeven
namespace Go.Proofs.YtihmpdjlfpbieaaDoor
namespace Rows

/-- THE TIED CARD OF 'vedettelaw8.QuadPlays'. -/
def quadPlaysCard : Claim7 := { stood := { row := quadPlaysRow, standIns := [], harness := (true, "a3d3f3cb190d71e3138e9286177bb5d40067a19e978e45158a4118de4e4999b4"), looks := false }, kinds := [], alts := [], laidByText := true, laidKinds := [.data], laidTests := true, laidLooks := .later }
def QuadPlaysCardSaid : Prop := Claim7.holds Tryd.pinned (.plain (OpenSpec.ofChange quadPlaysSpec)) quadPlaysCard

/-- THE TIED CARD OF 'vedettelaw8.QuadFinds'. -/
def quadFindsCard : Claim7 := { stood := { row := quadFindsRow, standIns := [], harness := (true, "a3d3f3cb190d71e3138e9286177bb5d40067a19e978e45158a4118de4e4999b4"), looks := false }, kinds := [], alts := [], laidByText := true, laidKinds := [.data], laidTests := true, laidLooks := .later }
def QuadFindsCardSaid : Prop := Claim7.holds Tryd.pinned (.plain (OpenSpec.ofChange quadFindsSpec)) quadFindsCard

/-- THE TIED CARD OF 'vedettelaw8.QuadFull'. -/
def quadFullCard : Claim7 := { stood := { row := quadFullRow, standIns := [], harness := (true, "a3d3f3cb190d71e3138e9286177bb5d40067a19e978e45158a4118de4e4999b4"), looks := false }, kinds := [], alts := [], laidByText := true, laidKinds := [.data], laidTests := true, laidLooks := .later }
def QuadFullCardSaid : Prop := Claim7.holds Tryd.pinned (.plain (OpenSpec.ofChange quadFullSpec)) quadFullCard

/-- THE TIED CARD OF 'vedettelaw8.QuadMerges'. -/
def quadMergesCard : Claim7 := { stood := { row := quadMergesRow, standIns := [], harness := (true, "a3d3f3cb190d71e3138e9286177bb5d40067a19e978e45158a4118de4e4999b4"), looks := false }, kinds := [], alts := [], laidByText := true, laidKinds := [.data], laidTests := true, laidLooks := .later }
def QuadMergesCardSaid : Prop := Claim7.holds Tryd.pinned (.plain (OpenSpec.ofChange quadMergesSpec)) quadMergesCard

/-- THE SECOND FORM's CARD OF 'vedettelaw8.QuadPlays'. -/
def quadPlaysUptoCard : Claim7 := { stood := { row := quadPlaysUptoRow, standIns := [], harness := (true, "a3d3f3cb190d71e3138e9286177bb5d40067a19e978e45158a4118de4e4999b4"), looks := false }, kinds := [], alts := [], laidByText := true, laidKinds := [.data], laidTests := true, laidLooks := .later }
def QuadPlaysUptoCardSaid : Prop := Claim7.holds Tryd.pinned (.plain (OpenSpec.upto quadPlaysSpec)) quadPlaysUptoCard

/-- THE SECOND FORM's CARD OF 'vedettelaw8.QuadFinds'. -/
def quadFindsUptoCard : Claim7 := { stood := { row := quadFindsUptoRow, standIns := [], harness := (true, "a3d3f3cb190d71e3138e9286177bb5d40067a19e978e45158a4118de4e4999b4"), looks := false }, kinds := [], alts := [], laidByText := true, laidKinds := [.data], laidTests := true, laidLooks := .later }
def QuadFindsUptoCardSaid : Prop := Claim7.holds Tryd.pinned (.plain (OpenSpec.upto quadFindsSpec)) quadFindsUptoCard

/-- THE SECOND FORM's CARD OF 'vedettelaw8.QuadFull'. -/
def quadFullUptoCard : Claim7 := { stood := { row := quadFullUptoRow, standIns := [], harness := (true, "a3d3f3cb190d71e3138e9286177bb5d40067a19e978e45158a4118de4e4999b4"), looks := false }, kinds := [], alts := [], laidByText := true, laidKinds := [.data], laidTests := true, laidLooks := .later }
def QuadFullUptoCardSaid : Prop := Claim7.holds Tryd.pinned (.plain (OpenSpec.upto quadFullSpec)) quadFullUptoCard

/-- THE SECOND FORM's CARD OF 'vedettelaw8.QuadMerges'. -/
def quadMergesUptoCard : Claim7 := { stood := { row := quadMergesUptoRow, standIns := [], harness := (true, "a3d3f3cb190d71e3138e9286177bb5d40067a19e978e45158a4118de4e4999b4"), looks := false }, kinds := [], alts := [], laidByText := true, laidKinds := [.data], laidTests := true, laidLooks := .later }
def QuadMergesUptoCardSaid : Prop := Claim7.holds Tryd.pinned (.plain (OpenSpec.upto quadMergesSpec)) quadMergesUptoCard
end Rows
end Go.Proofs.YtihmpdjlfpbieaaDoor
