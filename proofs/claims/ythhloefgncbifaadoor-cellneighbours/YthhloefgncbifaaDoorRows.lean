/-
  NARROWER THAN 'FOR EVERY INPUT', by the rows' own cells (each row's printed sentence says how): CellTells: laid · CellWhole: laid · CellNeighbours: laid · CellCounts: laid.
  DERIVED. THE GIVEN ROWS OF THIS SEAT. 4 by the template 'for every input the law returns true; each argument reads behind the call as it read before'; 0 by the template 'total and deterministic' (their statements: YthhloefgncbifaaDoorTotals.lean).
  GIVEN WITH THE SEED: the statements are not yours to turn. If you find one false, say at which input.
  Laid BY PROGRAM, IN A SANDBOX (cutbox-rows.mjs): the forced cells as the released guide's own fill.sh prints them over the translation 2c7afe42bb6dc3d3… (all of the seat's roots in one cut). By AI agents, Wed Nov 11 2026. No macro, syntax, notation, axiom, sorry.
-/
import Derived.Test.YthhloefgncbifaaDoorChecked
import GoSem.Claim
import GoSem.ClaimJoined
import GoSem.ClaimMapViews
import Derived.JoinedTies
import Derived.KernelRfl
namespace Go.Proofs.YthhloefgncbifaaDoor
/- THE CELL 'sum', in the pinned program and in every row, IS THE sha256 OF THE DUMP (.gsa) THAT YthhloefgncbifaaDoorProg.lean LOADS. Nothing in Lean hashes anything: it is a label: what it is worth is what the hold of that sum in a sandbox is worth. -/
noncomputable def Tryd.pinned : Pinned := { name := "ythhloefgncbifaadoor", sum := "2c7afe42bb6dc3d3bad6b9e38bad516d7739d7335b5a4d9eef84486fee330fb6", checked := Tryd.checked }
namespace Rows
def none {H : Type} : Left H := { results := [], args := [] }

/- WHAT THE LISTED PACKAGE-LEVEL VARIABLES READ AS WHEN THE CALL BEGINS. Each datum BY PROGRAM (the guide's laid-datum.mjs) off the statement by which the dump's own 'gosem.cut.vars' lays the variable. In a bare row this is a premise. The card (YthhloefgncbifaaDoorCards.lean) ties it to the program's text. -/
def laid_vedette_morton_masks {H : Type} : DataW H := .agg [.lit (.int .u32 65535), .lit (.int .u32 16711935), .lit (.int .u32 252645135), .lit (.int .u32 858993459), .lit (.int .u32 1431655765)]

/-- 'vedettelaw5.CellTells': WHATEVER THE INPUT: true; the input reads as it did. -/
def cellTellsSpec : ChangeSpec := { name := "cellTells", fn := fun _ => fun
  | [d1, d2, d3, d4] => { results := [.lit (.bool true)], args := [d1, d2, d3, d4] }
  | _ => none }
def cellTellsRow : OpenClaim := { program := "ythhloefgncbifaadoor", sum := "2c7afe42bb6dc3d3bad6b9e38bad516d7739d7335b5a4d9eef84486fee330fb6", func := "vedette/vedettelaw5.CellTells", spec := "cellTells", named := ["vedette/morton.masks"], apart := false, laid := [("vedette/morton.masks", laid_vedette_morton_masks)] }
def CellTellsSaid : Prop := cellTellsRow.holds Tryd.pinned (OpenSpec.ofChange cellTellsSpec)

/-- ITS FALSE NEIGHBOUR: 'it returns false'. Refute it at one input. -/
def cellTellsWrong : ChangeSpec := { name := "cellTells", fn := fun _ => fun
  | [d1, d2, d3, d4] => { results := [.lit (.bool false)], args := [d1, d2, d3, d4] }
  | _ => none }
def CellTellsWrongFalsely : Prop := cellTellsRow.holds Tryd.pinned (OpenSpec.ofChange cellTellsWrong)

/-- 'vedettelaw5.CellWhole': WHATEVER THE INPUT: true; the input reads as it did. -/
def cellWholeSpec : ChangeSpec := { name := "cellWhole", fn := fun _ => fun
  | [d1, d2] => { results := [.lit (.bool true)], args := [d1, d2] }
  | _ => none }
def cellWholeRow : OpenClaim := { program := "ythhloefgncbifaadoor", sum := "2c7afe42bb6dc3d3bad6b9e38bad516d7739d7335b5a4d9eef84486fee330fb6", func := "vedette/vedettelaw5.CellWhole", spec := "cellWhole", named := ["vedette/morton.masks"], apart := false, laid := [("vedette/morton.masks", laid_vedette_morton_masks)] }
def CellWholeSaid : Prop := cellWholeRow.holds Tryd.pinned (OpenSpec.ofChange cellWholeSpec)

/-- ITS FALSE NEIGHBOUR: 'it returns false'. Refute it at one input. -/
def cellWholeWrong : ChangeSpec := { name := "cellWhole", fn := fun _ => fun
  | [d1, d2] => { results := [.lit (.bool false)], args := [d1, d2] }
  | _ => none }
def CellWholeWrongFalsely : Prop := cellWholeRow.holds Tryd.pinned (OpenSpec.ofChange cellWholeWrong)

/-- 'vedettelaw5.CellNeighbours': WHATEVER THE INPUT: true; the input reads as it did. -/
def cellNeighboursSpec : ChangeSpec := { name := "cellNeighbours", fn := fun _ => fun
  | [d1, d2, d3, d4, d5] => { results := [.lit (.bool true)], args := [d1, d2, d3, d4, d5] }
  | _ => none }
def cellNeighboursRow : OpenClaim := { program := "ythhloefgncbifaadoor", sum := "2c7afe42bb6dc3d3bad6b9e38bad516d7739d7335b5a4d9eef84486fee330fb6", func := "vedette/vedettelaw5.CellNeighbours", spec := "cellNeighbours", named := ["vedette/morton.masks"], apart := false, laid := [("vedette/morton.masks", laid_vedette_morton_masks)] }
def CellNeighboursSaid : Prop := cellNeighboursRow.holds Tryd.pinned (OpenSpec.ofChange cellNeighboursSpec)

/-- ITS FALSE NEIGHBOUR: 'it returns false'. Refute it at one input. -/
def cellNeighboursWrong : ChangeSpec := { name := "cellNeighbours", fn := fun _ => fun
  | [d1, d2, d3, d4, d5] => { results := [.lit (.bool false)], args := [d1, d2, d3, d4, d5] }
  | _ => none }
def CellNeighboursWrongFalsely : Prop := cellNeighboursRow.holds Tryd.pinned (OpenSpec.ofChange cellNeighboursWrong)

/-- 'vedettelaw5.CellCounts': WHATEVER THE INPUT: true; the input reads as it did. -/
def cellCountsSpec : ChangeSpec := { name := "cellCounts", fn := fun _ => fun
  | [d1, d2, d3, d4] => { results := [.lit (.bool true)], args := [d1, d2, d3, d4] }
  | _ => none }
def cellCountsRow : OpenClaim := { program := "ythhloefgncbifaadoor", sum := "2c7afe42bb6dc3d3bad6b9e38bad516d7739d7335b5a4d9eef84486fee330fb6", func := "vedette/vedettelaw5.CellCounts", spec := "cellCounts", named := ["vedette/morton.masks"], apart := false, laid := [("vedette/morton.masks", laid_vedette_morton_masks)] }
def CellCountsSaid : Prop := cellCountsRow.holds Tryd.pinned (OpenSpec.ofChange cellCountsSpec)

/-- ITS FALSE NEIGHBOUR: 'it returns false'. Refute it at one input. -/
def cellCountsWrong : ChangeSpec := { name := "cellCounts", fn := fun _ => fun
  | [d1, d2, d3, d4] => { results := [.lit (.bool false)], args := [d1, d2, d3, d4] }
  | _ => none }
def CellCountsWrongFalsely : Prop := cellCountsRow.holds Tryd.pinned (OpenSpec.ofChange cellCountsWrong)

/- THE SECOND FORM. 'bulk': how many values and letters a reading holds, each counted each time it is reached (what is shared counts as often as it is met; a slice's spare places count too). A statement '..UptoSaid' is the law's where the arguments, and the package variables that the reading takes, are together of bulk at most 1048576: NARROWER than '..Said'. Prove '..Said' where nothing that the law and all that it calls make is longer than what came in: it says more and counts as full. Else prove '..UptoSaid'. A law counts once. -/
mutual
def uptoBulk {H : Type} : DataW H → Nat
  | .lit (.string bytes) => bytes.length + 1
  | .lit _ => 1
  | .nil => 1
  | .ptr d => uptoBulk d + 1
  | .slice elems spare => uptoBulkAll elems + uptoBulkAll spare + 1
  | .agg parts => uptoBulkAll parts + 1
  | .iface _ d => uptoBulk d + 1
  | .map entries => uptoBulkEntries entries + 1
  | .held _ => 1
def uptoBulkAll {H : Type} : List (DataW H) → Nat
  | [] => 0
  | d :: r => uptoBulk d + uptoBulkAll r
def uptoBulkEntries {H : Type} : List (Lit × DataW H) → Nat
  | [] => 0
  | x :: r => uptoBulkEntry x + uptoBulkEntries r
def uptoBulkEntry {H : Type} : Lit × DataW H → Nat
  | (.string bytes, d) => bytes.length + uptoBulk d + 1
  | (_, d) => uptoBulk d + 1
 end
def uptoSmall : (H : Type) → List (DataW H) → Bool := fun _ ds => decide (uptoBulkAll ds ≤ 1048576)
def OpenSpec.upto (s : _root_.Go.ChangeSpec) : _root_.Go.OpenSpec := { _root_.Go.OpenSpec.ofChange s with cond := some uptoSmall }

/-- 'vedettelaw5.CellTells', WHERE WHAT IT READS IS OF BULK AT MOST 1048576: true; the input reads as it did. -/
def cellTellsUptoRow : OpenClaim := { program := "ythhloefgncbifaadoor", sum := "2c7afe42bb6dc3d3bad6b9e38bad516d7739d7335b5a4d9eef84486fee330fb6", func := "vedette/vedettelaw5.CellTells", spec := "cellTells", named := ["vedette/morton.masks"], apart := false, laid := [("vedette/morton.masks", laid_vedette_morton_masks)], narrowed := true }
def CellTellsUptoSaid : Prop := cellTellsUptoRow.holds Tryd.pinned (OpenSpec.upto cellTellsSpec)

/-- 'vedettelaw5.CellWhole', WHERE WHAT IT READS IS OF BULK AT MOST 1048576: true; the input reads as it did. -/
def cellWholeUptoRow : OpenClaim := { program := "ythhloefgncbifaadoor", sum := "2c7afe42bb6dc3d3bad6b9e38bad516d7739d7335b5a4d9eef84486fee330fb6", func := "vedette/vedettelaw5.CellWhole", spec := "cellWhole", named := ["vedette/morton.masks"], apart := false, laid := [("vedette/morton.masks", laid_vedette_morton_masks)], narrowed := true }
def CellWholeUptoSaid : Prop := cellWholeUptoRow.holds Tryd.pinned (OpenSpec.upto cellWholeSpec)

/-- 'vedettelaw5.CellNeighbours', WHERE WHAT IT READS IS OF BULK AT MOST 1048576: true; the input reads as it did. -/
def cellNeighboursUptoRow : OpenClaim := { program := "ythhloefgncbifaadoor", sum := "2c7afe42bb6dc3d3bad6b9e38bad516d7739d7335b5a4d9eef84486fee330fb6", func := "vedette/vedettelaw5.CellNeighbours", spec := "cellNeighbours", named := ["vedette/morton.masks"], apart := false, laid := [("vedette/morton.masks", laid_vedette_morton_masks)], narrowed := true }
def CellNeighboursUptoSaid : Prop := cellNeighboursUptoRow.holds Tryd.pinned (OpenSpec.upto cellNeighboursSpec)

/-- 'vedettelaw5.CellCounts', WHERE WHAT IT READS IS OF BULK AT MOST 1048576: true; the input reads as it did. -/
def cellCountsUptoRow : OpenClaim := { program := "ythhloefgncbifaadoor", sum := "2c7afe42bb6dc3d3bad6b9e38bad516d7739d7335b5a4d9eef84486fee330fb6", func := "vedette/vedettelaw5.CellCounts", spec := "cellCounts", named := ["vedette/morton.masks"], apart := false, laid := [("vedette/morton.masks", laid_vedette_morton_masks)], narrowed := true }
def CellCountsUptoSaid : Prop := cellCountsUptoRow.holds Tryd.pinned (OpenSpec.upto cellCountsSpec)

end Rows
end Go.Proofs.YthhloefgncbifaaDoor
