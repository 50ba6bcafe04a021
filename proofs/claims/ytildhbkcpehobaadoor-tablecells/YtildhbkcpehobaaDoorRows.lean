/-
  NARROWER THAN 'FOR EVERY INPUT', by the rows' own cells (each row's printed sentence says how): TableCells: laid · TableMoves: laid · TableFull: laid.
  DERIVED. THE GIVEN ROWS OF THIS SEAT. 3 by the template 'for every input the law returns true; each argument reads behind the call as it read before'; 0 by the template 'total and deterministic' (their statements: YtildhbkcpehobaaDoorTotals.lean).
  GIVEN WITH THE SEED: the statements are not yours to turn. If you find one false, say at which input.
  Laid BY PROGRAM, IN A SANDBOX (cutbox-rows.mjs): the forced cells as the released guide's own fill.sh prints them over the translation 1d0950fdf519208e… (all of the seat's roots in one cut). By AI agents, Wed Nov 11 2026. No macro, syntax, notation, axiom, sorry.
-/
import Derived.Test.YtildhbkcpehobaaDoorChecked
import GoSem.Claim
import GoSem.ClaimJoined
import GoSem.ClaimMapViews
import Derived.JoinedTies
import Derived.KernelRfl
namespace Go.Proofs.YtildhbkcpehobaaDoor
/- THE CELL 'sum', in the pinned program and in every row, IS THE sha256 OF THE DUMP (.gsa) THAT YtildhbkcpehobaaDoorProg.lean LOADS. Nothing in Lean hashes anything: it is a label: what it is worth is what the hold of that sum in a sandbox is worth. -/
noncomputable def Tryd.pinned : Pinned := { name := "ytildhbkcpehobaadoor", sum := "1d0950fdf519208e217efc1b26eaad2850a6d25ac06ed4f6c003793243222935", checked := Tryd.checked }
namespace Rows
def none {H : Type} : Left H := { results := [], args := [] }

/- WHAT THE LISTED PACKAGE-LEVEL VARIABLES READ AS WHEN THE CALL BEGINS. Each datum BY PROGRAM (the guide's laid-datum.mjs) off the statement by which the dump's own 'gosem.cut.vars' lays the variable. In a bare row this is a premise. The card (YtildhbkcpehobaaDoorCards.lean) ties it to the program's text. -/
def laid_vedette_morton_masks {H : Type} : DataW H := .agg [.lit (.int .u32 65535), .lit (.int .u32 16711935), .lit (.int .u32 252645135), .lit (.int .u32 858993459), .lit (.int .u32 1431655765)]

/-- 'vedettelaw9.TableCells': WHATEVER THE INPUT: true; the input reads as it did. -/
def tableCellsSpec : ChangeSpec := { name := "tableCells", fn := fun _ => fun
  | [d] => { results := [.lit (.bool true)], args := [d] }
  | _ => none }
def tableCellsRow : OpenClaim := { program := "ytildhbkcpehobaadoor", sum := "1d0950fdf519208e217efc1b26eaad2850a6d25ac06ed4f6c003793243222935", func := "vedette/vedettelaw9.TableCells", spec := "tableCells", inPlace := ["slices.overlaps[vedette/quad.spot]", "maps.clone"], unfollowed := true, recurses := true, named := ["vedette/morton.masks"], apart := false, laid := [("vedette/morton.masks", laid_vedette_morton_masks)] }
def TableCellsSaid : Prop := tableCellsRow.holds Tryd.pinned (OpenSpec.ofChange tableCellsSpec)

/-- ITS FALSE NEIGHBOUR: 'it returns false'. Refute it at one input. -/
def tableCellsWrong : ChangeSpec := { name := "tableCells", fn := fun _ => fun
  | [d] => { results := [.lit (.bool false)], args := [d] }
  | _ => none }
def TableCellsWrongFalsely : Prop := tableCellsRow.holds Tryd.pinned (OpenSpec.ofChange tableCellsWrong)

/-- 'vedettelaw9.TableMoves': WHATEVER THE INPUT: true; the input reads as it did. -/
def tableMovesSpec : ChangeSpec := { name := "tableMoves", fn := fun _ => fun
  | [d1, d2] => { results := [.lit (.bool true)], args := [d1, d2] }
  | _ => none }
def tableMovesRow : OpenClaim := { program := "ytildhbkcpehobaadoor", sum := "1d0950fdf519208e217efc1b26eaad2850a6d25ac06ed4f6c003793243222935", func := "vedette/vedettelaw9.TableMoves", spec := "tableMoves", inPlace := ["slices.overlaps[vedette/quad.spot]", "maps.clone"], unfollowed := true, recurses := true, named := ["vedette/morton.masks"], apart := false, laid := [("vedette/morton.masks", laid_vedette_morton_masks)] }
def TableMovesSaid : Prop := tableMovesRow.holds Tryd.pinned (OpenSpec.ofChange tableMovesSpec)

/-- ITS FALSE NEIGHBOUR: 'it returns false'. Refute it at one input. -/
def tableMovesWrong : ChangeSpec := { name := "tableMoves", fn := fun _ => fun
  | [d1, d2] => { results := [.lit (.bool false)], args := [d1, d2] }
  | _ => none }
def TableMovesWrongFalsely : Prop := tableMovesRow.holds Tryd.pinned (OpenSpec.ofChange tableMovesWrong)

/-- 'vedettelaw9.TableFull': WHATEVER THE INPUT: true; the input reads as it did. -/
def tableFullSpec : ChangeSpec := { name := "tableFull", fn := fun _ => fun
  | [d] => { results := [.lit (.bool true)], args := [d] }
  | _ => none }
def tableFullRow : OpenClaim := { program := "ytildhbkcpehobaadoor", sum := "1d0950fdf519208e217efc1b26eaad2850a6d25ac06ed4f6c003793243222935", func := "vedette/vedettelaw9.TableFull", spec := "tableFull", inPlace := ["slices.overlaps[vedette/quad.spot]", "maps.clone"], unfollowed := true, recurses := true, named := ["vedette/morton.masks"], apart := false, laid := [("vedette/morton.masks", laid_vedette_morton_masks)] }
def TableFullSaid : Prop := tableFullRow.holds Tryd.pinned (OpenSpec.ofChange tableFullSpec)

/-- ITS FALSE NEIGHBOUR: 'it returns false'. Refute it at one input. -/
def tableFullWrong : ChangeSpec := { name := "tableFull", fn := fun _ => fun
  | [d] => { results := [.lit (.bool false)], args := [d] }
  | _ => none }
def TableFullWrongFalsely : Prop := tableFullRow.holds Tryd.pinned (OpenSpec.ofChange tableFullWrong)

/- THE SECOND FORM. 'bulk': how many values and letters a reading holds, each counted each time it is reached (what is shared counts as often as it is met; a slice's spare places count too). A statement '..UptoSaid' is the law's where the arguments, and the package variables that the reading takes, are together of bulk at most 1048576: NARROWER than '..Said'. Prove '..Said' where nothing that the law and all that it calls make is longer than what came in: it says more and counts as full. Else prove '..UptoSaid'. A law counts once. -/
mutual
def uptoBulk {H : Type} : DataW H → Nat
  | .lit (.string bytes) => bytes.length + 1
  | .lit _ => 1
  | .nil => 1
  | .ptr d => uptoBulk d + 1
  | .slice elems spare => uptoBulkAll elems + uptoBulkAll spare + 1
  | .agg parts => uptoBulkAll parts + 1
  | .iface _ d => uptoBulk d + 1
  | .map entries => uptoBulkEntries entries + 1
  | .held _ => 1
def uptoBulkAll {H : Type} : List (DataW H) → Nat
  | [] => 0
  | d :: r => uptoBulk d + uptoBulkAll r
def uptoBulkEntries {H : Type} : List (Lit × DataW H) → Nat
  | [] => 0
  | x :: r => uptoBulkEntry x + uptoBulkEntries r
def uptoBulkEntry {H : Type} : Lit × DataW H → Nat
  | (.string bytes, d) => bytes.length + uptoBulk d + 1
  | (_, d) => uptoBulk d + 1
 end
def uptoSmall : (H : Type) → List (DataW H) → Bool := fun _ ds => decide (uptoBulkAll ds ≤ 1048576)
def OpenSpec.upto (s : _root_.Go.ChangeSpec) : _root_.Go.OpenSpec := { _root_.Go.OpenSpec.ofChange s with cond := some uptoSmall }

/-- 'vedettelaw9.TableCells', WHERE WHAT IT READS IS OF BULK AT MOST 1048576: true; the input reads as it did. -/
def tableCellsUptoRow : OpenClaim := { program := "ytildhbkcpehobaadoor", sum := "1d0950fdf519208e217efc1b26eaad2850a6d25ac06ed4f6c003793243222935", func := "vedette/vedettelaw9.TableCells", spec := "tableCells", inPlace := ["slices.overlaps[vedette/quad.spot]", "maps.clone"], unfollowed := true, recurses := true, named := ["vedette/morton.masks"], apart := false, laid := [("vedette/morton.masks", laid_vedette_morton_masks)], narrowed := true }
def TableCellsUptoSaid : Prop := tableCellsUptoRow.holds Tryd.pinned (OpenSpec.upto tableCellsSpec)

/-- 'vedettelaw9.TableMoves', WHERE WHAT IT READS IS OF BULK AT MOST 1048576: true; the input reads as it did. -/
def tableMovesUptoRow : OpenClaim := { program := "ytildhbkcpehobaadoor", sum := "1d0950fdf519208e217efc1b26eaad2850a6d25ac06ed4f6c003793243222935", func := "vedette/vedettelaw9.TableMoves", spec := "tableMoves", inPlace := ["slices.overlaps[vedette/quad.spot]", "maps.clone"], unfollowed := true, recurses := true, named := ["vedette/morton.masks"], apart := false, laid := [("vedette/morton.masks", laid_vedette_morton_masks)], narrowed := true }
def TableMovesUptoSaid : Prop := tableMovesUptoRow.holds Tryd.pinned (OpenSpec.upto tableMovesSpec)

/-- 'vedettelaw9.TableFull', WHERE WHAT IT READS IS OF BULK AT MOST 1048576: true; the input reads as it did. -/
def tableFullUptoRow : OpenClaim := { program := "ytildhbkcpehobaadoor", sum := "1d0950fdf519208e217efc1b26eaad2850a6d25ac06ed4f6c003793243222935", func := "vedette/vedettelaw9.TableFull", spec := "tableFull", inPlace := ["slices.overlaps[vedette/quad.spot]", "maps.clone"], unfollowed := true, recurses := true, named := ["vedette/morton.masks"], apart := false, laid := [("vedette/morton.masks", laid_vedette_morton_masks)], narrowed := true }
def TableFullUptoSaid : Prop := tableFullUptoRow.holds Tryd.pinned (OpenSpec.upto tableFullSpec)

end Rows
end Go.Proofs.YtildhbkcpehobaaDoor
