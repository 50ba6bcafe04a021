/-
  NARROWER THAN 'FOR EVERY INPUT', by the rows' own cells (each row's printed sentence says how): ActTells: laid · ActDoes: laid · ActCells: laid · ActTwice: laid · ActSets: laid.
  DERIVED. THE GIVEN ROWS OF THIS SEAT. 5 by the template 'for every input the law returns true; each argument reads behind the call as it read before'; 0 by the template 'total and deterministic' (their statements: YthmnbphpjmfckaaGreatDoorTotals.lean).
  GIVEN WITH THE SEED: the statements are not yours to turn. If you find one false, say at which input.
  Laid BY PROGRAM, IN A SANDBOX (cutbox-rows.mjs): the forced cells as the released guide's own fill.sh prints them over the translation 4e92a8e295213c23… (all of the seat's roots in one cut). By AI agents, Wed Nov 11 2026. No macro, syntax, notation, axiom, sorry.
-/
import Derived.Test.YthmnbphpjmfckaaGreatDoorChecked
import GoSem.Claim
import GoSem.ClaimJoined
import GoSem.ClaimMapViews
import Derived.JoinedTies
import Derived.KernelRfl
namespace Go.Proofs.YthmnbphpjmfckaaGreatDoor
/- THE CELL 'sum', in the pinned program and in every row, IS THE sha256 OF THE DUMP (.gsa) THAT YthmnbphpjmfckaaGreatDoorProg.lean LOADS. Nothing in Lean hashes anything: it is a label: what it is worth is what the hold of that sum in a sandbox is worth. -/
noncomputable def Tryz.pinned : Pinned := { name := "ythmnbphpjmfckaagreatdoor", sum := "4e92a8e295213c2354d10f50ab22f248f701f6ebb6aab22ca2e6be93ce4ed981", checked := Tryz.checked }
namespace Rows
def none {H : Type} : Left H := { results := [], args := [] }

/- WHAT THE LISTED PACKAGE-LEVEL VARIABLES READ AS WHEN THE CALL BEGINS. Each datum BY PROGRAM (the guide's laid-datum.mjs) off the statement by which the dump's own 'gosem.cut.vars' lays the variable. In a bare row this is a premise. The card (YthmnbphpjmfckaaGreatDoorCards.lean) ties it to the program's text. -/
def laid_vedette_morton_masks {H : Type} : DataW H := .agg [.lit (.int .u32 65535), .lit (.int .u32 16711935), .lit (.int .u32 252645135), .lit (.int .u32 858993459), .lit (.int .u32 1431655765)]

/-- 'vedettelaw11.ActTells': WHATEVER THE INPUT: true; the input reads as it did. -/
def actTellsSpec : ChangeSpec := { name := "actTells", fn := fun _ => fun
  | [d1, d2, d3] => { results := [.lit (.bool true)], args := [d1, d2, d3] }
  | _ => none }
def actTellsRow : OpenClaim := { program := "ythmnbphpjmfckaagreatdoor", sum := "4e92a8e295213c2354d10f50ab22f248f701f6ebb6aab22ca2e6be93ce4ed981", func := "vedette/vedettelaw11.ActTells", spec := "actTells", inPlace := ["slices.overlaps[vedette/quad.spot]"], unfollowed := true, recurses := true, named := ["vedette/morton.masks"], apart := false, laid := [("vedette/morton.masks", laid_vedette_morton_masks)] }
def ActTellsSaid : Prop := actTellsRow.holds Tryz.pinned (OpenSpec.ofChange actTellsSpec)

/-- ITS FALSE NEIGHBOUR: 'it returns false'. Refute it at one input. -/
def actTellsWrong : ChangeSpec := { name := "actTells", fn := fun _ => fun
  | [d1, d2, d3] => { results := [.lit (.bool false)], args := [d1, d2, d3] }
  | _ => none }
def ActTellsWrongFalsely : Prop := actTellsRow.holds Tryz.pinned (OpenSpec.ofChange actTellsWrong)

/-- 'vedettelaw11.ActDoes': WHATEVER THE INPUT: true; the input reads as it did. -/
def actDoesSpec : ChangeSpec := { name := "actDoes", fn := fun _ => fun
  | [d1, d2, d3] => { results := [.lit (.bool true)], args := [d1, d2, d3] }
  | _ => none }
def actDoesRow : OpenClaim := { program := "ythmnbphpjmfckaagreatdoor", sum := "4e92a8e295213c2354d10f50ab22f248f701f6ebb6aab22ca2e6be93ce4ed981", func := "vedette/vedettelaw11.ActDoes", spec := "actDoes", inPlace := ["slices.overlaps[vedette/quad.spot]"], unfollowed := true, recurses := true, named := ["vedette/morton.masks"], apart := false, laid := [("vedette/morton.masks", laid_vedette_morton_masks)] }
def ActDoesSaid : Prop := actDoesRow.holds Tryz.pinned (OpenSpec.ofChange actDoesSpec)

/-- ITS FALSE NEIGHBOUR: 'it returns false'. Refute it at one input. -/
def actDoesWrong : ChangeSpec := { name := "actDoes", fn := fun _ => fun
  | [d1, d2, d3] => { results := [.lit (.bool false)], args := [d1, d2, d3] }
  | _ => none }
def ActDoesWrongFalsely : Prop := actDoesRow.holds Tryz.pinned (OpenSpec.ofChange actDoesWrong)

/-- 'vedettelaw11.ActCells': WHATEVER THE INPUT: true; the input reads as it did. -/
def actCellsSpec : ChangeSpec := { name := "actCells", fn := fun _ => fun
  | [d1, d2, d3, d4] => { results := [.lit (.bool true)], args := [d1, d2, d3, d4] }
  | _ => none }
def actCellsRow : OpenClaim := { program := "ythmnbphpjmfckaagreatdoor", sum := "4e92a8e295213c2354d10f50ab22f248f701f6ebb6aab22ca2e6be93ce4ed981", func := "vedette/vedettelaw11.ActCells", spec := "actCells", inPlace := ["slices.overlaps[vedette/quad.spot]"], unfollowed := true, recurses := true, named := ["vedette/morton.masks"], apart := false, laid := [("vedette/morton.masks", laid_vedette_morton_masks)] }
def ActCellsSaid : Prop := actCellsRow.holds Tryz.pinned (OpenSpec.ofChange actCellsSpec)

/-- ITS FALSE NEIGHBOUR: 'it returns false'. Refute it at one input. -/
def actCellsWrong : ChangeSpec := { name := "actCells", fn := fun _ => fun
  | [d1, d2, d3, d4] => { results := [.lit (.bool false)], args := [d1, d2, d3, d4] }
  | _ => none }
def ActCellsWrongFalsely : Prop := actCellsRow.holds Tryz.pinned (OpenSpec.ofChange actCellsWrong)

/-- 'vedettelaw11.ActTwice': WHATEVER THE INPUT: true; the input reads as it did. -/
def actTwiceSpec : ChangeSpec := { name := "actTwice", fn := fun _ => fun
  | [d1, d2, d3] => { results := [.lit (.bool true)], args := [d1, d2, d3] }
  | _ => none }
def actTwiceRow : OpenClaim := { program := "ythmnbphpjmfckaagreatdoor", sum := "4e92a8e295213c2354d10f50ab22f248f701f6ebb6aab22ca2e6be93ce4ed981", func := "vedette/vedettelaw11.ActTwice", spec := "actTwice", inPlace := ["slices.overlaps[vedette/quad.spot]"], unfollowed := true, recurses := true, named := ["vedette/morton.masks"], apart := false, laid := [("vedette/morton.masks", laid_vedette_morton_masks)] }
def ActTwiceSaid : Prop := actTwiceRow.holds Tryz.pinned (OpenSpec.ofChange actTwiceSpec)

/-- ITS FALSE NEIGHBOUR: 'it returns false'. Refute it at one input. -/
def actTwiceWrong : ChangeSpec := { name := "actTwice", fn := fun _ => fun
  | [d1, d2, d3] => { results := [.lit (.bool false)], args := [d1, d2, d3] }
  | _ => none }
def ActTwiceWrongFalsely : Prop := actTwiceRow.holds Tryz.pinned (OpenSpec.ofChange actTwiceWrong)

/-- 'vedettelaw11.ActSets': WHATEVER THE INPUT: true; the input reads as it did. -/
def actSetsSpec : ChangeSpec := { name := "actSets", fn := fun _ => fun
  | [d1, d2] => { results := [.lit (.bool true)], args := [d1, d2] }
  | _ => none }
def actSetsRow : OpenClaim := { program := "ythmnbphpjmfckaagreatdoor", sum := "4e92a8e295213c2354d10f50ab22f248f701f6ebb6aab22ca2e6be93ce4ed981", func := "vedette/vedettelaw11.ActSets", spec := "actSets", inPlace := ["slices.overlaps[vedette/quad.spot]"], unfollowed := true, recurses := true, named := ["vedette/morton.masks"], apart := false, laid := [("vedette/morton.masks", laid_vedette_morton_masks)] }
def ActSetsSaid : Prop := actSetsRow.holds Tryz.pinned (OpenSpec.ofChange actSetsSpec)

/-- ITS FALSE NEIGHBOUR: 'it returns false'. Refute it at one input. -/
def actSetsWrong : ChangeSpec := { name := "actSets", fn := fun _ => fun
  | [d1, d2] => { results := [.lit (.bool false)], args := [d1, d2] }
  | _ => none }
def ActSetsWrongFalsely : Prop := actSetsRow.holds Tryz.pinned (OpenSpec.ofChange actSetsWrong)

/- THE SECOND FORM. 'bulk': how many values and letters a reading holds, each counted each time it is reached (what is shared counts as often as it is met; a slice's spare places count too). A statement '..UptoSaid' is the law's where the arguments, and the package variables that the reading takes, are together of bulk at most 1048576: NARROWER than '..Said'. Prove '..Said' where nothing that the law and all that it calls make is longer than what came in: it says more and counts as full. Else prove '..UptoSaid'. A law counts once. -/
mutual
def uptoBulk {H : Type} : DataW H → Nat
  | .lit (.string bytes) => bytes.length + 1
  | .lit _ => 1
  | .nil => 1
  | .ptr d => uptoBulk d + 1
  | .slice elems spare => uptoBulkAll elems + uptoBulkAll spare + 1
  | .agg parts => uptoBulkAll parts + 1
  | .iface _ d => uptoBulk d + 1
  | .map entries => uptoBulkEntries entries + 1
  | .held _ => 1
def uptoBulkAll {H : Type} : List (DataW H) → Nat
  | [] => 0
  | d :: r => uptoBulk d + uptoBulkAll r
def uptoBulkEntries {H : Type} : List (Lit × DataW H) → Nat
  | [] => 0
  | x :: r => uptoBulkEntry x + uptoBulkEntries r
def uptoBulkEntry {H : Type} : Lit × DataW H → Nat
  | (.string bytes, d) => bytes.length + uptoBulk d + 1
  | (_, d) => uptoBulk d + 1
 end
def uptoSmall : (H : Type) → List (DataW H) → Bool := fun _ ds => decide (uptoBulkAll ds ≤ 1048576)
def OpenSpec.upto (s : _root_.Go.ChangeSpec) : _root_.Go.OpenSpec := { _root_.Go.OpenSpec.ofChange s with cond := some uptoSmall }

/-- 'vedettelaw11.ActTells', WHERE WHAT IT READS IS OF BULK AT MOST 1048576: true; the input reads as it did. -/
def actTellsUptoRow : OpenClaim := { program := "ythmnbphpjmfckaagreatdoor", sum := "4e92a8e295213c2354d10f50ab22f248f701f6ebb6aab22ca2e6be93ce4ed981", func := "vedette/vedettelaw11.ActTells", spec := "actTells", inPlace := ["slices.overlaps[vedette/quad.spot]"], unfollowed := true, recurses := true, named := ["vedette/morton.masks"], apart := false, laid := [("vedette/morton.masks", laid_vedette_morton_masks)], narrowed := true }
def ActTellsUptoSaid : Prop := actTellsUptoRow.holds Tryz.pinned (OpenSpec.upto actTellsSpec)

/-- 'vedettelaw11.ActDoes', WHERE WHAT IT READS IS OF BULK AT MOST 1048576: true; the input reads as it did. -/
def actDoesUptoRow : OpenClaim := { program := "ythmnbphpjmfckaagreatdoor", sum := "4e92a8e295213c2354d10f50ab22f248f701f6ebb6aab22ca2e6be93ce4ed981", func := "vedette/vedettelaw11.ActDoes", spec := "actDoes", inPlace := ["slices.overlaps[vedette/quad.spot]"], unfollowed := true, recurses := true, named := ["vedette/morton.masks"], apart := false, laid := [("vedette/morton.masks", laid_vedette_morton_masks)], narrowed := true }
def ActDoesUptoSaid : Prop := actDoesUptoRow.holds Tryz.pinned (OpenSpec.upto actDoesSpec)

/-- 'vedettelaw11.ActCells', WHERE WHAT IT READS IS OF BULK AT MOST 1048576: true; the input reads as it did. -/
def actCellsUptoRow : OpenClaim := { program := "ythmnbphpjmfckaagreatdoor", sum := "4e92a8e295213c2354d10f50ab22f248f701f6ebb6aab22ca2e6be93ce4ed981", func := "vedette/vedettelaw11.ActCells", spec := "actCells", inPlace := ["slices.overlaps[vedette/quad.spot]"], unfollowed := true, recurses := true, named := ["vedette/morton.masks"], apart := false, laid := [("vedette/morton.masks", laid_vedette_morton_masks)], narrowed := true }
def ActCellsUptoSaid : Prop := actCellsUptoRow.holds Tryz.pinned (OpenSpec.upto actCellsSpec)

/-- 'vedettelaw11.ActTwice', WHERE WHAT IT READS IS OF BULK AT MOST 1048576: true; the input reads as it did. -/
def actTwiceUptoRow : OpenClaim := { program := "ythmnbphpjmfckaagreatdoor", sum := "4e92a8e295213c2354d10f50ab22f248f701f6ebb6aab22ca2e6be93ce4ed981", func := "vedette/vedettelaw11.ActTwice", spec := "actTwice", inPlace := ["slices.overlaps[vedette/quad.spot]"], unfollowed := true, recurses := true, named := ["vedette/morton.masks"], apart := false, laid := [("vedette/morton.masks", laid_vedette_morton_masks)], narrowed := true }
def ActTwiceUptoSaid : Prop := actTwiceUptoRow.holds Tryz.pinned (OpenSpec.upto actTwiceSpec)

/-- 'vedettelaw11.ActSets', WHERE WHAT IT READS IS OF BULK AT MOST 1048576: true; the input reads as it did. -/
def actSetsUptoRow : OpenClaim := { program := "ythmnbphpjmfckaagreatdoor", sum := "4e92a8e295213c2354d10f50ab22f248f701f6ebb6aab22ca2e6be93ce4ed981", func := "vedette/vedettelaw11.ActSets", spec := "actSets", inPlace := ["slices.overlaps[vedette/quad.spot]"], unfollowed := true, recurses := true, named := ["vedette/morton.masks"], apart := false, laid := [("vedette/morton.masks", laid_vedette_morton_masks)], narrowed := true }
def ActSetsUptoSaid : Prop := actSetsUptoRow.holds Tryz.pinned (OpenSpec.upto actSetsSpec)

end Rows
end Go.Proofs.YthmnbphpjmfckaaGreatDoor
