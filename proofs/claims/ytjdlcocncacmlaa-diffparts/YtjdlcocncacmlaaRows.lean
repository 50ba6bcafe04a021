/-
  No cell of these rows narrows 'for every input' (looked for: loops, veiled, ifaces, maps, wideKeys, modest, calm, conditions, laid).
  DERIVED. THE GIVEN ROWS OF THIS SEAT. 5 by the template 'for every input the law returns true; each argument reads behind the call as it read before'; 0 by the template 'total and deterministic' (their statements: YtjdlcocncacmlaaTotals.lean).
  GIVEN WITH THE SEED: the statements are not yours to turn. If you find one false, say at which input.
  Laid BY PROGRAM, IN A SANDBOX (cutbox-rows.mjs): the forced cells as the released guide's own fill.sh prints them over the translation 0833146b4d1fd392… (all of the seat's roots in one cut). By AI agents, Wed Nov 11 2026. No macro, syntax, notation, axiom, sorry.
-/
import Derived.Test.YtjdlcocncacmlaaChecked
import GoSem.Claim
import GoSem.ClaimJoined
import GoSem.ClaimMapViews
import Derived.JoinedTies
import Derived.KernelRfl
namespace Go.Proofs.Ytjdlcocncacmlaa
/- THE CELL 'sum', in the pinned program and in every row, IS THE sha256 OF THE DUMP (.gsa) THAT YtjdlcocncacmlaaProg.lean LOADS. Nothing in Lean hashes anything: it is a label: what it is worth is what the hold of that sum in a sandbox is worth. -/
noncomputable def Try.pinned : Pinned := { name := "ytjdlcocncacmlaa", sum := "0833146b4d1fd392869dcfc7b3d4a27e909176a16175adc29454e6624a2691b8", checked := Try.checked }
namespace Rows
def none {H : Type} : Left H := { results := [], args := [] }

/-- 'vedettelaw16.DiffTells': WHATEVER THE INPUT: true; the input reads as it did. -/
def diffTellsSpec : ChangeSpec := { name := "diffTells", fn := fun _ => fun
  | [d1, d2, d3, d4] => { results := [.lit (.bool true)], args := [d1, d2, d3, d4] }
  | _ => none }
def diffTellsRow : OpenClaim := { program := "ytjdlcocncacmlaa", sum := "0833146b4d1fd392869dcfc7b3d4a27e909176a16175adc29454e6624a2691b8", func := "vedette/vedettelaw16.DiffTells", spec := "diffTells", apart := false }
def DiffTellsSaid : Prop := diffTellsRow.holds Try.pinned (OpenSpec.ofChange diffTellsSpec)

/-- ITS FALSE NEIGHBOUR: 'it returns false'. Refute it at one input. -/
def diffTellsWrong : ChangeSpec := { name := "diffTells", fn := fun _ => fun
  | [d1, d2, d3, d4] => { results := [.lit (.bool false)], args := [d1, d2, d3, d4] }
  | _ => none }
def DiffTellsWrongFalsely : Prop := diffTellsRow.holds Try.pinned (OpenSpec.ofChange diffTellsWrong)

/-- 'vedettelaw16.DiffFolds': WHATEVER THE INPUT: true; the input reads as it did. -/
def diffFoldsSpec : ChangeSpec := { name := "diffFolds", fn := fun _ => fun
  | [d1, d2, d3, d4] => { results := [.lit (.bool true)], args := [d1, d2, d3, d4] }
  | _ => none }
def diffFoldsRow : OpenClaim := { program := "ytjdlcocncacmlaa", sum := "0833146b4d1fd392869dcfc7b3d4a27e909176a16175adc29454e6624a2691b8", func := "vedette/vedettelaw16.DiffFolds", spec := "diffFolds", inPlace := ["slices.overlaps[vedette/api.Thing]"], apart := false }
def DiffFoldsSaid : Prop := diffFoldsRow.holds Try.pinned (OpenSpec.ofChange diffFoldsSpec)

/-- ITS FALSE NEIGHBOUR: 'it returns false'. Refute it at one input. -/
def diffFoldsWrong : ChangeSpec := { name := "diffFolds", fn := fun _ => fun
  | [d1, d2, d3, d4] => { results := [.lit (.bool false)], args := [d1, d2, d3, d4] }
  | _ => none }
def DiffFoldsWrongFalsely : Prop := diffFoldsRow.holds Try.pinned (OpenSpec.ofChange diffFoldsWrong)

/-- 'vedettelaw16.DiffParts': WHATEVER THE INPUT: true; the input reads as it did. -/
def diffPartsSpec : ChangeSpec := { name := "diffParts", fn := fun _ => fun
  | [d1, d2, d3, d4, d5] => { results := [.lit (.bool true)], args := [d1, d2, d3, d4, d5] }
  | _ => none }
def diffPartsRow : OpenClaim := { program := "ytjdlcocncacmlaa", sum := "0833146b4d1fd392869dcfc7b3d4a27e909176a16175adc29454e6624a2691b8", func := "vedette/vedettelaw16.DiffParts", spec := "diffParts", apart := false }
def DiffPartsSaid : Prop := diffPartsRow.holds Try.pinned (OpenSpec.ofChange diffPartsSpec)

/-- ITS FALSE NEIGHBOUR: 'it returns false'. Refute it at one input. -/
def diffPartsWrong : ChangeSpec := { name := "diffParts", fn := fun _ => fun
  | [d1, d2, d3, d4, d5] => { results := [.lit (.bool false)], args := [d1, d2, d3, d4, d5] }
  | _ => none }
def DiffPartsWrongFalsely : Prop := diffPartsRow.holds Try.pinned (OpenSpec.ofChange diffPartsWrong)

/-- 'vedettelaw16.DiffRects': WHATEVER THE INPUT: true; the input reads as it did. -/
def diffRectsSpec : ChangeSpec := { name := "diffRects", fn := fun _ => fun
  | [d1, d2, d3] => { results := [.lit (.bool true)], args := [d1, d2, d3] }
  | _ => none }
def diffRectsRow : OpenClaim := { program := "ytjdlcocncacmlaa", sum := "0833146b4d1fd392869dcfc7b3d4a27e909176a16175adc29454e6624a2691b8", func := "vedette/vedettelaw16.DiffRects", spec := "diffRects", apart := false }
def DiffRectsSaid : Prop := diffRectsRow.holds Try.pinned (OpenSpec.ofChange diffRectsSpec)

/-- ITS FALSE NEIGHBOUR: 'it returns false'. Refute it at one input. -/
def diffRectsWrong : ChangeSpec := { name := "diffRects", fn := fun _ => fun
  | [d1, d2, d3] => { results := [.lit (.bool false)], args := [d1, d2, d3] }
  | _ => none }
def DiffRectsWrongFalsely : Prop := diffRectsRow.holds Try.pinned (OpenSpec.ofChange diffRectsWrong)

/-- 'vedettelaw16.DiffBlind': WHATEVER THE INPUT: true; the input reads as it did. -/
def diffBlindSpec : ChangeSpec := { name := "diffBlind", fn := fun _ => fun
  | [d1, d2, d3] => { results := [.lit (.bool true)], args := [d1, d2, d3] }
  | _ => none }
def diffBlindRow : OpenClaim := { program := "ytjdlcocncacmlaa", sum := "0833146b4d1fd392869dcfc7b3d4a27e909176a16175adc29454e6624a2691b8", func := "vedette/vedettelaw16.DiffBlind", spec := "diffBlind", apart := false }
def DiffBlindSaid : Prop := diffBlindRow.holds Try.pinned (OpenSpec.ofChange diffBlindSpec)

/-- ITS FALSE NEIGHBOUR: 'it returns false'. Refute it at one input. -/
def diffBlindWrong : ChangeSpec := { name := "diffBlind", fn := fun _ => fun
  | [d1, d2, d3] => { results := [.lit (.bool false)], args := [d1, d2, d3] }
  | _ => none }
def DiffBlindWrongFalsely : Prop := diffBlindRow.holds Try.pinned (OpenSpec.ofChange diffBlindWrong)

/- THE SECOND FORM. 'bulk': how many values and letters a reading holds, each counted each time it is reached (what is shared counts as often as it is met; a slice's spare places count too). A statement '..UptoSaid' is the law's where the arguments, and the package variables that the reading takes, are together of bulk at most 1048576: NARROWER than '..Said'. Prove '..Said' where nothing that the law and all that it calls make is longer than what came in: it says more and counts as full. Else prove '..UptoSaid'. A law counts once. -/
mutual
def uptoBulk {H : Type} : DataW H → Nat
  | .lit (.string bytes) => bytes.length + 1
  | .lit _ => 1
  | .nil => 1
  | .ptr d => uptoBulk d + 1
  | .slice elems spare => uptoBulkAll elems + uptoBulkAll spare + 1
  | .agg parts => uptoBulkAll parts + 1
  | .iface _ d => uptoBulk d + 1
  | .map entries => uptoBulkEntries entries + 1
  | .held _ => 1
def uptoBulkAll {H : Type} : List (DataW H) → Nat
  | [] => 0
  | d :: r => uptoBulk d + uptoBulkAll r
def uptoBulkEntries {H : Type} : List (Lit × DataW H) → Nat
  | [] => 0
  | x :: r => uptoBulkEntry x + uptoBulkEntries r
def uptoBulkEntry {H : Type} : Lit × DataW H → Nat
  | (.string bytes, d) => bytes.length + uptoBulk d + 1
  | (_, d) => uptoBulk d + 1
 end
def uptoSmall : (H : Type) → List (DataW H) → Bool := fun _ ds => decide (uptoBulkAll ds ≤ 1048576)
def OpenSpec.upto (s : _root_.Go.ChangeSpec) : _root_.Go.OpenSpec := { _root_.Go.OpenSpec.ofChange s with cond := some uptoSmall }

/-- 'vedettelaw16.DiffTells', WHERE WHAT IT READS IS OF BULK AT MOST 1048576: true; the input reads as it did. -/
def diffTellsUptoRow : OpenClaim := { program := "ytjdlcocncacmlaa", sum := "0833146b4d1fd392869dcfc7b3d4a27e909176a16175adc29454e6624a2691b8", func := "vedette/vedettelaw16.DiffTells", spec := "diffTells", apart := false, narrowed := true }
def DiffTellsUptoSaid : Prop := diffTellsUptoRow.holds Try.pinned (OpenSpec.upto diffTellsSpec)

/-- 'vedettelaw16.DiffFolds', WHERE WHAT IT READS IS OF BULK AT MOST 1048576: true; the input reads as it did. -/
def diffFoldsUptoRow : OpenClaim := { program := "ytjdlcocncacmlaa", sum := "0833146b4d1fd392869dcfc7b3d4a27e909176a16175adc29454e6624a2691b8", func := "vedette/vedettelaw16.DiffFolds", spec := "diffFolds", inPlace := ["slices.overlaps[vedette/api.Thing]"], apart := false, narrowed := true }
def DiffFoldsUptoSaid : Prop := diffFoldsUptoRow.holds Try.pinned (OpenSpec.upto diffFoldsSpec)

/-- 'vedettelaw16.DiffParts', WHERE WHAT IT READS IS OF BULK AT MOST 1048576: true; the input reads as it did. -/
def diffPartsUptoRow : OpenClaim := { program := "ytjdlcocncacmlaa", sum := "0833146b4d1fd392869dcfc7b3d4a27e909176a16175adc29454e6624a2691b8", func := "vedette/vedettelaw16.DiffParts", spec := "diffParts", apart := false, narrowed := true }
def DiffPartsUptoSaid : Prop := diffPartsUptoRow.holds Try.pinned (OpenSpec.upto diffPartsSpec)

/-- 'vedettelaw16.DiffRects', WHERE WHAT IT READS IS OF BULK AT MOST 1048576: true; the input reads as it did. -/
def diffRectsUptoRow : OpenClaim := { program := "ytjdlcocncacmlaa", sum := "0833146b4d1fd392869dcfc7b3d4a27e909176a16175adc29454e6624a2691b8", func := "vedette/vedettelaw16.DiffRects", spec := "diffRects", apart := false, narrowed := true }
def DiffRectsUptoSaid : Prop := diffRectsUptoRow.holds Try.pinned (OpenSpec.upto diffRectsSpec)

/-- 'vedettelaw16.DiffBlind', WHERE WHAT IT READS IS OF BULK AT MOST 1048576: true; the input reads as it did. -/
def diffBlindUptoRow : OpenClaim := { program := "ytjdlcocncacmlaa", sum := "0833146b4d1fd392869dcfc7b3d4a27e909176a16175adc29454e6624a2691b8", func := "vedette/vedettelaw16.DiffBlind", spec := "diffBlind", apart := false, narrowed := true }
def DiffBlindUptoSaid : Prop := diffBlindUptoRow.holds Try.pinned (OpenSpec.upto diffBlindSpec)

end Rows
end Go.Proofs.Ytjdlcocncacmlaa
