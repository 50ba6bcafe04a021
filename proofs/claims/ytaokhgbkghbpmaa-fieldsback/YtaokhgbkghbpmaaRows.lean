/-
  No cell of these rows narrows 'for every input' (looked for: loops, veiled, ifaces, maps, wideKeys, modest, calm, conditions, laid).
  DERIVED. THE GIVEN ROWS OF THIS SEAT. 6 by the template 'for every input the law returns true; each argument reads behind the call as it read before'; 0 by the template 'total and deterministic' (their statements: YtaokhgbkghbpmaaTotals.lean).
  GIVEN WITH THE SEED: the statements are not yours to turn. If you find one false, say at which input.
  Laid BY PROGRAM, IN A SANDBOX (cutbox-rows.mjs): the forced cells as the released guide's own fill.sh prints them over the translation f51c29ad8586c675… (all of the seat's roots in one cut). By AI agents, Wed Nov 11 2026. No macro, syntax, notation, axiom, sorry.
-/
import Derived.Test.YtaokhgbkghbpmaaChecked
import GoSem.Claim
import GoSem.ClaimJoined
import GoSem.ClaimMapViews
import Derived.JoinedTies
import Derived.KernelRfl
namespace Go.Proofs.Ytaokhgbkghbpmaa
/- THE CELL 'sum', in the pinned program and in every row, IS THE sha256 OF THE DUMP (.gsa) THAT YtaokhgbkghbpmaaProg.lean LOADS. Nothing in Lean hashes anything: it is a label: what it is worth is what the hold of that sum in a sandbox is worth. -/
noncomputable def Try.pinned : Pinned := { name := "ytaokhgbkghbpmaa", sum := "f51c29ad8586c675fe8406537789c4e31bdec9b24f2485a7801c73010f61cf46", checked := Try.checked }
namespace Rows
def none {H : Type} : Left H := { results := [], args := [] }

/-- 'vedettelaw6.FieldsTell': WHATEVER THE INPUT: true; the input reads as it did. -/
def fieldsTellSpec : ChangeSpec := { name := "fieldsTell", fn := fun _ => fun
  | [d1, d2, d3, d4] => { results := [.lit (.bool true)], args := [d1, d2, d3, d4] }
  | _ => none }
def fieldsTellRow : OpenClaim := { program := "ytaokhgbkghbpmaa", sum := "f51c29ad8586c675fe8406537789c4e31bdec9b24f2485a7801c73010f61cf46", func := "vedette/vedettelaw6.FieldsTell", spec := "fieldsTell", apart := false }
def FieldsTellSaid : Prop := fieldsTellRow.holds Try.pinned (OpenSpec.ofChange fieldsTellSpec)

/-- ITS FALSE NEIGHBOUR: 'it returns false'. Refute it at one input. -/
def fieldsTellWrong : ChangeSpec := { name := "fieldsTell", fn := fun _ => fun
  | [d1, d2, d3, d4] => { results := [.lit (.bool false)], args := [d1, d2, d3, d4] }
  | _ => none }
def FieldsTellWrongFalsely : Prop := fieldsTellRow.holds Try.pinned (OpenSpec.ofChange fieldsTellWrong)

/-- 'vedettelaw6.FieldsRead': WHATEVER THE INPUT: true; the input reads as it did. -/
def fieldsReadSpec : ChangeSpec := { name := "fieldsRead", fn := fun _ => fun
  | [d] => { results := [.lit (.bool true)], args := [d] }
  | _ => none }
def fieldsReadRow : OpenClaim := { program := "ytaokhgbkghbpmaa", sum := "f51c29ad8586c675fe8406537789c4e31bdec9b24f2485a7801c73010f61cf46", func := "vedette/vedettelaw6.FieldsRead", spec := "fieldsRead", apart := false }
def FieldsReadSaid : Prop := fieldsReadRow.holds Try.pinned (OpenSpec.ofChange fieldsReadSpec)

/-- ITS FALSE NEIGHBOUR: 'it returns false'. Refute it at one input. -/
def fieldsReadWrong : ChangeSpec := { name := "fieldsRead", fn := fun _ => fun
  | [d] => { results := [.lit (.bool false)], args := [d] }
  | _ => none }
def FieldsReadWrongFalsely : Prop := fieldsReadRow.holds Try.pinned (OpenSpec.ofChange fieldsReadWrong)

/-- 'vedettelaw6.FieldsBack': WHATEVER THE INPUT: true; the input reads as it did. -/
def fieldsBackSpec : ChangeSpec := { name := "fieldsBack", fn := fun _ => fun
  | [d1, d2, d3] => { results := [.lit (.bool true)], args := [d1, d2, d3] }
  | _ => none }
def fieldsBackRow : OpenClaim := { program := "ytaokhgbkghbpmaa", sum := "f51c29ad8586c675fe8406537789c4e31bdec9b24f2485a7801c73010f61cf46", func := "vedette/vedettelaw6.FieldsBack", spec := "fieldsBack", apart := false }
def FieldsBackSaid : Prop := fieldsBackRow.holds Try.pinned (OpenSpec.ofChange fieldsBackSpec)

/-- ITS FALSE NEIGHBOUR: 'it returns false'. Refute it at one input. -/
def fieldsBackWrong : ChangeSpec := { name := "fieldsBack", fn := fun _ => fun
  | [d1, d2, d3] => { results := [.lit (.bool false)], args := [d1, d2, d3] }
  | _ => none }
def FieldsBackWrongFalsely : Prop := fieldsBackRow.holds Try.pinned (OpenSpec.ofChange fieldsBackWrong)

/-- 'vedettelaw6.FieldsChain': WHATEVER THE INPUT: true; the input reads as it did. -/
def fieldsChainSpec : ChangeSpec := { name := "fieldsChain", fn := fun _ => fun
  | [d1, d2, d3] => { results := [.lit (.bool true)], args := [d1, d2, d3] }
  | _ => none }
def fieldsChainRow : OpenClaim := { program := "ytaokhgbkghbpmaa", sum := "f51c29ad8586c675fe8406537789c4e31bdec9b24f2485a7801c73010f61cf46", func := "vedette/vedettelaw6.FieldsChain", spec := "fieldsChain", apart := false }
def FieldsChainSaid : Prop := fieldsChainRow.holds Try.pinned (OpenSpec.ofChange fieldsChainSpec)

/-- ITS FALSE NEIGHBOUR: 'it returns false'. Refute it at one input. -/
def fieldsChainWrong : ChangeSpec := { name := "fieldsChain", fn := fun _ => fun
  | [d1, d2, d3] => { results := [.lit (.bool false)], args := [d1, d2, d3] }
  | _ => none }
def FieldsChainWrongFalsely : Prop := fieldsChainRow.holds Try.pinned (OpenSpec.ofChange fieldsChainWrong)

/-- 'vedettelaw6.FieldsOne': WHATEVER THE INPUT: true; the input reads as it did. -/
def fieldsOneSpec : ChangeSpec := { name := "fieldsOne", fn := fun _ => fun
  | [d1, d2, d3] => { results := [.lit (.bool true)], args := [d1, d2, d3] }
  | _ => none }
def fieldsOneRow : OpenClaim := { program := "ytaokhgbkghbpmaa", sum := "f51c29ad8586c675fe8406537789c4e31bdec9b24f2485a7801c73010f61cf46", func := "vedette/vedettelaw6.FieldsOne", spec := "fieldsOne", apart := false }
def FieldsOneSaid : Prop := fieldsOneRow.holds Try.pinned (OpenSpec.ofChange fieldsOneSpec)

/-- ITS FALSE NEIGHBOUR: 'it returns false'. Refute it at one input. -/
def fieldsOneWrong : ChangeSpec := { name := "fieldsOne", fn := fun _ => fun
  | [d1, d2, d3] => { results := [.lit (.bool false)], args := [d1, d2, d3] }
  | _ => none }
def FieldsOneWrongFalsely : Prop := fieldsOneRow.holds Try.pinned (OpenSpec.ofChange fieldsOneWrong)

/-- 'vedettelaw6.FieldsSpoils': WHATEVER THE INPUT: true; the input reads as it did. -/
def fieldsSpoilsSpec : ChangeSpec := { name := "fieldsSpoils", fn := fun _ => fun
  | [d1, d2] => { results := [.lit (.bool true)], args := [d1, d2] }
  | _ => none }
def fieldsSpoilsRow : OpenClaim := { program := "ytaokhgbkghbpmaa", sum := "f51c29ad8586c675fe8406537789c4e31bdec9b24f2485a7801c73010f61cf46", func := "vedette/vedettelaw6.FieldsSpoils", spec := "fieldsSpoils", apart := false }
def FieldsSpoilsSaid : Prop := fieldsSpoilsRow.holds Try.pinned (OpenSpec.ofChange fieldsSpoilsSpec)

/-- ITS FALSE NEIGHBOUR: 'it returns false'. Refute it at one input. -/
def fieldsSpoilsWrong : ChangeSpec := { name := "fieldsSpoils", fn := fun _ => fun
  | [d1, d2] => { results := [.lit (.bool false)], args := [d1, d2] }
  | _ => none }
def FieldsSpoilsWrongFalsely : Prop := fieldsSpoilsRow.holds Try.pinned (OpenSpec.ofChange fieldsSpoilsWrong)

/- THE SECOND FORM. 'bulk': how many values and letters a reading holds, each counted each time it is reached (what is shared counts as often as it is met; a slice's spare places count too). A statement '..UptoSaid' is the law's where the arguments, and the package variables that the reading takes, are together of bulk at most 1048576: NARROWER than '..Said'. Prove '..Said' where nothing that the law and all that it calls make is longer than what came in: it says more and counts as full. Else prove '..UptoSaid'. A law counts once. -/
mutual
def uptoBulk {H : Type} : DataW H → Nat
  | .lit (.string bytes) => bytes.length + 1
  | .lit _ => 1
  | .nil => 1
  | .ptr d => uptoBulk d + 1
  | .slice elems spare => uptoBulkAll elems + uptoBulkAll spare + 1
  | .agg parts => uptoBulkAll parts + 1
  | .iface _ d => uptoBulk d + 1
  | .map entries => uptoBulkEntries entries + 1
  | .held _ => 1
def uptoBulkAll {H : Type} : List (DataW H) → Nat
  | [] => 0
  | d :: r => uptoBulk d + uptoBulkAll r
def uptoBulkEntries {H : Type} : List (Lit × DataW H) → Nat
  | [] => 0
  | x :: r => uptoBulkEntry x + uptoBulkEntries r
def uptoBulkEntry {H : Type} : Lit × DataW H → Nat
  | (.string bytes, d) => bytes.length + uptoBulk d + 1
  | (_, d) => uptoBulk d + 1
 end
def uptoSmall : (H : Type) → List (DataW H) → Bool := fun _ ds => decide (uptoBulkAll ds ≤ 1048576)
def OpenSpec.upto (s : _root_.Go.ChangeSpec) : _root_.Go.OpenSpec := { _root_.Go.OpenSpec.ofChange s with cond := some uptoSmall }

/-- 'vedettelaw6.FieldsTell', WHERE WHAT IT READS IS OF BULK AT MOST 1048576: true; the input reads as it did. -/
def fieldsTellUptoRow : OpenClaim := { program := "ytaokhgbkghbpmaa", sum := "f51c29ad8586c675fe8406537789c4e31bdec9b24f2485a7801c73010f61cf46", func := "vedette/vedettelaw6.FieldsTell", spec := "fieldsTell", apart := false, narrowed := true }
def FieldsTellUptoSaid : Prop := fieldsTellUptoRow.holds Try.pinned (OpenSpec.upto fieldsTellSpec)

/-- 'vedettelaw6.FieldsRead', WHERE WHAT IT READS IS OF BULK AT MOST 1048576: true; the input reads as it did. -/
def fieldsReadUptoRow : OpenClaim := { program := "ytaokhgbkghbpmaa", sum := "f51c29ad8586c675fe8406537789c4e31bdec9b24f2485a7801c73010f61cf46", func := "vedette/vedettelaw6.FieldsRead", spec := "fieldsRead", apart := false, narrowed := true }
def FieldsReadUptoSaid : Prop := fieldsReadUptoRow.holds Try.pinned (OpenSpec.upto fieldsReadSpec)

/-- 'vedettelaw6.FieldsBack', WHERE WHAT IT READS IS OF BULK AT MOST 1048576: true; the input reads as it did. -/
def fieldsBackUptoRow : OpenClaim := { program := "ytaokhgbkghbpmaa", sum := "f51c29ad8586c675fe8406537789c4e31bdec9b24f2485a7801c73010f61cf46", func := "vedette/vedettelaw6.FieldsBack", spec := "fieldsBack", apart := false, narrowed := true }
def FieldsBackUptoSaid : Prop := fieldsBackUptoRow.holds Try.pinned (OpenSpec.upto fieldsBackSpec)

/-- 'vedettelaw6.FieldsChain', WHERE WHAT IT READS IS OF BULK AT MOST 1048576: true; the input reads as it did. -/
def fieldsChainUptoRow : OpenClaim := { program := "ytaokhgbkghbpmaa", sum := "f51c29ad8586c675fe8406537789c4e31bdec9b24f2485a7801c73010f61cf46", func := "vedette/vedettelaw6.FieldsChain", spec := "fieldsChain", apart := false, narrowed := true }
def FieldsChainUptoSaid : Prop := fieldsChainUptoRow.holds Try.pinned (OpenSpec.upto fieldsChainSpec)

/-- 'vedettelaw6.FieldsOne', WHERE WHAT IT READS IS OF BULK AT MOST 1048576: true; the input reads as it did. -/
def fieldsOneUptoRow : OpenClaim := { program := "ytaokhgbkghbpmaa", sum := "f51c29ad8586c675fe8406537789c4e31bdec9b24f2485a7801c73010f61cf46", func := "vedette/vedettelaw6.FieldsOne", spec := "fieldsOne", apart := false, narrowed := true }
def FieldsOneUptoSaid : Prop := fieldsOneUptoRow.holds Try.pinned (OpenSpec.upto fieldsOneSpec)

/-- 'vedettelaw6.FieldsSpoils', WHERE WHAT IT READS IS OF BULK AT MOST 1048576: true; the input reads as it did. -/
def fieldsSpoilsUptoRow : OpenClaim := { program := "ytaokhgbkghbpmaa", sum := "f51c29ad8586c675fe8406537789c4e31bdec9b24f2485a7801c73010f61cf46", func := "vedette/vedettelaw6.FieldsSpoils", spec := "fieldsSpoils", apart := false, narrowed := true }
def FieldsSpoilsUptoSaid : Prop := fieldsSpoilsUptoRow.holds Try.pinned (OpenSpec.upto fieldsSpoilsSpec)

end Rows
end Go.Proofs.Ytaokhgbkghbpmaa
