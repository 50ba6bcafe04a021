/-
  No cell of these rows narrows 'for every input' (looked for: loops, veiled, ifaces, maps, wideKeys, modest, calm, conditions, laid).
  DERIVED. THE GIVEN ROWS OF THIS SEAT. 3 by the template 'for every input the law returns true; each argument reads behind the call as it read before'; 0 by the template 'total and deterministic' (their statements: YthgnmpgdlemdlaaTotals.lean).
  GIVEN WITH THE SEED: the statements are not yours to turn. If you find one false, say at which input.
  Laid BY PROGRAM, IN A SANDBOX (cutbox-rows.mjs): the forced cells as the released guide's own fill.sh prints them over the translation 66ad3b5133617b3b… (all of the seat's roots in one cut). By AI agents, Wed Nov 11 2026. No macro, syntax, notation, axiom, sorry.
-/
import Derived.Test.YthgnmpgdlemdlaaChecked
import GoSem.Claim
import GoSem.ClaimJoined
import GoSem.ClaimMapViews
import Derived.JoinedTies
import Derived.KernelRfl
namespace Go.Proofs.Ythgnmpgdlemdlaa
/- THE CELL 'sum', in the pinned program and in every row, IS THE sha256 OF THE DUMP (.gsa) THAT YthgnmpgdlemdlaaProg.lean LOADS. Nothing in Lean hashes anything: it is a label: what it is worth is what the hold of that sum in a sandbox is worth. -/
noncomputable def Try.pinned : Pinned := { name := "ythgnmpgdlemdlaa", sum := "66ad3b5133617b3b356167cdedc40385326c5034ec30ffda45d578fb7d52ce11", checked := Try.checked }
namespace Rows
def none {H : Type} : Left H := { results := [], args := [] }

/-- 'vedettelaw14.WatchPlays': WHATEVER THE INPUT: true; the input reads as it did. -/
def watchPlaysSpec : ChangeSpec := { name := "watchPlays", fn := fun _ => fun
  | [d1, d2, d3, d4] => { results := [.lit (.bool true)], args := [d1, d2, d3, d4] }
  | _ => none }
def watchPlaysRow : OpenClaim := { program := "ythgnmpgdlemdlaa", sum := "66ad3b5133617b3b356167cdedc40385326c5034ec30ffda45d578fb7d52ce11", func := "vedette/vedettelaw14.WatchPlays", spec := "watchPlays", unfollowed := true, recurses := true, apart := false }
def WatchPlaysSaid : Prop := watchPlaysRow.holds Try.pinned (OpenSpec.ofChange watchPlaysSpec)

/-- ITS FALSE NEIGHBOUR: 'it returns false'. Refute it at one input. -/
def watchPlaysWrong : ChangeSpec := { name := "watchPlays", fn := fun _ => fun
  | [d1, d2, d3, d4] => { results := [.lit (.bool false)], args := [d1, d2, d3, d4] }
  | _ => none }
def WatchPlaysWrongFalsely : Prop := watchPlaysRow.holds Try.pinned (OpenSpec.ofChange watchPlaysWrong)

/-- 'vedettelaw14.WatchSessions': WHATEVER THE INPUT: true; the input reads as it did. -/
def watchSessionsSpec : ChangeSpec := { name := "watchSessions", fn := fun _ => fun
  | [d1, d2] => { results := [.lit (.bool true)], args := [d1, d2] }
  | _ => none }
def watchSessionsRow : OpenClaim := { program := "ythgnmpgdlemdlaa", sum := "66ad3b5133617b3b356167cdedc40385326c5034ec30ffda45d578fb7d52ce11", func := "vedette/vedettelaw14.WatchSessions", spec := "watchSessions", unfollowed := true, recurses := true, apart := false }
def WatchSessionsSaid : Prop := watchSessionsRow.holds Try.pinned (OpenSpec.ofChange watchSessionsSpec)

/-- ITS FALSE NEIGHBOUR: 'it returns false'. Refute it at one input. -/
def watchSessionsWrong : ChangeSpec := { name := "watchSessions", fn := fun _ => fun
  | [d1, d2] => { results := [.lit (.bool false)], args := [d1, d2] }
  | _ => none }
def WatchSessionsWrongFalsely : Prop := watchSessionsRow.holds Try.pinned (OpenSpec.ofChange watchSessionsWrong)

/-- 'vedettelaw14.WatchTurns': WHATEVER THE INPUT: true; the input reads as it did. -/
def watchTurnsSpec : ChangeSpec := { name := "watchTurns", fn := fun _ => fun
  | [d1, d2, d3, d4, d5] => { results := [.lit (.bool true)], args := [d1, d2, d3, d4, d5] }
  | _ => none }
def watchTurnsRow : OpenClaim := { program := "ythgnmpgdlemdlaa", sum := "66ad3b5133617b3b356167cdedc40385326c5034ec30ffda45d578fb7d52ce11", func := "vedette/vedettelaw14.WatchTurns", spec := "watchTurns", unfollowed := true, recurses := true, apart := false }
def WatchTurnsSaid : Prop := watchTurnsRow.holds Try.pinned (OpenSpec.ofChange watchTurnsSpec)

/-- ITS FALSE NEIGHBOUR: 'it returns false'. Refute it at one input. -/
def watchTurnsWrong : ChangeSpec := { name := "watchTurns", fn := fun _ => fun
  | [d1, d2, d3, d4, d5] => { results := [.lit (.bool false)], args := [d1, d2, d3, d4, d5] }
  | _ => none }
def WatchTurnsWrongFalsely : Prop := watchTurnsRow.holds Try.pinned (OpenSpec.ofChange watchTurnsWrong)

/- THE SECOND FORM. 'bulk': how many values and letters a reading holds, each counted each time it is reached (what is shared counts as often as it is met; a slice's spare places count too). A statement '..UptoSaid' is the law's where the arguments, and the package variables that the reading takes, are together of bulk at most 1048576: NARROWER than '..Said'. Prove '..Said' where nothing that the law and all that it calls make is longer than what came in: it says more and counts as full. Else prove '..UptoSaid'. A law counts once. -/
mutual
def uptoBulk {H : Type} : DataW H → Nat
  | .lit (.string bytes) => bytes.length + 1
  | .lit _ => 1
  | .nil => 1
  | .ptr d => uptoBulk d + 1
  | .slice elems spare => uptoBulkAll elems + uptoBulkAll spare + 1
  | .agg parts => uptoBulkAll parts + 1
  | .iface _ d => uptoBulk d + 1
  | .map entries => uptoBulkEntries entries + 1
  | .held _ => 1
def uptoBulkAll {H : Type} : List (DataW H) → Nat
  | [] => 0
  | d :: r => uptoBulk d + uptoBulkAll r
def uptoBulkEntries {H : Type} : List (Lit × DataW H) → Nat
  | [] => 0
  | x :: r => uptoBulkEntry x + uptoBulkEntries r
def uptoBulkEntry {H : Type} : Lit × DataW H → Nat
  | (.string bytes, d) => bytes.length + uptoBulk d + 1
  | (_, d) => uptoBulk d + 1
 end
def uptoSmall : (H : Type) → List (DataW H) → Bool := fun _ ds => decide (uptoBulkAll ds ≤ 1048576)
def OpenSpec.upto (s : _root_.Go.ChangeSpec) : _root_.Go.OpenSpec := { _root_.Go.OpenSpec.ofChange s with cond := some uptoSmall }

/-- 'vedettelaw14.WatchPlays', WHERE WHAT IT READS IS OF BULK AT MOST 1048576: true; the input reads as it did. -/
def watchPlaysUptoRow : OpenClaim := { program := "ythgnmpgdlemdlaa", sum := "66ad3b5133617b3b356167cdedc40385326c5034ec30ffda45d578fb7d52ce11", func := "vedette/vedettelaw14.WatchPlays", spec := "watchPlays", unfollowed := true, recurses := true, apart := false, narrowed := true }
def WatchPlaysUptoSaid : Prop := watchPlaysUptoRow.holds Try.pinned (OpenSpec.upto watchPlaysSpec)

/-- 'vedettelaw14.WatchSessions', WHERE WHAT IT READS IS OF BULK AT MOST 1048576: true; the input reads as it did. -/
def watchSessionsUptoRow : OpenClaim := { program := "ythgnmpgdlemdlaa", sum := "66ad3b5133617b3b356167cdedc40385326c5034ec30ffda45d578fb7d52ce11", func := "vedette/vedettelaw14.WatchSessions", spec := "watchSessions", unfollowed := true, recurses := true, apart := false, narrowed := true }
def WatchSessionsUptoSaid : Prop := watchSessionsUptoRow.holds Try.pinned (OpenSpec.upto watchSessionsSpec)

/-- 'vedettelaw14.WatchTurns', WHERE WHAT IT READS IS OF BULK AT MOST 1048576: true; the input reads as it did. -/
def watchTurnsUptoRow : OpenClaim := { program := "ythgnmpgdlemdlaa", sum := "66ad3b5133617b3b356167cdedc40385326c5034ec30ffda45d578fb7d52ce11", func := "vedette/vedettelaw14.WatchTurns", spec := "watchTurns", unfollowed := true, recurses := true, apart := false, narrowed := true }
def WatchTurnsUptoSaid : Prop := watchTurnsUptoRow.holds Try.pinned (OpenSpec.upto watchTurnsSpec)

end Rows
end Go.Proofs.Ythgnmpgdlemdlaa
