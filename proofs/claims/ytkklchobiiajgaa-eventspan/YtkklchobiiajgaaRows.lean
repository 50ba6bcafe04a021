/-
  No cell of these rows narrows 'for every input' (looked for: loops, veiled, ifaces, maps, wideKeys, modest, calm, conditions, laid).
  DERIVED. THE GIVEN ROWS OF THIS SEAT. 5 by the template 'for every input the law returns true; each argument reads behind the call as it read before'; 0 by the template 'total and deterministic' (their statements: YtkklchobiiajgaaTotals.lean).
  GIVEN WITH THE SEED: the statements are not yours to turn. If you find one false, say at which input.
  Laid BY PROGRAM, IN A SANDBOX (cutbox-rows.mjs): the forced cells as the released guide's own fill.sh prints them over the translation 07cbd4d914a1ce6a… (all of the seat's roots in one cut). By AI agents, Wed Nov 11 2026. No macro, syntax, notation, axiom, sorry.
-/
import Derived.Test.YtkklchobiiajgaaChecked
import GoSem.Claim
import GoSem.ClaimJoined
import GoSem.ClaimMapViews
import Derived.JoinedTies
import Derived.KernelRfl
namespace Go.Proofs.Ytkklchobiiajgaa
/- THE CELL 'sum', in the pinned program and in every row, IS THE sha256 OF THE DUMP (.gsa) THAT YtkklchobiiajgaaProg.lean LOADS. Nothing in Lean hashes anything: it is a label: what it is worth is what the hold of that sum in a sandbox is worth. -/
noncomputable def Try.pinned : Pinned := { name := "ytkklchobiiajgaa", sum := "07cbd4d914a1ce6ae34780b806cef966ebcf8b02f5316ac98e2693dc33259975", checked := Try.checked }
namespace Rows
def none {H : Type} : Left H := { results := [], args := [] }

/-- 'vedettelaw15.EventTells': WHATEVER THE INPUT: true; the input reads as it did. -/
def eventTellsSpec : ChangeSpec := { name := "eventTells", fn := fun _ => fun
  | [d1, d2, d3] => { results := [.lit (.bool true)], args := [d1, d2, d3] }
  | _ => none }
def eventTellsRow : OpenClaim := { program := "ytkklchobiiajgaa", sum := "07cbd4d914a1ce6ae34780b806cef966ebcf8b02f5316ac98e2693dc33259975", func := "vedette/vedettelaw15.EventTells", spec := "eventTells", inPlace := ["slices.overlaps[vedette/api.Thing]"], unfollowed := true, recurses := true, apart := false }
def EventTellsSaid : Prop := eventTellsRow.holds Try.pinned (OpenSpec.ofChange eventTellsSpec)

/-- ITS FALSE NEIGHBOUR: 'it returns false'. Refute it at one input. -/
def eventTellsWrong : ChangeSpec := { name := "eventTells", fn := fun _ => fun
  | [d1, d2, d3] => { results := [.lit (.bool false)], args := [d1, d2, d3] }
  | _ => none }
def EventTellsWrongFalsely : Prop := eventTellsRow.holds Try.pinned (OpenSpec.ofChange eventTellsWrong)

/-- 'vedettelaw15.EventReads': WHATEVER THE INPUT: true; the input reads as it did. -/
def eventReadsSpec : ChangeSpec := { name := "eventReads", fn := fun _ => fun
  | [d] => { results := [.lit (.bool true)], args := [d] }
  | _ => none }
def eventReadsRow : OpenClaim := { program := "ytkklchobiiajgaa", sum := "07cbd4d914a1ce6ae34780b806cef966ebcf8b02f5316ac98e2693dc33259975", func := "vedette/vedettelaw15.EventReads", spec := "eventReads", inPlace := ["slices.overlaps[vedette/api.Thing]"], unfollowed := true, recurses := true, apart := false }
def EventReadsSaid : Prop := eventReadsRow.holds Try.pinned (OpenSpec.ofChange eventReadsSpec)

/-- ITS FALSE NEIGHBOUR: 'it returns false'. Refute it at one input. -/
def eventReadsWrong : ChangeSpec := { name := "eventReads", fn := fun _ => fun
  | [d] => { results := [.lit (.bool false)], args := [d] }
  | _ => none }
def EventReadsWrongFalsely : Prop := eventReadsRow.holds Try.pinned (OpenSpec.ofChange eventReadsWrong)

/-- 'vedettelaw15.EventBack': WHATEVER THE INPUT: true; the input reads as it did. -/
def eventBackSpec : ChangeSpec := { name := "eventBack", fn := fun _ => fun
  | [d1, d2, d3] => { results := [.lit (.bool true)], args := [d1, d2, d3] }
  | _ => none }
def eventBackRow : OpenClaim := { program := "ytkklchobiiajgaa", sum := "07cbd4d914a1ce6ae34780b806cef966ebcf8b02f5316ac98e2693dc33259975", func := "vedette/vedettelaw15.EventBack", spec := "eventBack", inPlace := ["slices.overlaps[vedette/api.Thing]"], unfollowed := true, recurses := true, apart := false }
def EventBackSaid : Prop := eventBackRow.holds Try.pinned (OpenSpec.ofChange eventBackSpec)

/-- ITS FALSE NEIGHBOUR: 'it returns false'. Refute it at one input. -/
def eventBackWrong : ChangeSpec := { name := "eventBack", fn := fun _ => fun
  | [d1, d2, d3] => { results := [.lit (.bool false)], args := [d1, d2, d3] }
  | _ => none }
def EventBackWrongFalsely : Prop := eventBackRow.holds Try.pinned (OpenSpec.ofChange eventBackWrong)

/-- 'vedettelaw15.EventSpoils': WHATEVER THE INPUT: true; the input reads as it did. -/
def eventSpoilsSpec : ChangeSpec := { name := "eventSpoils", fn := fun _ => fun
  | [d1, d2] => { results := [.lit (.bool true)], args := [d1, d2] }
  | _ => none }
def eventSpoilsRow : OpenClaim := { program := "ytkklchobiiajgaa", sum := "07cbd4d914a1ce6ae34780b806cef966ebcf8b02f5316ac98e2693dc33259975", func := "vedette/vedettelaw15.EventSpoils", spec := "eventSpoils", inPlace := ["slices.overlaps[vedette/api.Thing]"], unfollowed := true, recurses := true, apart := false }
def EventSpoilsSaid : Prop := eventSpoilsRow.holds Try.pinned (OpenSpec.ofChange eventSpoilsSpec)

/-- ITS FALSE NEIGHBOUR: 'it returns false'. Refute it at one input. -/
def eventSpoilsWrong : ChangeSpec := { name := "eventSpoils", fn := fun _ => fun
  | [d1, d2] => { results := [.lit (.bool false)], args := [d1, d2] }
  | _ => none }
def EventSpoilsWrongFalsely : Prop := eventSpoilsRow.holds Try.pinned (OpenSpec.ofChange eventSpoilsWrong)

/-- 'vedettelaw15.EventSpan': WHATEVER THE INPUT: true; the input reads as it did. -/
def eventSpanSpec : ChangeSpec := { name := "eventSpan", fn := fun _ => fun
  | [d1, d2] => { results := [.lit (.bool true)], args := [d1, d2] }
  | _ => none }
def eventSpanRow : OpenClaim := { program := "ytkklchobiiajgaa", sum := "07cbd4d914a1ce6ae34780b806cef966ebcf8b02f5316ac98e2693dc33259975", func := "vedette/vedettelaw15.EventSpan", spec := "eventSpan", inPlace := ["slices.overlaps[vedette/api.Thing]"], unfollowed := true, recurses := true, apart := false }
def EventSpanSaid : Prop := eventSpanRow.holds Try.pinned (OpenSpec.ofChange eventSpanSpec)

/-- ITS FALSE NEIGHBOUR: 'it returns false'. Refute it at one input. -/
def eventSpanWrong : ChangeSpec := { name := "eventSpan", fn := fun _ => fun
  | [d1, d2] => { results := [.lit (.bool false)], args := [d1, d2] }
  | _ => none }
def EventSpanWrongFalsely : Prop := eventSpanRow.holds Try.pinned (OpenSpec.ofChange eventSpanWrong)

/- THE SECOND FORM. 'bulk': how many values and letters a reading holds, each counted each time it is reached (what is shared counts as often as it is met; a slice's spare places count too). A statement '..UptoSaid' is the law's where the arguments, and the package variables that the reading takes, are together of bulk at most 1048576: NARROWER than '..Said'. Prove '..Said' where nothing that the law and all that it calls make is longer than what came in: it says more and counts as full. Else prove '..UptoSaid'. A law counts once. -/
mutual
def uptoBulk {H : Type} : DataW H → Nat
  | .lit (.string bytes) => bytes.length + 1
  | .lit _ => 1
  | .nil => 1
  | .ptr d => uptoBulk d + 1
  | .slice elems spare => uptoBulkAll elems + uptoBulkAll spare + 1
  | .agg parts => uptoBulkAll parts + 1
  | .iface _ d => uptoBulk d + 1
  | .map entries => uptoBulkEntries entries + 1
  | .held _ => 1
def uptoBulkAll {H : Type} : List (DataW H) → Nat
  | [] => 0
  | d :: r => uptoBulk d + uptoBulkAll r
def uptoBulkEntries {H : Type} : List (Lit × DataW H) → Nat
  | [] => 0
  | x :: r => uptoBulkEntry x + uptoBulkEntries r
def uptoBulkEntry {H : Type} : Lit × DataW H → Nat
  | (.string bytes, d) => bytes.length + uptoBulk d + 1
  | (_, d) => uptoBulk d + 1
 end
def uptoSmall : (H : Type) → List (DataW H) → Bool := fun _ ds => decide (uptoBulkAll ds ≤ 1048576)
def OpenSpec.upto (s : _root_.Go.ChangeSpec) : _root_.Go.OpenSpec := { _root_.Go.OpenSpec.ofChange s with cond := some uptoSmall }

/-- 'vedettelaw15.EventTells', WHERE WHAT IT READS IS OF BULK AT MOST 1048576: true; the input reads as it did. -/
def eventTellsUptoRow : OpenClaim := { program := "ytkklchobiiajgaa", sum := "07cbd4d914a1ce6ae34780b806cef966ebcf8b02f5316ac98e2693dc33259975", func := "vedette/vedettelaw15.EventTells", spec := "eventTells", inPlace := ["slices.overlaps[vedette/api.Thing]"], unfollowed := true, recurses := true, apart := false, narrowed := true }
def EventTellsUptoSaid : Prop := eventTellsUptoRow.holds Try.pinned (OpenSpec.upto eventTellsSpec)

/-- 'vedettelaw15.EventReads', WHERE WHAT IT READS IS OF BULK AT MOST 1048576: true; the input reads as it did. -/
def eventReadsUptoRow : OpenClaim := { program := "ytkklchobiiajgaa", sum := "07cbd4d914a1ce6ae34780b806cef966ebcf8b02f5316ac98e2693dc33259975", func := "vedette/vedettelaw15.EventReads", spec := "eventReads", inPlace := ["slices.overlaps[vedette/api.Thing]"], unfollowed := true, recurses := true, apart := false, narrowed := true }
def EventReadsUptoSaid : Prop := eventReadsUptoRow.holds Try.pinned (OpenSpec.upto eventReadsSpec)

/-- 'vedettelaw15.EventBack', WHERE WHAT IT READS IS OF BULK AT MOST 1048576: true; the input reads as it did. -/
def eventBackUptoRow : OpenClaim := { program := "ytkklchobiiajgaa", sum := "07cbd4d914a1ce6ae34780b806cef966ebcf8b02f5316ac98e2693dc33259975", func := "vedette/vedettelaw15.EventBack", spec := "eventBack", inPlace := ["slices.overlaps[vedette/api.Thing]"], unfollowed := true, recurses := true, apart := false, narrowed := true }
def EventBackUptoSaid : Prop := eventBackUptoRow.holds Try.pinned (OpenSpec.upto eventBackSpec)

/-- 'vedettelaw15.EventSpoils', WHERE WHAT IT READS IS OF BULK AT MOST 1048576: true; the input reads as it did. -/
def eventSpoilsUptoRow : OpenClaim := { program := "ytkklchobiiajgaa", sum := "07cbd4d914a1ce6ae34780b806cef966ebcf8b02f5316ac98e2693dc33259975", func := "vedette/vedettelaw15.EventSpoils", spec := "eventSpoils", inPlace := ["slices.overlaps[vedette/api.Thing]"], unfollowed := true, recurses := true, apart := false, narrowed := true }
def EventSpoilsUptoSaid : Prop := eventSpoilsUptoRow.holds Try.pinned (OpenSpec.upto eventSpoilsSpec)

/-- 'vedettelaw15.EventSpan', WHERE WHAT IT READS IS OF BULK AT MOST 1048576: true; the input reads as it did. -/
def eventSpanUptoRow : OpenClaim := { program := "ytkklchobiiajgaa", sum := "07cbd4d914a1ce6ae34780b806cef966ebcf8b02f5316ac98e2693dc33259975", func := "vedette/vedettelaw15.EventSpan", spec := "eventSpan", inPlace := ["slices.overlaps[vedette/api.Thing]"], unfollowed := true, recurses := true, apart := false, narrowed := true }
def EventSpanUptoSaid : Prop := eventSpanUptoRow.holds Try.pinned (OpenSpec.upto eventSpanSpec)

end Rows
end Go.Proofs.Ytkklchobiiajgaa
