/-
  NARROWER THAN 'FOR EVERY INPUT', by the rows' own cells (each row's printed sentence says how): NoteTells: laid · NoteReads: laid.
  DERIVED. THE GIVEN ROWS OF THIS SEAT. 2 by the template 'for every input the law returns true; each argument reads behind the call as it read before'; 0 by the template 'total and deterministic' (their statements: YtpedngbjpbeanaaGreatDoorTotals.lean).
  GIVEN WITH THE SEED: the statements are not yours to turn. If you find one false, say at which input.
  Laid BY PROGRAM, IN A SANDBOX (cutbox-rows.mjs): the forced cells as the released guide's own fill.sh prints them over the translation 4962825df93755a3… (all of the seat's roots in one cut). By AI agents, Wed Nov 11 2026. No macro, syntax, notation, axiom, sorry.
-/
import Derived.Test.YtpedngbjpbeanaaGreatDoorChecked
import GoSem.Claim
import GoSem.ClaimJoined
import GoSem.ClaimMapViews
import Derived.JoinedTies
import Derived.KernelRfl
namespace Go.Proofs.YtpedngbjpbeanaaGreatDoor
/- THE CELL 'sum', in the pinned program and in every row, IS THE sha256 OF THE DUMP (.gsa) THAT YtpedngbjpbeanaaGreatDoorProg.lean LOADS. Nothing in Lean hashes anything: it is a label: what it is worth is what the hold of that sum in a sandbox is worth. -/
noncomputable def Tryz.pinned : Pinned := { name := "ytpedngbjpbeanaagreatdoor", sum := "4962825df93755a37aaee8ccc3ba855fadba1fe6fbb4fceff17782cf7c7e49d9", checked := Tryz.checked }
namespace Rows
def none {H : Type} : Left H := { results := [], args := [] }

/- WHAT THE LISTED PACKAGE-LEVEL VARIABLES READ AS WHEN THE CALL BEGINS. Each datum BY PROGRAM (the guide's laid-datum.mjs) off the statement by which the dump's own 'gosem.cut.vars' lays the variable. In a bare row this is a premise. The card (YtpedngbjpbeanaaGreatDoorCards.lean) ties it to the program's text. -/
def laid_vedette_morton_masks {H : Type} : DataW H := .agg [.lit (.int .u32 65535), .lit (.int .u32 16711935), .lit (.int .u32 252645135), .lit (.int .u32 858993459), .lit (.int .u32 1431655765)]

/-- 'vedettelaw17.NoteTells': WHATEVER THE INPUT: true; the input reads as it did. -/
def noteTellsSpec : ChangeSpec := { name := "noteTells", fn := fun _ => fun
  | [d1, d2, d3] => { results := [.lit (.bool true)], args := [d1, d2, d3] }
  | _ => none }
def noteTellsRow : OpenClaim := { program := "ytpedngbjpbeanaagreatdoor", sum := "4962825df93755a37aaee8ccc3ba855fadba1fe6fbb4fceff17782cf7c7e49d9", func := "vedette/vedettelaw17.NoteTells", spec := "noteTells", unfollowed := true, recurses := true, named := ["vedette/morton.masks"], apart := false, laid := [("vedette/morton.masks", laid_vedette_morton_masks)] }
def NoteTellsSaid : Prop := noteTellsRow.holds Tryz.pinned (OpenSpec.ofChange noteTellsSpec)

/-- ITS FALSE NEIGHBOUR: 'it returns false'. Refute it at one input. -/
def noteTellsWrong : ChangeSpec := { name := "noteTells", fn := fun _ => fun
  | [d1, d2, d3] => { results := [.lit (.bool false)], args := [d1, d2, d3] }
  | _ => none }
def NoteTellsWrongFalsely : Prop := noteTellsRow.holds Tryz.pinned (OpenSpec.ofChange noteTellsWrong)

/-- 'vedettelaw17.NoteReads': WHATEVER THE INPUT: true; the input reads as it did. -/
def noteReadsSpec : ChangeSpec := { name := "noteReads", fn := fun _ => fun
  | [d1, d2, d3, d4] => { results := [.lit (.bool true)], args := [d1, d2, d3, d4] }
  | _ => none }
def noteReadsRow : OpenClaim := { program := "ytpedngbjpbeanaagreatdoor", sum := "4962825df93755a37aaee8ccc3ba855fadba1fe6fbb4fceff17782cf7c7e49d9", func := "vedette/vedettelaw17.NoteReads", spec := "noteReads", unfollowed := true, recurses := true, named := ["vedette/morton.masks"], apart := false, laid := [("vedette/morton.masks", laid_vedette_morton_masks)] }
def NoteReadsSaid : Prop := noteReadsRow.holds Tryz.pinned (OpenSpec.ofChange noteReadsSpec)

/-- ITS FALSE NEIGHBOUR: 'it returns false'. Refute it at one input. -/
def noteReadsWrong : ChangeSpec := { name := "noteReads", fn := fun _ => fun
  | [d1, d2, d3, d4] => { results := [.lit (.bool false)], args := [d1, d2, d3, d4] }
  | _ => none }
def NoteReadsWrongFalsely : Prop := noteReadsRow.holds Tryz.pinned (OpenSpec.ofChange noteReadsWrong)

/- THE SECOND FORM. 'bulk': how many values and letters a reading holds, each counted each time it is reached (what is shared counts as often as it is met; a slice's spare places count too). A statement '..UptoSaid' is the law's where the arguments, and the package variables that the reading takes, are together of bulk at most 1048576: NARROWER than '..Said'. Prove '..Said' where nothing that the law and all that it calls make is longer than what came in: it says more and counts as full. Else prove '..UptoSaid'. A law counts once. -/
mutual
def uptoBulk {H : Type} : DataW H → Nat
  | .lit (.string bytes) => bytes.length + 1
  | .lit _ => 1
  | .nil => 1
  | .ptr d => uptoBulk d + 1
  | .slice elems spare => uptoBulkAll elems + uptoBulkAll spare + 1
  | .agg parts => uptoBulkAll parts + 1
  | .iface _ d => uptoBulk d + 1
  | .map entries => uptoBulkEntries entries + 1
  | .held _ => 1
def uptoBulkAll {H : Type} : List (DataW H) → Nat
  | [] => 0
  | d :: r => uptoBulk d + uptoBulkAll r
def uptoBulkEntries {H : Type} : List (Lit × DataW H) → Nat
  | [] => 0
  | x :: r => uptoBulkEntry x + uptoBulkEntries r
def uptoBulkEntry {H : Type} : Lit × DataW H → Nat
  | (.string bytes, d) => bytes.length + uptoBulk d + 1
  | (_, d) => uptoBulk d + 1
 end
def uptoSmall : (H : Type) → List (DataW H) → Bool := fun _ ds => decide (uptoBulkAll ds ≤ 1048576)
def OpenSpec.upto (s : _root_.Go.ChangeSpec) : _root_.Go.OpenSpec := { _root_.Go.OpenSpec.ofChange s with cond := some uptoSmall }

/-- 'vedettelaw17.NoteTells', WHERE WHAT IT READS IS OF BULK AT MOST 1048576: true; the input reads as it did. -/
def noteTellsUptoRow : OpenClaim := { program := "ytpedngbjpbeanaagreatdoor", sum := "4962825df93755a37aaee8ccc3ba855fadba1fe6fbb4fceff17782cf7c7e49d9", func := "vedette/vedettelaw17.NoteTells", spec := "noteTells", unfollowed := true, recurses := true, named := ["vedette/morton.masks"], apart := false, laid := [("vedette/morton.masks", laid_vedette_morton_masks)], narrowed := true }
def NoteTellsUptoSaid : Prop := noteTellsUptoRow.holds Tryz.pinned (OpenSpec.upto noteTellsSpec)

/-- 'vedettelaw17.NoteReads', WHERE WHAT IT READS IS OF BULK AT MOST 1048576: true; the input reads as it did. -/
def noteReadsUptoRow : OpenClaim := { program := "ytpedngbjpbeanaagreatdoor", sum := "4962825df93755a37aaee8ccc3ba855fadba1fe6fbb4fceff17782cf7c7e49d9", func := "vedette/vedettelaw17.NoteReads", spec := "noteReads", unfollowed := true, recurses := true, named := ["vedette/morton.masks"], apart := false, laid := [("vedette/morton.masks", laid_vedette_morton_masks)], narrowed := true }
def NoteReadsUptoSaid : Prop := noteReadsUptoRow.holds Tryz.pinned (OpenSpec.upto noteReadsSpec)

end Rows
end Go.Proofs.YtpedngbjpbeanaaGreatDoor
