/-
  NARROWER THAN 'FOR EVERY INPUT', by the rows' own cells (each row's printed sentence says how): MortonTells: laid · MortonBack: laid · MortonOrder: laid.
  DERIVED. THE GIVEN ROWS OF THIS SEAT. 3 by the template 'for every input the law returns true; each argument reads behind the call as it read before'; 0 by the template 'total and deterministic' (their statements: YtlkphkpalckgnaaDoorTotals.lean).
  GIVEN WITH THE SEED: the statements are not yours to turn. If you find one false, say at which input.
  Laid BY PROGRAM, IN A SANDBOX (cutbox-rows.mjs): the forced cells as the released guide's own fill.sh prints them over the translation af12516820e712be… (all of the seat's roots in one cut). By AI agents, Wed Nov 11 2026. No macro, syntax, notation, axiom, sorry.
-/
import Derived.Test.YtlkphkpalckgnaaDoorChecked
import GoSem.Claim
import GoSem.ClaimJoined
import GoSem.ClaimMapViews
import Derived.JoinedTies
import Derived.KernelRfl
namespace Go.Proofs.YtlkphkpalckgnaaDoor
/- THE CELL 'sum', in the pinned program and in every row, IS THE sha256 OF THE DUMP (.gsa) THAT YtlkphkpalckgnaaDoorProg.lean LOADS. Nothing in Lean hashes anything: it is a label: what it is worth is what the hold of that sum in a sandbox is worth. -/
noncomputable def Tryd.pinned : Pinned := { name := "ytlkphkpalckgnaadoor", sum := "af12516820e712be5ed041b2f591fbf3865ff679740fa141884950cb0822f9db", checked := Tryd.checked }
namespace Rows
def none {H : Type} : Left H := { results := [], args := [] }

/- WHAT THE LISTED PACKAGE-LEVEL VARIABLES READ AS WHEN THE CALL BEGINS. Each datum BY PROGRAM (the guide's laid-datum.mjs) off the statement by which the dump's own 'gosem.cut.vars' lays the variable. In a bare row this is a premise. The card (YtlkphkpalckgnaaDoorCards.lean) ties it to the program's text. -/
def laid_vedette_morton_masks {H : Type} : DataW H := .agg [.lit (.int .u32 65535), .lit (.int .u32 16711935), .lit (.int .u32 252645135), .lit (.int .u32 858993459), .lit (.int .u32 1431655765)]

/-- 'vedettelaw4.MortonTells': WHATEVER THE INPUT: true; the input reads as it did. -/
def mortonTellsSpec : ChangeSpec := { name := "mortonTells", fn := fun _ => fun
  | [d1, d2, d3, d4, d5] => { results := [.lit (.bool true)], args := [d1, d2, d3, d4, d5] }
  | _ => none }
def mortonTellsRow : OpenClaim := { program := "ytlkphkpalckgnaadoor", sum := "af12516820e712be5ed041b2f591fbf3865ff679740fa141884950cb0822f9db", func := "vedette/vedettelaw4.MortonTells", spec := "mortonTells", named := ["vedette/morton.masks"], apart := false, laid := [("vedette/morton.masks", laid_vedette_morton_masks)] }
def MortonTellsSaid : Prop := mortonTellsRow.holds Tryd.pinned (OpenSpec.ofChange mortonTellsSpec)

/-- ITS FALSE NEIGHBOUR: 'it returns false'. Refute it at one input. -/
def mortonTellsWrong : ChangeSpec := { name := "mortonTells", fn := fun _ => fun
  | [d1, d2, d3, d4, d5] => { results := [.lit (.bool false)], args := [d1, d2, d3, d4, d5] }
  | _ => none }
def MortonTellsWrongFalsely : Prop := mortonTellsRow.holds Tryd.pinned (OpenSpec.ofChange mortonTellsWrong)

/-- 'vedettelaw4.MortonBack': WHATEVER THE INPUT: true; the input reads as it did. -/
def mortonBackSpec : ChangeSpec := { name := "mortonBack", fn := fun _ => fun
  | [d1, d2, d3] => { results := [.lit (.bool true)], args := [d1, d2, d3] }
  | _ => none }
def mortonBackRow : OpenClaim := { program := "ytlkphkpalckgnaadoor", sum := "af12516820e712be5ed041b2f591fbf3865ff679740fa141884950cb0822f9db", func := "vedette/vedettelaw4.MortonBack", spec := "mortonBack", named := ["vedette/morton.masks"], apart := false, laid := [("vedette/morton.masks", laid_vedette_morton_masks)] }
def MortonBackSaid : Prop := mortonBackRow.holds Tryd.pinned (OpenSpec.ofChange mortonBackSpec)

/-- ITS FALSE NEIGHBOUR: 'it returns false'. Refute it at one input. -/
def mortonBackWrong : ChangeSpec := { name := "mortonBack", fn := fun _ => fun
  | [d1, d2, d3] => { results := [.lit (.bool false)], args := [d1, d2, d3] }
  | _ => none }
def MortonBackWrongFalsely : Prop := mortonBackRow.holds Tryd.pinned (OpenSpec.ofChange mortonBackWrong)

/-- 'vedettelaw4.MortonOrder': WHATEVER THE INPUT: true; the input reads as it did. -/
def mortonOrderSpec : ChangeSpec := { name := "mortonOrder", fn := fun _ => fun
  | [d1, d2, d3, d4, d5, d6] => { results := [.lit (.bool true)], args := [d1, d2, d3, d4, d5, d6] }
  | _ => none }
def mortonOrderRow : OpenClaim := { program := "ytlkphkpalckgnaadoor", sum := "af12516820e712be5ed041b2f591fbf3865ff679740fa141884950cb0822f9db", func := "vedette/vedettelaw4.MortonOrder", spec := "mortonOrder", named := ["vedette/morton.masks"], apart := false, laid := [("vedette/morton.masks", laid_vedette_morton_masks)] }
def MortonOrderSaid : Prop := mortonOrderRow.holds Tryd.pinned (OpenSpec.ofChange mortonOrderSpec)

/-- ITS FALSE NEIGHBOUR: 'it returns false'. Refute it at one input. -/
def mortonOrderWrong : ChangeSpec := { name := "mortonOrder", fn := fun _ => fun
  | [d1, d2, d3, d4, d5, d6] => { results := [.lit (.bool false)], args := [d1, d2, d3, d4, d5, d6] }
  | _ => none }
def MortonOrderWrongFalsely : Prop := mortonOrderRow.holds Tryd.pinned (OpenSpec.ofChange mortonOrderWrong)

/- THE SECOND FORM. 'bulk': how many values and letters a reading holds, each counted each time it is reached (what is shared counts as often as it is met; a slice's spare places count too). A statement '..UptoSaid' is the law's where the arguments, and the package variables that the reading takes, are together of bulk at most 1048576: NARROWER than '..Said'. Prove '..Said' where nothing that the law and all that it calls make is longer than what came in: it says more and counts as full. Else prove '..UptoSaid'. A law counts once. -/
mutual
def uptoBulk {H : Type} : DataW H → Nat
  | .lit (.string bytes) => bytes.length + 1
  | .lit _ => 1
  | .nil => 1
  | .ptr d => uptoBulk d + 1
  | .slice elems spare => uptoBulkAll elems + uptoBulkAll spare + 1
  | .agg parts => uptoBulkAll parts + 1
  | .iface _ d => uptoBulk d + 1
  | .map entries => uptoBulkEntries entries + 1
  | .held _ => 1
def uptoBulkAll {H : Type} : List (DataW H) → Nat
  | [] => 0
  | d :: r => uptoBulk d + uptoBulkAll r
def uptoBulkEntries {H : Type} : List (Lit × DataW H) → Nat
  | [] => 0
  | x :: r => uptoBulkEntry x + uptoBulkEntries r
def uptoBulkEntry {H : Type} : Lit × DataW H → Nat
  | (.string bytes, d) => bytes.length + uptoBulk d + 1
  | (_, d) => uptoBulk d + 1
 end
def uptoSmall : (H : Type) → List (DataW H) → Bool := fun _ ds => decide (uptoBulkAll ds ≤ 1048576)
def OpenSpec.upto (s : _root_.Go.ChangeSpec) : _root_.Go.OpenSpec := { _root_.Go.OpenSpec.ofChange s with cond := some uptoSmall }

/-- 'vedettelaw4.MortonTells', WHERE WHAT IT READS IS OF BULK AT MOST 1048576: true; the input reads as it did. -/
def mortonTellsUptoRow : OpenClaim := { program := "ytlkphkpalckgnaadoor", sum := "af12516820e712be5ed041b2f591fbf3865ff679740fa141884950cb0822f9db", func := "vedette/vedettelaw4.MortonTells", spec := "mortonTells", named := ["vedette/morton.masks"], apart := false, laid := [("vedette/morton.masks", laid_vedette_morton_masks)], narrowed := true }
def MortonTellsUptoSaid : Prop := mortonTellsUptoRow.holds Tryd.pinned (OpenSpec.upto mortonTellsSpec)

/-- 'vedettelaw4.MortonBack', WHERE WHAT IT READS IS OF BULK AT MOST 1048576: true; the input reads as it did. -/
def mortonBackUptoRow : OpenClaim := { program := "ytlkphkpalckgnaadoor", sum := "af12516820e712be5ed041b2f591fbf3865ff679740fa141884950cb0822f9db", func := "vedette/vedettelaw4.MortonBack", spec := "mortonBack", named := ["vedette/morton.masks"], apart := false, laid := [("vedette/morton.masks", laid_vedette_morton_masks)], narrowed := true }
def MortonBackUptoSaid : Prop := mortonBackUptoRow.holds Tryd.pinned (OpenSpec.upto mortonBackSpec)

/-- 'vedettelaw4.MortonOrder', WHERE WHAT IT READS IS OF BULK AT MOST 1048576: true; the input reads as it did. -/
def mortonOrderUptoRow : OpenClaim := { program := "ytlkphkpalckgnaadoor", sum := "af12516820e712be5ed041b2f591fbf3865ff679740fa141884950cb0822f9db", func := "vedette/vedettelaw4.MortonOrder", spec := "mortonOrder", named := ["vedette/morton.masks"], apart := false, laid := [("vedette/morton.masks", laid_vedette_morton_masks)], narrowed := true }
def MortonOrderUptoSaid : Prop := mortonOrderUptoRow.holds Tryd.pinned (OpenSpec.upto mortonOrderSpec)

end Rows
end Go.Proofs.YtlkphkpalckgnaaDoor
