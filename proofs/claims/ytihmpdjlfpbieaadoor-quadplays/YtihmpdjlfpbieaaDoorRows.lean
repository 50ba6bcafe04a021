/-
  NARROWER THAN 'FOR EVERY INPUT', by the rows' own cells (each row's printed sentence says how): QuadPlays: laid · QuadFinds: laid · QuadFull: laid · QuadMerges: laid.
  DERIVED. THE GIVEN ROWS OF THIS SEAT. 4 by the template 'for every input the law returns true; each argument reads behind the call as it read before'; 0 by the template 'total and deterministic' (their statements: YtihmpdjlfpbieaaDoorTotals.lean).
  GIVEN WITH THE SEED: the statements are not yours to turn. If you find one false, say at which input.
  Laid BY PROGRAM, IN A SANDBOX (cutbox-rows.mjs): the forced cells as the released guide's own fill.sh prints them over the translation b5a609ffdc7dfaf3… (all of the seat's roots in one cut). By AI agents, Wed Nov 11 2026. No macro, syntax, notation, axiom, sorry.
-/
import Derived.Test.YtihmpdjlfpbieaaDoorChecked
import GoSem.Claim
import GoSem.ClaimJoined
import GoSem.ClaimMapViews
import Derived.JoinedTies
import Derived.KernelRfl
namespace Go.Proofs.YtihmpdjlfpbieaaDoor
/- THE CELL 'sum', in the pinned program and in every row, IS THE sha256 OF THE DUMP (.gsa) THAT YtihmpdjlfpbieaaDoorProg.lean LOADS. Nothing in Lean hashes anything: it is a label: what it is worth is what the hold of that sum in a sandbox is worth. -/
noncomputable def Tryd.pinned : Pinned := { name := "ytihmpdjlfpbieaadoor", sum := "b5a609ffdc7dfaf3c85ea6e4f9d940962b9ee6af20f3923ca363de74df9d5c8a", checked := Tryd.checked }
namespace Rows
def none {H : Type} : Left H := { results := [], args := [] }

/- WHAT THE LISTED PACKAGE-LEVEL VARIABLES READ AS WHEN THE CALL BEGINS. Each datum BY PROGRAM (the guide's laid-datum.mjs) off the statement by which the dump's own 'gosem.cut.vars' lays the variable. In a bare row this is a premise. The card (YtihmpdjlfpbieaaDoorCards.lean) ties it to the program's text. -/
def laid_vedette_morton_masks {H : Type} : DataW H := .agg [.lit (.int .u32 65535), .lit (.int .u32 16711935), .lit (.int .u32 252645135), .lit (.int .u32 858993459), .lit (.int .u32 1431655765)]

/-- 'vedettelaw8.QuadPlays': WHATEVER THE INPUT: true; the input reads as it did. -/
def quadPlaysSpec : ChangeSpec := { name := "quadPlays", fn := fun _ => fun
  | [d] => { results := [.lit (.bool true)], args := [d] }
  | _ => none }
def quadPlaysRow : OpenClaim := { program := "ytihmpdjlfpbieaadoor", sum := "b5a609ffdc7dfaf3c85ea6e4f9d940962b9ee6af20f3923ca363de74df9d5c8a", func := "vedette/vedettelaw8.QuadPlays", spec := "quadPlays", inPlace := ["slices.overlaps[vedette/quad.spot]"], unfollowed := true, recurses := true, named := ["vedette/morton.masks"], apart := false, laid := [("vedette/morton.masks", laid_vedette_morton_masks)] }
def QuadPlaysSaid : Prop := quadPlaysRow.holds Tryd.pinned (OpenSpec.ofChange quadPlaysSpec)

/-- ITS FALSE NEIGHBOUR: 'it returns false'. Refute it at one input. -/
def quadPlaysWrong : ChangeSpec := { name := "quadPlays", fn := fun _ => fun
  | [d] => { results := [.lit (.bool false)], args := [d] }
  | _ => none }
def QuadPlaysWrongFalsely : Prop := quadPlaysRow.holds Tryd.pinned (OpenSpec.ofChange quadPlaysWrong)

/-- 'vedettelaw8.QuadFinds': WHATEVER THE INPUT: true; the input reads as it did. -/
def quadFindsSpec : ChangeSpec := { name := "quadFinds", fn := fun _ => fun
  | [d1, d2, d3] => { results := [.lit (.bool true)], args := [d1, d2, d3] }
  | _ => none }
def quadFindsRow : OpenClaim := { program := "ytihmpdjlfpbieaadoor", sum := "b5a609ffdc7dfaf3c85ea6e4f9d940962b9ee6af20f3923ca363de74df9d5c8a", func := "vedette/vedettelaw8.QuadFinds", spec := "quadFinds", inPlace := ["slices.overlaps[vedette/quad.spot]"], unfollowed := true, recurses := true, named := ["vedette/morton.masks"], apart := false, laid := [("vedette/morton.masks", laid_vedette_morton_masks)] }
def QuadFindsSaid : Prop := quadFindsRow.holds Tryd.pinned (OpenSpec.ofChange quadFindsSpec)

/-- ITS FALSE NEIGHBOUR: 'it returns false'. Refute it at one input. -/
def quadFindsWrong : ChangeSpec := { name := "quadFinds", fn := fun _ => fun
  | [d1, d2, d3] => { results := [.lit (.bool false)], args := [d1, d2, d3] }
  | _ => none }
def QuadFindsWrongFalsely : Prop := quadFindsRow.holds Tryd.pinned (OpenSpec.ofChange quadFindsWrong)

/-- 'vedettelaw8.QuadFull': WHATEVER THE INPUT: true; the input reads as it did. -/
def quadFullSpec : ChangeSpec := { name := "quadFull", fn := fun _ => fun
  | [d1, d2] => { results := [.lit (.bool true)], args := [d1, d2] }
  | _ => none }
def quadFullRow : OpenClaim := { program := "ytihmpdjlfpbieaadoor", sum := "b5a609ffdc7dfaf3c85ea6e4f9d940962b9ee6af20f3923ca363de74df9d5c8a", func := "vedette/vedettelaw8.QuadFull", spec := "quadFull", inPlace := ["slices.overlaps[vedette/quad.spot]"], unfollowed := true, recurses := true, named := ["vedette/morton.masks"], apart := false, laid := [("vedette/morton.masks", laid_vedette_morton_masks)] }
def QuadFullSaid : Prop := quadFullRow.holds Tryd.pinned (OpenSpec.ofChange quadFullSpec)

/-- ITS FALSE NEIGHBOUR: 'it returns false'. Refute it at one input. -/
def quadFullWrong : ChangeSpec := { name := "quadFull", fn := fun _ => fun
  | [d1, d2] => { results := [.lit (.bool false)], args := [d1, d2] }
  | _ => none }
def QuadFullWrongFalsely : Prop := quadFullRow.holds Tryd.pinned (OpenSpec.ofChange quadFullWrong)

/-- 'vedettelaw8.QuadMerges': WHATEVER THE INPUT: true; the input reads as it did. -/
def quadMergesSpec : ChangeSpec := { name := "quadMerges", fn := fun _ => fun
  | [d1, d2, d3] => { results := [.lit (.bool true)], args := [d1, d2, d3] }
  | _ => none }
def quadMergesRow : OpenClaim := { program := "ytihmpdjlfpbieaadoor", sum := "b5a609ffdc7dfaf3c85ea6e4f9d940962b9ee6af20f3923ca363de74df9d5c8a", func := "vedette/vedettelaw8.QuadMerges", spec := "quadMerges", inPlace := ["slices.overlaps[vedette/quad.spot]"], unfollowed := true, recurses := true, named := ["vedette/morton.masks"], apart := false, laid := [("vedette/morton.masks", laid_vedette_morton_masks)] }
def QuadMergesSaid : Prop := quadMergesRow.holds Tryd.pinned (OpenSpec.ofChange quadMergesSpec)

/-- ITS FALSE NEIGHBOUR: 'it returns false'. Refute it at one input. -/
def quadMergesWrong : ChangeSpec := { name := "quadMerges", fn := fun _ => fun
  | [d1, d2, d3] => { results := [.lit (.bool false)], args := [d1, d2, d3] }
  | _ => none }
def QuadMergesWrongFalsely : Prop := quadMergesRow.holds Tryd.pinned (OpenSpec.ofChange quadMergesWrong)

/- THE SECOND FORM. 'bulk': how many values and letters a reading holds, each counted each time it is reached (what is shared counts as often as it is met; a slice's spare places count too). A statement '..UptoSaid' is the law's where the arguments, and the package variables that the reading takes, are together of bulk at most 1048576: NARROWER than '..Said'. Prove '..Said' where nothing that the law and all that it calls make is longer than what came in: it says more and counts as full. Else prove '..UptoSaid'. A law counts once. -/
mutual
def uptoBulk {H : Type} : DataW H → Nat
  | .lit (.string bytes) => bytes.length + 1
  | .lit _ => 1
  | .nil => 1
  | .ptr d => uptoBulk d + 1
  | .slice elems spare => uptoBulkAll elems + uptoBulkAll spare + 1
  | .agg parts => uptoBulkAll parts + 1
  | .iface _ d => uptoBulk d + 1
  | .map entries => uptoBulkEntries entries + 1
  | .held _ => 1
def uptoBulkAll {H : Type} : List (DataW H) → Nat
  | [] => 0
  | d :: r => uptoBulk d + uptoBulkAll r
def uptoBulkEntries {H : Type} : List (Lit × DataW H) → Nat
  | [] => 0
  | x :: r => uptoBulkEntry x + uptoBulkEntries r
def uptoBulkEntry {H : Type} : Lit × DataW H → Nat
  | (.string bytes, d) => bytes.length + uptoBulk d + 1
  | (_, d) => uptoBulk d + 1
 end
def uptoSmall : (H : Type) → List (DataW H) → Bool := fun _ ds => decide (uptoBulkAll ds ≤ 1048576)
def OpenSpec.upto (s : _root_.Go.ChangeSpec) : _root_.Go.OpenSpec := { _root_.Go.OpenSpec.ofChange s with cond := some uptoSmall }

/-- 'vedettelaw8.QuadPlays', WHERE WHAT IT READS IS OF BULK AT MOST 1048576: true; the input reads as it did. -/
def quadPlaysUptoRow : OpenClaim := { program := "ytihmpdjlfpbieaadoor", sum := "b5a609ffdc7dfaf3c85ea6e4f9d940962b9ee6af20f3923ca363de74df9d5c8a", func := "vedette/vedettelaw8.QuadPlays", spec := "quadPlays", inPlace := ["slices.overlaps[vedette/quad.spot]"], unfollowed := true, recurses := true, named := ["vedette/morton.masks"], apart := false, laid := [("vedette/morton.masks", laid_vedette_morton_masks)], narrowed := true }
def QuadPlaysUptoSaid : Prop := quadPlaysUptoRow.holds Tryd.pinned (OpenSpec.upto quadPlaysSpec)

/-- 'vedettelaw8.QuadFinds', WHERE WHAT IT READS IS OF BULK AT MOST 1048576: true; the input reads as it did. -/
def quadFindsUptoRow : OpenClaim := { program := "ytihmpdjlfpbieaadoor", sum := "b5a609ffdc7dfaf3c85ea6e4f9d940962b9ee6af20f3923ca363de74df9d5c8a", func := "vedette/vedettelaw8.QuadFinds", spec := "quadFinds", inPlace := ["slices.overlaps[vedette/quad.spot]"], unfollowed := true, recurses := true, named := ["vedette/morton.masks"], apart := false, laid := [("vedette/morton.masks", laid_vedette_morton_masks)], narrowed := true }
def QuadFindsUptoSaid : Prop := quadFindsUptoRow.holds Tryd.pinned (OpenSpec.upto quadFindsSpec)

/-- 'vedettelaw8.QuadFull', WHERE WHAT IT READS IS OF BULK AT MOST 1048576: true; the input reads as it did. -/
def quadFullUptoRow : OpenClaim := { program := "ytihmpdjlfpbieaadoor", sum := "b5a609ffdc7dfaf3c85ea6e4f9d940962b9ee6af20f3923ca363de74df9d5c8a", func := "vedette/vedettelaw8.QuadFull", spec := "quadFull", inPlace := ["slices.overlaps[vedette/quad.spot]"], unfollowed := true, recurses := true, named := ["vedette/morton.masks"], apart := false, laid := [("vedette/morton.masks", laid_vedette_morton_masks)], narrowed := true }
def QuadFullUptoSaid : Prop := quadFullUptoRow.holds Tryd.pinned (OpenSpec.upto quadFullSpec)

/-- 'vedettelaw8.QuadMerges', WHERE WHAT IT READS IS OF BULK AT MOST 1048576: true; the input reads as it did. -/
def quadMergesUptoRow : OpenClaim := { program := "ytihmpdjlfpbieaadoor", sum := "b5a609ffdc7dfaf3c85ea6e4f9d940962b9ee6af20f3923ca363de74df9d5c8a", func := "vedette/vedettelaw8.QuadMerges", spec := "quadMerges", inPlace := ["slices.overlaps[vedette/quad.spot]"], unfollowed := true, recurses := true, named := ["vedette/morton.masks"], apart := false, laid := [("vedette/morton.masks", laid_vedette_morton_masks)], narrowed := true }
def QuadMergesUptoSaid : Prop := quadMergesUptoRow.holds Tryd.pinned (OpenSpec.upto quadMergesSpec)

end Rows
end Go.Proofs.YtihmpdjlfpbieaaDoor
