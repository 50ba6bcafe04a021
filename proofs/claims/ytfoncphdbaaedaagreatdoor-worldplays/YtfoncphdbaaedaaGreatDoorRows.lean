/-
  NARROWER THAN 'FOR EVERY INPUT', by the rows' own cells (each row's printed sentence says how): WorldPlays: laid · WorldApart: laid · WorldFree: laid · WorldLast: laid.
  DERIVED. THE GIVEN ROWS OF THIS SEAT. 4 by the template 'for every input the law returns true; each argument reads behind the call as it read before'; 0 by the template 'total and deterministic' (their statements: YtfoncphdbaaedaaGreatDoorTotals.lean).
  GIVEN WITH THE SEED: the statements are not yours to turn. If you find one false, say at which input.
  Laid BY PROGRAM, IN A SANDBOX (cutbox-rows.mjs): the forced cells as the released guide's own fill.sh prints them over the translation 9a11118b5d98065f… (all of the seat's roots in one cut). By AI agents, Wed Nov 11 2026. No macro, syntax, notation, axiom, sorry.
-/
import Derived.Test.YtfoncphdbaaedaaGreatDoorChecked
import GoSem.Claim
import GoSem.ClaimJoined
import GoSem.ClaimMapViews
import Derived.JoinedTies
import Derived.KernelRfl
namespace Go.Proofs.YtfoncphdbaaedaaGreatDoor
/- THE CELL 'sum', in the pinned program and in every row, IS THE sha256 OF THE DUMP (.gsa) THAT YtfoncphdbaaedaaGreatDoorProg.lean LOADS. Nothing in Lean hashes anything: it is a label: what it is worth is what the hold of that sum in a sandbox is worth. -/
noncomputable def Tryz.pinned : Pinned := { name := "ytfoncphdbaaedaagreatdoor", sum := "9a11118b5d98065f4dbb9264cb45f58e11380a9b2d418020df02acbc008e47a2", checked := Tryz.checked }
namespace Rows
def none {H : Type} : Left H := { results := [], args := [] }

/- WHAT THE LISTED PACKAGE-LEVEL VARIABLES READ AS WHEN THE CALL BEGINS. Each datum BY PROGRAM (the guide's laid-datum.mjs) off the statement by which the dump's own 'gosem.cut.vars' lays the variable. In a bare row this is a premise. The card (YtfoncphdbaaedaaGreatDoorCards.lean) ties it to the program's text. -/
def laid_vedette_morton_masks {H : Type} : DataW H := .agg [.lit (.int .u32 65535), .lit (.int .u32 16711935), .lit (.int .u32 252645135), .lit (.int .u32 858993459), .lit (.int .u32 1431655765)]

/-- 'vedettelaw12.WorldPlays': WHATEVER THE INPUT: true; the input reads as it did. -/
def worldPlaysSpec : ChangeSpec := { name := "worldPlays", fn := fun _ => fun
  | [d1, d2, d3] => { results := [.lit (.bool true)], args := [d1, d2, d3] }
  | _ => none }
def worldPlaysRow : OpenClaim := { program := "ytfoncphdbaaedaagreatdoor", sum := "9a11118b5d98065f4dbb9264cb45f58e11380a9b2d418020df02acbc008e47a2", func := "vedette/vedettelaw12.WorldPlays", spec := "worldPlays", inPlace := ["slices.overlaps[vedette/quad.spot]", "maps.clone"], unfollowed := true, recurses := true, named := ["vedette/morton.masks"], apart := false, laid := [("vedette/morton.masks", laid_vedette_morton_masks)] }
def WorldPlaysSaid : Prop := worldPlaysRow.holds Tryz.pinned (OpenSpec.ofChange worldPlaysSpec)

/-- ITS FALSE NEIGHBOUR: 'it returns false'. Refute it at one input. -/
def worldPlaysWrong : ChangeSpec := { name := "worldPlays", fn := fun _ => fun
  | [d1, d2, d3] => { results := [.lit (.bool false)], args := [d1, d2, d3] }
  | _ => none }
def WorldPlaysWrongFalsely : Prop := worldPlaysRow.holds Tryz.pinned (OpenSpec.ofChange worldPlaysWrong)

/-- 'vedettelaw12.WorldApart': WHATEVER THE INPUT: true; the input reads as it did. -/
def worldApartSpec : ChangeSpec := { name := "worldApart", fn := fun _ => fun
  | [d1, d2, d3, d4, d5, d6] => { results := [.lit (.bool true)], args := [d1, d2, d3, d4, d5, d6] }
  | _ => none }
def worldApartRow : OpenClaim := { program := "ytfoncphdbaaedaagreatdoor", sum := "9a11118b5d98065f4dbb9264cb45f58e11380a9b2d418020df02acbc008e47a2", func := "vedette/vedettelaw12.WorldApart", spec := "worldApart", inPlace := ["slices.overlaps[vedette/quad.spot]", "maps.clone"], unfollowed := true, recurses := true, named := ["vedette/morton.masks"], apart := false, laid := [("vedette/morton.masks", laid_vedette_morton_masks)] }
def WorldApartSaid : Prop := worldApartRow.holds Tryz.pinned (OpenSpec.ofChange worldApartSpec)

/-- ITS FALSE NEIGHBOUR: 'it returns false'. Refute it at one input. -/
def worldApartWrong : ChangeSpec := { name := "worldApart", fn := fun _ => fun
  | [d1, d2, d3, d4, d5, d6] => { results := [.lit (.bool false)], args := [d1, d2, d3, d4, d5, d6] }
  | _ => none }
def WorldApartWrongFalsely : Prop := worldApartRow.holds Tryz.pinned (OpenSpec.ofChange worldApartWrong)

/-- 'vedettelaw12.WorldFree': WHATEVER THE INPUT: true; the input reads as it did. -/
def worldFreeSpec : ChangeSpec := { name := "worldFree", fn := fun _ => fun
  | [d1, d2] => { results := [.lit (.bool true)], args := [d1, d2] }
  | _ => none }
def worldFreeRow : OpenClaim := { program := "ytfoncphdbaaedaagreatdoor", sum := "9a11118b5d98065f4dbb9264cb45f58e11380a9b2d418020df02acbc008e47a2", func := "vedette/vedettelaw12.WorldFree", spec := "worldFree", inPlace := ["slices.overlaps[vedette/quad.spot]", "maps.clone"], unfollowed := true, recurses := true, named := ["vedette/morton.masks"], apart := false, laid := [("vedette/morton.masks", laid_vedette_morton_masks)] }
def WorldFreeSaid : Prop := worldFreeRow.holds Tryz.pinned (OpenSpec.ofChange worldFreeSpec)

/-- ITS FALSE NEIGHBOUR: 'it returns false'. Refute it at one input. -/
def worldFreeWrong : ChangeSpec := { name := "worldFree", fn := fun _ => fun
  | [d1, d2] => { results := [.lit (.bool false)], args := [d1, d2] }
  | _ => none }
def WorldFreeWrongFalsely : Prop := worldFreeRow.holds Tryz.pinned (OpenSpec.ofChange worldFreeWrong)

/-- 'vedettelaw12.WorldLast': WHATEVER THE INPUT: true; the input reads as it did. -/
def worldLastSpec : ChangeSpec := { name := "worldLast", fn := fun _ => fun
  | [d1, d2] => { results := [.lit (.bool true)], args := [d1, d2] }
  | _ => none }
def worldLastRow : OpenClaim := { program := "ytfoncphdbaaedaagreatdoor", sum := "9a11118b5d98065f4dbb9264cb45f58e11380a9b2d418020df02acbc008e47a2", func := "vedette/vedettelaw12.WorldLast", spec := "worldLast", inPlace := ["slices.overlaps[vedette/quad.spot]", "maps.clone"], unfollowed := true, recurses := true, named := ["vedette/morton.masks"], apart := false, laid := [("vedette/morton.masks", laid_vedette_morton_masks)] }
def WorldLastSaid : Prop := worldLastRow.holds Tryz.pinned (OpenSpec.ofChange worldLastSpec)

/-- ITS FALSE NEIGHBOUR: 'it returns false'. Refute it at one input. -/
def worldLastWrong : ChangeSpec := { name := "worldLast", fn := fun _ => fun
  | [d1, d2] => { results := [.lit (.bool false)], args := [d1, d2] }
  | _ => none }
def WorldLastWrongFalsely : Prop := worldLastRow.holds Tryz.pinned (OpenSpec.ofChange worldLastWrong)

/- THE SECOND FORM. 'bulk': how many values and letters a reading holds, each counted each time it is reached (what is shared counts as often as it is met; a slice's spare places count too). A statement '..UptoSaid' is the law's where the arguments, and the package variables that the reading takes, are together of bulk at most 1048576: NARROWER than '..Said'. Prove '..Said' where nothing that the law and all that it calls make is longer than what came in: it says more and counts as full. Else prove '..UptoSaid'. A law counts once. -/
mutual
def uptoBulk {H : Type} : DataW H → Nat
  | .lit (.string bytes) => bytes.length + 1
  | .lit _ => 1
  | .nil => 1
  | .ptr d => uptoBulk d + 1
  | .slice elems spare => uptoBulkAll elems + uptoBulkAll spare + 1
  | .agg parts => uptoBulkAll parts + 1
  | .iface _ d => uptoBulk d + 1
  | .map entries => uptoBulkEntries entries + 1
  | .held _ => 1
def uptoBulkAll {H : Type} : List (DataW H) → Nat
  | [] => 0
  | d :: r => uptoBulk d + uptoBulkAll r
def uptoBulkEntries {H : Type} : List (Lit × DataW H) → Nat
  | [] => 0
  | x :: r => uptoBulkEntry x + uptoBulkEntries r
def uptoBulkEntry {H : Type} : Lit × DataW H → Nat
  | (.string bytes, d) => bytes.length + uptoBulk d + 1
  | (_, d) => uptoBulk d + 1
 end
def uptoSmall : (H : Type) → List (DataW H) → Bool := fun _ ds => decide (uptoBulkAll ds ≤ 1048576)
def OpenSpec.upto (s : _root_.Go.ChangeSpec) : _root_.Go.OpenSpec := { _root_.Go.OpenSpec.ofChange s with cond := some uptoSmall }

/-- 'vedettelaw12.WorldPlays', WHERE WHAT IT READS IS OF BULK AT MOST 1048576: true; the input reads as it did. -/
def worldPlaysUptoRow : OpenClaim := { program := "ytfoncphdbaaedaagreatdoor", sum := "9a11118b5d98065f4dbb9264cb45f58e11380a9b2d418020df02acbc008e47a2", func := "vedette/vedettelaw12.WorldPlays", spec := "worldPlays", inPlace := ["slices.overlaps[vedette/quad.spot]", "maps.clone"], unfollowed := true, recurses := true, named := ["vedette/morton.masks"], apart := false, laid := [("vedette/morton.masks", laid_vedette_morton_masks)], narrowed := true }
def WorldPlaysUptoSaid : Prop := worldPlaysUptoRow.holds Tryz.pinned (OpenSpec.upto worldPlaysSpec)

/-- 'vedettelaw12.WorldApart', WHERE WHAT IT READS IS OF BULK AT MOST 1048576: true; the input reads as it did. -/
def worldApartUptoRow : OpenClaim := { program := "ytfoncphdbaaedaagreatdoor", sum := "9a11118b5d98065f4dbb9264cb45f58e11380a9b2d418020df02acbc008e47a2", func := "vedette/vedettelaw12.WorldApart", spec := "worldApart", inPlace := ["slices.overlaps[vedette/quad.spot]", "maps.clone"], unfollowed := true, recurses := true, named := ["vedette/morton.masks"], apart := false, laid := [("vedette/morton.masks", laid_vedette_morton_masks)], narrowed := true }
def WorldApartUptoSaid : Prop := worldApartUptoRow.holds Tryz.pinned (OpenSpec.upto worldApartSpec)

/-- 'vedettelaw12.WorldFree', WHERE WHAT IT READS IS OF BULK AT MOST 1048576: true; the input reads as it did. -/
def worldFreeUptoRow : OpenClaim := { program := "ytfoncphdbaaedaagreatdoor", sum := "9a11118b5d98065f4dbb9264cb45f58e11380a9b2d418020df02acbc008e47a2", func := "vedette/vedettelaw12.WorldFree", spec := "worldFree", inPlace := ["slices.overlaps[vedette/quad.spot]", "maps.clone"], unfollowed := true, recurses := true, named := ["vedette/morton.masks"], apart := false, laid := [("vedette/morton.masks", laid_vedette_morton_masks)], narrowed := true }
def WorldFreeUptoSaid : Prop := worldFreeUptoRow.holds Tryz.pinned (OpenSpec.upto worldFreeSpec)

/-- 'vedettelaw12.WorldLast', WHERE WHAT IT READS IS OF BULK AT MOST 1048576: true; the input reads as it did. -/
def worldLastUptoRow : OpenClaim := { program := "ytfoncphdbaaedaagreatdoor", sum := "9a11118b5d98065f4dbb9264cb45f58e11380a9b2d418020df02acbc008e47a2", func := "vedette/vedettelaw12.WorldLast", spec := "worldLast", inPlace := ["slices.overlaps[vedette/quad.spot]", "maps.clone"], unfollowed := true, recurses := true, named := ["vedette/morton.masks"], apart := false, laid := [("vedette/morton.masks", laid_vedette_morton_masks)], narrowed := true }
def WorldLastUptoSaid : Prop := worldLastUptoRow.holds Tryz.pinned (OpenSpec.upto worldLastSpec)

end Rows
end Go.Proofs.YtfoncphdbaaedaaGreatDoor
