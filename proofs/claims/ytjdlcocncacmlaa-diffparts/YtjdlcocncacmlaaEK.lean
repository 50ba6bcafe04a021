/- Contract of one of the reference: an event at the beginning of bytes, how many they are, or what is wrong (then the event is whatever). Contract of Read of the reference. -/
import Derived.Test.YtjdlcocncacmlaaEvJ
import Derived.Test.YtjdlcocncacmlaaEvF
namespace Go.Proofs.Ytjdlcocncacmlaa
section
open Go.RowKit
set_option linter.unusedVariables false
/-- what one answers -/
def OnePost (w : World) (x : Ev) (z e : Nat) : Ending → World → Prop := fun a w' => ∃ (Y : Ev) (y : Nat), a = .returned (.tuple #[Y.v, .int .i64 y, .int .i64 e]) ∧ (e = 0 → Y = x ∧ y = z) ∧ Below w.heap.size w w'
theorem OnePost.eq {w : World} {x y : Ev} {z z' e : Nat} {a : Ending} {w' : World} (h : OnePost w x z e a w') (hx : e = 0 → x = y ∧ z = z') : OnePost w y z' e a w' := by
  obtain ⟨Y, k, h1, h2, h3⟩ := h
  exact ⟨Y, k, h1, fun he => ⟨(h2 he).1.trans (hx he).1, (h2 he).2.trans (hx he).2⟩, h3⟩
end
section
open Go.RowKit
set_option linter.unusedVariables false
end
end Go.Proofs.Ytjdlcocncacmlaa
