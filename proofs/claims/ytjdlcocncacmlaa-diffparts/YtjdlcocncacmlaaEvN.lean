/- Contracts of Apply, Fold of the reference: what events make of a row of things that rises; nothing that was there is changed. -/
import Derived.Test.YtjdlcocncacmlaaEK
import Derived.Test.YtjdlcocncacmlaaEH
namespace Go.Proofs.Ytjdlcocncacmlaa
open Go.RowKit
set_option linter.unusedVariables false
/-- what they answer -/
def RefPost (w : World) (M : List Th) (m : Nat) (b : Bool) : Ending → World → Prop := fun x w' => ∃ p cap, x = .returned (.tuple #[.slice p m cap, .bool b]) ∧ RowT w' p M ∧ Below w.heap.size w w'
end Go.Proofs.Ytjdlcocncacmlaa
