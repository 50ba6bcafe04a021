/- Contract of Read of the package event: the events at the beginning of bytes, in memory of their own, how many bytes they are, or what is wrong. -/
import Derived.Test.YtjdlcocncacmlaaEvE
import Derived.WalkMore
import Derived.Deep.AppendLies
namespace Go.Proofs.Ytjdlcocncacmlaa
open Go.RowKit
set_option linter.unusedVariables false
/-- what a call that reads a row of events answers -/
def EvsOf (w : World) (L : List Ev) (z e : Nat) : Ending → World → Prop := fun x w' => ∃ v, x = .returned (.tuple #[v, .int .i64 z, .int .i64 e]) ∧ w'.ownsRow w.heap.size 44 25 v L.length (flatE L) ∧ Below w.heap.size w w'
end Go.Proofs.Ytjdlcocncacmlaa
