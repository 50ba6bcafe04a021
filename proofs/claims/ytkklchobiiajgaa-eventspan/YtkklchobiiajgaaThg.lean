/- Contracts of small functions of the package thing and of the reference: numbers and servers, Same, whole, Is. -/
import Derived.Test.YtkklchobiiajgaaThgP
namespace Go.Proofs.Ytkklchobiiajgaa
open Go.RowKit
set_option linter.unusedVariables false
def heldI (n top : Int) : Int := min (max n 0) top
def serverI (id : Int) : Int := max id 0 % 4
def numberI (s n : Int) : Int := 4 * heldI n 200000 + heldI s 3
theorem heldI_le (n : Int) {top : Int} (ht : 0 ≤ top) : 0 ≤ heldI n top ∧ heldI n top ≤ top := by unfold heldI; omega
theorem thing_whole (w : World) (t : Th) : Calls Try.prog 70 #[t.v] w fun e w' => e = .returned (wholeD t).v ∧ Below w.heap.size w w' := by
  go_enter Try.func70, Try.ntmps70
  go_wp2
  exact bodyPost_ret (v := (wholeD t).v) (by simp [results, Try.results70, go_sem, wholeD]) rfl ⟨rfl, Go.Joins.below_alloc2 _ _ _⟩
theorem ref_full (w : World) (t : Th) : Calls Try.prog 33 #[t.v] w fun e w' => e = .returned (wholeD t).v ∧ Below w.heap.size w w' := by
  go_enter Try.func33, Try.ntmps33
  go_wp2
  exact bodyPost_ret (v := (wholeD t).v) (by simp [results, Try.results33, go_sem, wholeD]) rfl ⟨rfl, Go.Joins.below_alloc2 _ _ _⟩
end Go.Proofs.Ytkklchobiiajgaa
