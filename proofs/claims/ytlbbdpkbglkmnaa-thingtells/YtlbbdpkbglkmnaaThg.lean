/- Contracts of small functions of the package thing and of the reference: numbers and servers, Same, whole, Is. -/
import Derived.Test.YtlbbdpkbglkmnaaThgP
namespace Go.Proofs.Ytlbbdpkbglkmnaa
open Go.RowKit
set_option linter.unusedVariables false
def heldI (n top : Int) : Int := min (max n 0) top
def serverI (id : Int) : Int := max id 0 % 4
def numberI (s n : Int) : Int := 4 * heldI n 200000 + heldI s 3
theorem heldI_le (n : Int) {top : Int} (ht : 0 ≤ top) : 0 ≤ heldI n top ∧ heldI n top ≤ top := by unfold heldI; omega
theorem thing_held (w : World) (n top : Int) : Calls Try.prog 41 #[.int .i64 n, .int .i64 top] w fun e w' => e = .returned (.int .i64 (heldI n top)) ∧ w' = w := by
  go_enter Try.func41, Try.ntmps41
  go_wp2
  go_ret
  exact ⟨congrArg (fun x => Ending.returned (.int .i64 x)) (by unfold heldI; omega), rfl⟩
theorem thing_server (w : World) (n : Int) : Calls Try.prog 20 #[.int .i64 n] w fun e w' => e = .returned (.int .i64 (serverI n)) ∧ Below w.heap.size w w' := by
  go_enter Try.func20, Try.ntmps20
  go_wp2
  go_ret
  exact ⟨congrArg (fun x => Ending.returned (.int .i64 x)) (by unfold serverI; omega), Below.refl _ _⟩
theorem ref_server (w : World) (n : Int) : Calls Try.prog 21 #[.int .i64 n] w fun e w' => e = .returned (.int .i64 (serverI n)) ∧ Below w.heap.size w w' := by
  go_enter Try.func21, Try.ntmps21
  go_wp2
  go_ret
  exact ⟨congrArg (fun x => Ending.returned (.int .i64 x)) (by unfold serverI; omega), Below.refl _ _⟩
theorem thing_number (w : World) (s n : Int) : Calls Try.prog 22 #[.int .i64 s, .int .i64 n] w fun e w' => e = .returned (.int .i64 (numberI s n)) ∧ Below w.heap.size w w' := by
  have h1 := heldI_le n (top := 200000) (by decide)
  have h2 := heldI_le s (top := 3) (by decide)
  go_enter Try.func22, Try.ntmps22
  go_wp2_with fail
  refine (thing_held _ _ _).mono ?_
  rintro x w1 ⟨rfl, h⟩
  rw [h]; clear h w1
  go_wp2_with fail
  refine (thing_held _ _ _).mono ?_
  rintro x w1 ⟨rfl, h⟩
  rw [h]; clear h w1
  go_wp2
  go_ret
  exact ⟨congrArg (fun x => Ending.returned (.int .i64 x)) (by unfold numberI; omega), Below.refl _ _⟩
theorem ref_numberT (w : World) (s n : Int) : Calls Try.prog 23 #[.int .i64 s, .int .i64 n] w fun e w' => e = .returned (.int .i64 (numberI s n)) ∧ Below w.heap.size w w' := by
  go_enter Try.func23, Try.ntmps23
  go_wp2
  go_ret
  exact ⟨congrArg (fun x => Ending.returned (.int .i64 x)) (by unfold numberI heldI; omega), Below.refl _ _⟩
theorem thing_whole (w : World) (t : Th) : Calls Try.prog 36 #[t.v] w fun e w' => e = .returned (wholeD t).v ∧ Below w.heap.size w w' := by
  go_enter Try.func36, Try.ntmps36
  go_wp2
  exact bodyPost_ret (v := (wholeD t).v) (by simp [results, Try.results36, go_sem, wholeD]) rfl ⟨rfl, Go.Joins.below_alloc2 _ _ _⟩
theorem ref_full (w : World) (t : Th) : Calls Try.prog 14 #[t.v] w fun e w' => e = .returned (wholeD t).v ∧ Below w.heap.size w w' := by
  go_enter Try.func14, Try.ntmps14
  go_wp2
  exact bodyPost_ret (v := (wholeD t).v) (by simp [results, Try.results14, go_sem, wholeD]) rfl ⟨rfl, Go.Joins.below_alloc2 _ _ _⟩
theorem thing_same (w : World) (a b : Th) : Calls Try.prog 19 #[a.v, b.v] w fun e w' => e = .returned (.bool (eqT a b)) ∧ Below w.heap.size w w' := by
  have q := fun W => equal_th W a b
  go_enter Try.func19, Try.ntmps19
  go_wp2
  go_ret
  exact ⟨rfl, Go.Joins.below_alloc2 w _ _⟩
end Go.Proofs.Ytlbbdpkbglkmnaa
