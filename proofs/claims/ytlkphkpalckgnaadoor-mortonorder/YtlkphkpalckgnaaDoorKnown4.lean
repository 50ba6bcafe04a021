/- known() of the package vedettelaw4 returns true where the table of masks holds what its initialiser lays. -/
import Derived.Test.YtlkphkpalckgnaaDoorMorton2
namespace Go.Proofs.YtlkphkpalckgnaaDoor
open Go.RowKit
set_option maxRecDepth 100000 in
set_option maxHeartbeats 400000 in
theorem known_true (w : World) (hM : Masks w) :
    Calls Tryd.prog 6 #[] w fun e w' => e = .returned (.bool true) ∧ Below w.heap.size w w' := by
  have HM : Hid (Masks w) := hM
  clear hM
  have e1 : gat 9 = 1 := by decide +kernel
  have e2 : gat (9 / 2) = 2 := by decide +kernel
  have e3 : weave 1 1 = 3 := by decide +kernel
  have e4 : weave 0 2 = 8 := by decide +kernel
  have e5 : 13 >>> (2 * held 1) = 3 := by decide +kernel
  have c1 : Hid (Calls Tryd.prog 7 #[.int .u32 9] w fun e w' => e = .returned (.tuple #[.int .u16 1, .int .u16 2]) ∧ Below w.heap.size w w') := by
    have := split_at 9 (by omega) w HM.out
    rw [e1, e2] at this; exact this
  have c2 : Hid (∀ W, Masks W → Calls Tryd.prog 9 #[.int .u16 1, .int .u16 1] W fun e w' => e = .returned (.int .u32 3) ∧ w' = W) := fun W h => by
    have := weave_at 1 1 (by omega) (by omega) W h
    rw [e3] at this; exact this
  have c3 : Hid (∀ W, Masks W → Calls Tryd.prog 9 #[.int .u16 0, .int .u16 2] W fun e w' => e = .returned (.int .u32 8) ∧ w' = W) := fun W h => by
    have := weave_at 0 2 (by omega) (by omega) W h
    rw [e4] at this; exact this
  have c4 : Hid (∀ W, Calls Tryd.prog 12 #[.int .u32 13, .int .i64 1] W fun e w' => e = .returned (.int .u32 3) ∧ w' = W) := fun W => by
    have := parent_at 13 (by omega) 1 W
    rw [e5] at this; exact this
  clear e1 e2 e3 e4 e5
  go_enter Tryd.func6, Tryd.ntmps6
  go_wp2_with fail
  go_at_call 7
  refine c1.out.mono ?_
  rintro z w1 ⟨rfl, hb⟩
  have hM1 : Hid (Masks w1) := HM.out.below hb
  go_wp2_with fail
  go_at_call 9
  refine (c2.out _ hM1.out).mono ?_
  rintro z w2 ⟨rfl, rfl⟩
  go_wp2_with fail
  go_at_call 9
  refine (c3.out _ hM1.out).mono ?_
  rintro z w3 ⟨rfl, rfl⟩
  go_wp2_with fail
  go_at_call 11
  refine (less_at 1 2 _).mono ?_
  rintro z w4 ⟨rfl, rfl⟩
  go_wp2_with fail
  go_at_call 12
  refine (c4.out _).mono ?_
  rintro z w5 ⟨rfl, rfl⟩
  go_wp2
  go_ret
  exact ⟨rfl, hb⟩
end Go.Proofs.YtlkphkpalckgnaaDoor
