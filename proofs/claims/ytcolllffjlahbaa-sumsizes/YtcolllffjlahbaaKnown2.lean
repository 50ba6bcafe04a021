/- What vedettelaw2's known() asks: it returns true and changes nothing that was there. -/
import Derived.Test.YtcolllffjlahbaaSum2
namespace Go.Proofs.Ytcolllffjlahbaa
open Go.RowKit
set_option linter.unusedVariables false
theorem k2_wrap : wrap [97, 98] = [2, 97, 98, 109, 72, 131, 158] := by decide +kernel
theorem k2_open : unwrap [2, 97, 98, 109, 72, 131, 158, 120] = ([97, 98], 7, 0) := by decide +kernel
theorem k2_sum : unwrap [0, 0, 0, 0, 1] = ([], 0, 12) := by decide +kernel
theorem k2_short : unwrap [0, 0] = ([], 0, 10) := by decide +kernel
theorem k2_nine : crc [49, 50, 51, 52, 53, 54, 55, 56, 57] = 3421780262 := by decide +kernel
theorem k2_none : crc [] = 0 := by decide +kernel
theorem k2w (w : World) : Calls Try.prog 14 #[.string ⟨#[97, 98]⟩] w fun e w' => e = .returned (.string ⟨#[2, 97, 98, 109, 72, 131, 158]⟩) ∧ Below w.heap.size w w' := by
  have := sum_wrap ⟨#[97, 98]⟩ (by decide) w
  rw [show (⟨#[97, 98]⟩ : ByteArray).data.toList = [97, 98] from rfl, k2_wrap] at this
  exact this
theorem k2o1 (w : World) : Calls Try.prog 10 #[.string ⟨#[2, 97, 98, 109, 72, 131, 158, 120]⟩] w fun e w' => e = .returned (.tuple #[.string ⟨#[97, 98]⟩, .int .i64 7, .int .i64 0]) ∧ Below w.heap.size w w' := by
  have := sum_open ⟨#[2, 97, 98, 109, 72, 131, 158, 120]⟩ (by decide) w
  rw [show (⟨#[2, 97, 98, 109, 72, 131, 158, 120]⟩ : ByteArray).data.toList = [2, 97, 98, 109, 72, 131, 158, 120] from rfl, k2_open] at this
  exact this
theorem k2o2 (w : World) : Calls Try.prog 10 #[.string ⟨#[0, 0, 0, 0, 1]⟩] w fun e w' => e = .returned (.tuple #[.string ⟨#[]⟩, .int .i64 0, .int .i64 12]) ∧ Below w.heap.size w w' := by
  have := sum_open ⟨#[0, 0, 0, 0, 1]⟩ (by decide) w
  rw [show (⟨#[0, 0, 0, 0, 1]⟩ : ByteArray).data.toList = [0, 0, 0, 0, 1] from rfl, k2_sum] at this
  exact this
theorem k2o3 (w : World) : Calls Try.prog 10 #[.string ⟨#[0, 0]⟩] w fun e w' => e = .returned (.tuple #[.string ⟨#[]⟩, .int .i64 0, .int .i64 10]) ∧ Below w.heap.size w w' := by
  have := sum_open ⟨#[0, 0]⟩ (by decide) w
  rw [show (⟨#[0, 0]⟩ : ByteArray).data.toList = [0, 0] from rfl, k2_short] at this
  exact this
theorem k2s1 (w : World) : Calls Try.prog 12 #[.string ⟨#[49, 50, 51, 52, 53, 54, 55, 56, 57]⟩] w fun e w' => e = .returned (.int .u32 3421780262) ∧ w' = w := by
  have := sum_of ⟨#[49, 50, 51, 52, 53, 54, 55, 56, 57]⟩ (by decide) w
  rw [show (⟨#[49, 50, 51, 52, 53, 54, 55, 56, 57]⟩ : ByteArray).data.toList = [49, 50, 51, 52, 53, 54, 55, 56, 57] from rfl, k2_nine] at this
  exact this
theorem k2s2 (w : World) : Calls Try.prog 12 #[.string ⟨#[]⟩] w fun e w' => e = .returned (.int .u32 0) ∧ w' = w := by
  have := sum_of ⟨#[]⟩ (by decide) w
  rw [show (⟨#[]⟩ : ByteArray).data.toList = [] from rfl, k2_none] at this
  exact this
set_option maxRecDepth 100000 in
set_option maxHeartbeats 1000000 in
theorem known2 (w : World) : Calls Try.prog 9 #[] w fun e w' => e = .returned (.bool true) ∧ Below w.heap.size w w' := by
  have hj : (⟨#[2, 97, 98, 109, 72, 131, 158]⟩ : ByteArray) ++ ⟨#[120]⟩ = ⟨#[2, 97, 98, 109, 72, 131, 158, 120]⟩ := by decide +kernel
  go_enter Try.func9, Try.ntmps9
  go_wp2_with fail
  refine (k2w _).mono ?_
  rintro x w1 ⟨rfl, hb1⟩
  go_wp2_with fail
  refine (k2o1 _).mono ?_
  rintro x w2 ⟨rfl, hb2⟩
  go_wp2_with fail
  refine (k2o2 _).mono ?_
  rintro x w3 ⟨rfl, hb3⟩
  go_wp2_with fail
  refine (k2o3 _).mono ?_
  rintro x w4 ⟨rfl, hb4⟩
  go_wp2_with fail
  refine (k2s1 _).mono ?_
  rintro x w5 ⟨rfl, rfl⟩
  go_wp2_with fail
  refine (k2s2 _).mono ?_
  rintro x w6 ⟨rfl, rfl⟩
  go_wp2
  go_ret
  have s1 := hb1.size; have s2 := hb2.size; have s3 := hb3.size
  exact ⟨rfl, ((hb1.trans (hb2.mono s1)).trans (hb3.mono (by omega))).trans (hb4.mono (by omega))⟩
end Go.Proofs.Ytcolllffjlahbaa
