/- The statements' own check of known examples (the function known) returns true, and nothing that was there before is changed. -/
import Derived.Test.YtkipjpffilinlaaNum2
namespace Go.Proofs.Ytkipjpffilinlaa
open Go.RowKit
theorem texts_eq {s : ByteArray} {most : Int} {t : List UInt8} {k e : Nat} (h : Hid (texts s.data.toList most = (t, k, e))) (hs : s.size ≤ 281474976710656) (hm0 : -9223372036854775808 ≤ most) (hm1 : most ≤ 9223372036854775807) (w : World) :
    Calls Try.prog 14 #[.string s, .int .i64 most] w fun x w' => x = .returned (.tuple #[.string ⟨t.toArray⟩, .int .i64 k, .int .i64 e]) ∧ Below w.heap.size w w' := by
  have := texts14 s most hs hm0 hm1 w
  rw [h.out] at this
  exact this
theorem g1 : Hid (get (⟨#[172, 2, 120]⟩ : ByteArray).data.toList = (300, 2, 0)) := show get (⟨#[172, 2, 120]⟩ : ByteArray).data.toList = (300, 2, 0) by decide
theorem g2 : Hid (get (⟨#[128]⟩ : ByteArray).data.toList = (0, 0, 10)) := show get (⟨#[128]⟩ : ByteArray).data.toList = (0, 0, 10) by decide
theorem g3 : Hid (get (⟨#[128, 0]⟩ : ByteArray).data.toList = (0, 0, 11)) := show get (⟨#[128, 0]⟩ : ByteArray).data.toList = (0, 0, 11) by decide
theorem g4 : Hid (texts (⟨#[2, 97, 98, 99]⟩ : ByteArray).data.toList 5 = ([97, 98], 3, 0)) := show texts (⟨#[2, 97, 98, 99]⟩ : ByteArray).data.toList 5 = ([97, 98], 3, 0) by decide
theorem g5 : Hid (texts (⟨#[2, 97, 98, 99]⟩ : ByteArray).data.toList 1 = ([], 0, 13)) := show texts (⟨#[2, 97, 98, 99]⟩ : ByteArray).data.toList 1 = ([], 0, 13) by decide
theorem p1 : put 300 = [172, 2] := by decide
theorem p2 : put (zig (-1)) = [1] := by decide
theorem p3 : text [97, 98] = [2, 97, 98] := by decide
theorem z1 : zig (-1) = 1 := by decide
theorem z2 : zag 2 = 1 := by decide
theorem k_put (w : World) : Calls Try.prog 16 #[.int .u64 300] w fun e w' => e = .returned (.string ⟨#[172, 2]⟩) ∧ Below w.heap.size w w' := by
  have := put_any 300 (by decide) w
  rw [p1] at this
  exact this
theorem k_int (w : World) : Calls Try.prog 22 #[.int .i64 (-1)] w fun e w' => e = .returned (.string ⟨#[1]⟩) ∧ Below w.heap.size w w' := by
  have := int22 (-1) (by decide) (by decide) w
  rw [p2] at this
  exact this
theorem k_text (w : World) : Calls Try.prog 24 #[.string ⟨#[97, 98]⟩] w fun e w' => e = .returned (.string ⟨#[2, 97, 98]⟩) ∧ Below w.heap.size w w' := by
  have := text24 ⟨#[97, 98]⟩ (by decide) w
  rw [show (⟨#[97, 98]⟩ : ByteArray).data.toList = [97, 98] from rfl, p3] at this
  exact this
theorem k_zig (w : World) : Calls Try.prog 18 #[.int .i64 (-1)] w fun e w' => e = .returned (.int .u64 1) ∧ w' = w := by
  have := zig18 (-1) (by decide) (by decide) w
  rw [z1] at this
  exact this
theorem k_zag (w : World) : Calls Try.prog 20 #[.int .u64 2] w fun e w' => e = .returned (.int .i64 1) ∧ w' = w := by
  have := zag20 2 (by decide) w
  rw [z2] at this
  exact this
set_option maxRecDepth 100000 in
set_option maxHeartbeats 1000000 in
theorem known9 (w : World) : Calls Try.prog 9 #[] w fun e w' => e = .returned (.bool true) ∧ Below w.heap.size w w' := by
  go_enter Try.func9, Try.ntmps9
  go_wp2_with fail
  refine (get_eq g1 (by decide) _).mono ?_
  rintro x w1 ⟨rfl, rfl⟩
  go_wp2_with fail
  refine (get_eq g2 (by decide) _).mono ?_
  rintro x w2 ⟨rfl, rfl⟩
  go_wp2_with fail
  refine (get_eq g3 (by decide) _).mono ?_
  rintro x w3 ⟨rfl, rfl⟩
  go_wp2_with fail
  refine (texts_eq g4 (by decide) (by decide) (by decide) _).mono ?_
  rintro x w4 ⟨rfl, hb4⟩
  go_wp2_with fail
  refine (texts_eq g5 (by decide) (by decide) (by decide) _).mono ?_
  rintro x w5 ⟨rfl, hb5⟩
  go_wp2_with fail
  refine (k_put _).mono ?_
  rintro x w6 ⟨rfl, hb6⟩
  go_wp2_with fail
  refine (k_zig _).mono ?_
  rintro x w7 ⟨rfl, rfl⟩
  go_wp2_with fail
  refine (k_zag _).mono ?_
  rintro x w8 ⟨rfl, rfl⟩
  go_wp2_with fail
  refine (k_int _).mono ?_
  rintro x w9 ⟨rfl, hb9⟩
  go_wp2_with fail
  refine (k_text _).mono ?_
  rintro x w10 ⟨rfl, hb10⟩
  go_wp2
  go_ret
  have s4 := hb4.size; have s5 := hb5.size; have s6 := hb6.size; have s9 := hb9.size
  exact ⟨rfl, (((hb4.trans (hb5.mono s4)).trans (hb6.mono (by omega))).trans (hb9.mono (by omega))).trans (hb10.mono (by omega))⟩
end Go.Proofs.Ytkipjpffilinlaa
