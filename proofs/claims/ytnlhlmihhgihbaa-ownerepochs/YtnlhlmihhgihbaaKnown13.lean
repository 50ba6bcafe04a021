/- What the laws on owners share: known. -/
import Derived.Test.YtnlhlmihhgihbaaOwE
namespace Go.Proofs.Ytnlhlmihhgihbaa
open Go.RowKit
set_option linter.unusedVariables false
/-- a hand by itself, its error and its owners under names -/
theorem hand_at {w : World} {g : Nat} {t : TypeId} {n : Int} {L M : List Ow} {e c f u : Int} (h : MB w g t (n - 1) L) (he : handE n L c f u = e) (hm : handL n L c f u = M) :
    Calls Try.prog 12 #[.pointer (some ⟨g, 0, none⟩), .int .i64 c, .int .i64 f, .int .i64 u] w fun x w' => x = .returned (.int .i64 e) ∧ MB w' g t (n - 1) M ∧ But g w w' :=
  (own_hand h c f u).mono fun x w' ⟨h1, h2, h3⟩ => ⟨by rw [h1, he], by rw [← hm]; exact h2, h3⟩
def kL : List Ow := [⟨1, 1⟩, ⟨1, 0⟩, ⟨0, 0⟩, ⟨1, 0⟩, ⟨0, 0⟩, ⟨1, 0⟩, ⟨0, 0⟩, ⟨1, 0⟩, ⟨0, 0⟩, ⟨1, 0⟩, ⟨0, 0⟩, ⟨1, 0⟩, ⟨0, 0⟩, ⟨1, 0⟩, ⟨0, 0⟩, ⟨1, 0⟩]
theorem k_e1 : handE 2 (dealt (heldN 2)) 0 0 1 = 0 := by rfl
theorem k_l1 : handL 2 (dealt (heldN 2)) 0 0 1 = kL := by kernel_rfl
theorem k_e2 : handE 2 kL 0 0 1 = 17 := by rfl
theorem k_e3 : handE 2 kL 1 1 2 = 19 := by rfl
theorem k_e4 : handE 2 kL 16 0 1 = 11 := by rfl
theorem k_e5 : handE 2 kL 1 1 1 = 19 := by rfl
theorem k_of : ofO kL 0 = ⟨1, 1⟩ := by rfl
theorem k_of2 : ofO kL 16 = ⟨0, 0⟩ := by rfl
theorem k_all : kL.all (okO 2) = true := by rfl
theorem k_c1 : cellsN kL 1 = [0, 1, 3, 5, 7, 9, 11, 13, 15] := by rfl
theorem k_c0 : cellsN kL 0 = [2, 4, 6, 8, 10, 12, 14] := by rfl
set_option maxHeartbeats 4000000 in
theorem known (w : World) : Calls Try.prog 8 #[] w fun e w' => e = .returned (.bool true) ∧ Below w.heap.size w w' := by
  have C := own_new w 2
  go_enter Try.func8, Try.ntmps8
  go_wp2_with fail
  refine C.mono ?_
  rintro x w1 ⟨rfl, hm, hb⟩
  clear C
  have M1 := hid (show MB w1 w.heap.size 54 (2 - 1) (dealt (heldN 2)) from hm)
  clear hm
  go_wp2_with fail
  refine (hand_at M1.out k_e1 k_l1).mono ?_
  rintro x w2 ⟨rfl, hm, hb2⟩
  have M2 := hid hm
  have B2 := But.below hb hb2 (Nat.le_refl _)
  clear hm hb hb2 M1
  go_wp2_with fail
  refine (hand_at M2.out k_e2 (handL_bad k_e2 (by decide))).mono ?_
  rintro x w3 ⟨rfl, hm, hb2⟩
  have M3 := hid hm
  have B3 := But.below B2 hb2 (Nat.le_refl _)
  clear hm hb2 M2 B2
  go_wp2_with fail
  refine (hand_at M3.out k_e3 (handL_bad k_e3 (by decide))).mono ?_
  rintro x w4 ⟨rfl, hm, hb2⟩
  have M4 := hid hm
  have B4 := But.below B3 hb2 (Nat.le_refl _)
  clear hm hb2 M3 B3
  go_wp2_with fail
  refine (hand_at M4.out k_e4 (handL_bad k_e4 (by decide))).mono ?_
  rintro x w5 ⟨rfl, hm, hb2⟩
  have M5 := hid hm
  have B5 := But.below B4 hb2 (Nat.le_refl _)
  clear hm hb2 M4 B4
  go_wp2_with fail
  refine (hand_at M5.out k_e5 (handL_bad k_e5 (by decide))).mono ?_
  rintro x w6 ⟨rfl, hm, hb2⟩
  have M6 := hid hm
  have B6 := But.below B5 hb2 (Nat.le_refl _)
  clear hm hb2 M5 B5
  have C := own_of M6.out 0
  rw [k_of, show isCell 0 = true from rfl] at C
  go_wp2_with fail
  refine C.mono ?_
  rintro x w7 ⟨rfl, hb2⟩
  clear C
  have M7 := hid (M6.out.later hb2)
  have B7 := below_on B6 hb2
  clear hb2 M6 B6
  go_upto_region 5 with fail
  obtain ⟨W, hW⟩ : ∃ W, w7.alloc (.cells #[.int .i64 1, .int .i64 1] 46) = W := ⟨_, rfl⟩
  have hX := hid (show W.heap[w7.heap.size]? = some (.cells #[.int .i64 1, .int .i64 1] 46 (0, 0)) by rw [← hW]; exact new_at _ _ _ rfl)
  have M8 := hid (M7.out.later (below1 w7 (.cells #[.int .i64 1, .int .i64 1] 46)))
  have B8 := below_on B7 (below1 w7 (.cells #[.int .i64 1, .int .i64 1] 46))
  rw [hW] at M8 B8 ⊢
  clear hW M7 B7
  have C := own_of M8.out 16
  rw [k_of2, show isCell 16 = false from rfl] at C
  go_wp2_with fail
  refine C.mono ?_
  rintro x w9 ⟨rfl, hb2⟩
  clear C
  have M9 := hid (M8.out.later hb2)
  have X9 := hid (var_on hb2 hX.out (at_lt hX.out))
  have B9 := below_on B8 hb2
  clear hb2 M8 B8 hX
  go_upto_region 6 with fail
  obtain ⟨W2, hW⟩ : ∃ W2, w9.alloc (.cells #[.int .i64 0, .int .i64 0] 46) = W2 := ⟨_, rfl⟩
  have M10 := hid (M9.out.later (below1 w9 (.cells #[.int .i64 0, .int .i64 0] 46)))
  have X10 := hid (old_at X9.out (.cells #[.int .i64 0, .int .i64 0] 46))
  have B10 := below_on B9 (below1 w9 (.cells #[.int .i64 0, .int .i64 0] 46))
  rw [hW] at M10 X10 B10 ⊢
  clear hW M9 X9 B9
  go_wp2_with fail
  refine (own_all M10.out).mono ?_
  rintro x w11 ⟨b, cap, rfl, hb0, hrow, hb2⟩
  have M11 := hid (M10.out.later hb2)
  have X11 := hid (var_on hb2 X10.out (at_lt X10.out))
  have B11 := below_on B10 hb2
  have R11 := hid hrow
  clear hb2 M10 X10 B10 hrow hb0
  go_wp2_with fail
  refine (own_load R11.out M11.out.len (by decide) (by decide)).mono ?_
  rintro x w12 (⟨-, g2, rfl, hm2, hg2, hb2⟩ | ⟨he, -⟩)
  rotate_left
  · rw [k_all] at he; cases he
  have N12 := hid hm2
  have M12 := hid (M11.out.later hb2)
  have X12 := hid (var_on hb2 X11.out (at_lt X11.out))
  have B12 := below_on B11 hb2
  clear hb2 M11 X11 B11 R11 hm2 hg2
  have C := own_load_no (n := 2) (len := 0) rfl w12 none 0
  go_wp2_with fail
  refine C.mono ?_
  rintro x w13 ⟨rfl, h2⟩
  rw [h2]
  clear h2 C w13
  have x0 : w12.cell? ⟨w7.heap.size, 0, none⟩ = some (.int .i64 1) := Go.Joins.cell_of_block X12.out 0
  have x1 : w12.cell? ⟨w7.heap.size, 1, none⟩ = some (.int .i64 1) := Go.Joins.cell_of_block X12.out 1
  go_wp2_with fail
  refine (own_all N12.out).mono ?_
  rintro x w14 ⟨b2, cap2, rfl, -, -, hb2⟩
  have M14 := hid (M12.out.later hb2)
  have B14 := below_on B12 hb2
  clear hb2 M12 B12 X12 x0 x1 N12
  have C := own_servers (n := 2) M14.out (by decide) (by decide)
  go_wp2_with fail
  refine C.mono ?_
  rintro x w15 ⟨rfl, h2⟩
  rw [h2]
  clear h2 C w15
  go_wp2_with fail
  refine (own_cells M14.out 1).mono ?_
  rintro x w16 ⟨v, rfl, hown, hb2⟩
  have M16 := hid (M14.out.later hb2)
  have B16 := below_on B14 hb2
  obtain ⟨p, cp, rfl⟩ := owns_slice hown
  rw [k_c1]
  clear hb2 M14 B14 hown
  go_wp2_with fail
  refine (own_copy M16.out).mono ?_
  rintro x w17 ⟨rfl, hm, hb2⟩
  have M17 := hid hm
  have B17 := below_on B16 hb2
  clear hb2 M16 B16 hm
  go_wp2_with fail
  refine (own_cells M17.out 0).mono ?_
  rintro x w18 ⟨v, rfl, hown, hb2⟩
  have B18 := below_on B17 hb2
  obtain ⟨p2, cp2, rfl⟩ := owns_slice hown
  rw [k_c0]
  clear hb2 M17 B17 hown
  go_wp2_with fail
  go_ret
  exact ⟨rfl, B18⟩
end Go.Proofs.Ytnlhlmihhgihbaa
