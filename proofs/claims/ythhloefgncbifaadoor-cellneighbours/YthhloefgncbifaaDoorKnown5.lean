/- The law's own function known: true. -/
import Derived.Test.YthhloefgncbifaaDoorCellsR
namespace Go.Proofs.YthhloefgncbifaaDoor
open Go.RowKit
set_option linter.unusedVariables false
set_option maxHeartbeats 1000000 in
theorem known_true (w : World) (hM : Masks w) : Calls Tryd.prog 7 #[] w fun e w' => e = .returned (.bool true) ∧ Below w.heap.size w w' := by
  have HM : Hid (Masks w) := hM
  clear hM
  have e1 : Hid (ofN 16 0 = 1 ∧ ofE 16 0 = 0 ∧ ofN (-1) 0 = 0 ∧ ofE (-1) 0 = 14) := ⟨rfl, rfl, rfl, rfl⟩
  have e2 : Hid (cellR 1 = ⟨16, 0, 32, 16⟩ ∧ isC 1 = true ∧ cellR 16 = ⟨0, 0, 0, 0⟩ ∧ isC 16 = false) := ⟨rfl, rfl, rfl, rfl⟩
  have e3 : Hid (coverL ⟨15, 0, 17, 1⟩ 16 = [0, 1]) := by show _ = _; decide +kernel
  have e4 : Hid (isC 15 = true ∧ besB 0 3 = true ∧ besB 0 0 = false) := ⟨rfl, by decide +kernel, by decide +kernel⟩
  have hQ : ∀ W : World, (Op.equalIn 10000 25 (rc 16 0 32 16) (rc 16 0 32 16)).run Tryd.prog W = .ok true W := fun W => equal_rc W _ _ _ _ _ _ _ _
  unfold rc at hQ
  go_enter Tryd.func7, Tryd.ntmps7
  go_wp2_with fail
  go_at_call 8
  refine (cells_of _ HM.out _ _).mono ?_
  rintro x w1 ⟨rfl, hb⟩
  rw [e1.out.1, e1.out.2.1]
  go_wp2_with fail
  go_at_call 8
  refine (cells_of _ (HM.out.below hb) _ _).mono ?_
  rintro x w2 ⟨rfl, hb2⟩
  replace hb := below_on hb hb2
  clear hb2
  rw [e1.out.2.2.1, e1.out.2.2.2]
  go_wp2_with fail
  go_at_call 10
  refine (cells_rect _ (HM.out.below hb) _).mono ?_
  rintro x w3 ⟨rfl, hb3⟩
  replace hb := below_on hb hb3
  clear hb3
  rw [e2.out.1, e2.out.2.1]
  go_wp2_with fail
  go_at_call 10
  refine (cells_rect _ (HM.out.below (hb.alloc hb.size _)) _).mono ?_
  rintro x w4 ⟨rfl, hb4⟩
  have k5 : Hid (w4.heap[w3.heap.size]? = some (ro 16 0 32 16)) := var_on hb4 (new_at _ _ _ rfl) (by simp)
  replace hb := below_on (hb.alloc hb.size _) hb4
  have hs4 : w3.heap.size < w4.heap.size := (Array.getElem?_eq_some_iff.1 k5.out).1
  clear hb4
  rw [e2.out.2.2.1, e2.out.2.2.2]
  go_wp2_with fail
  go_at_call 12
  refine (cells_cover _ (HM.out.below (hb.alloc hb.size _)) _ _ _ _).mono ?_
  rintro x w5 ⟨v, rfl, ho, hb5⟩
  have k6 : Hid (w5.heap[w3.heap.size]? = some (ro 16 0 32 16)) := var_on hb5 (old_at k5.out _) (by simp; omega)
  replace hb := below_on (hb.alloc hb.size _) hb5
  have hs5 : w3.heap.size < w5.heap.size := (Array.getElem?_eq_some_iff.1 k6.out).1
  clear hb5 k5 hs4
  rw [e3.out] at ho
  obtain ⟨p, cap, rfl⟩ := owns_slice ho
  obtain ⟨g, rfl⟩ := owns_some ho (by decide)
  have hc := row_int ho (k := 1) (c := 1) rfl rfl
  have h6 := var4 k6.out
  clear ho
  go_wp2_with fail
  go_at_call 14
  refine (cells_is _ _).mono ?_
  rintro x w6 ⟨rfl, rfl⟩
  rw [e4.out.1]
  go_wp2_with fail
  go_at_call 16
  refine (cells_beside _ (HM.out.below hb) _ _).mono ?_
  rintro x w6 ⟨rfl, hb6⟩
  replace hb := below_on hb hb6
  clear hb6 hc h6
  rw [e4.out.2.1]
  go_wp2_with fail
  go_at_call 16
  refine (cells_beside _ (HM.out.below hb) _ _).mono ?_
  rintro x w7 ⟨rfl, hb7⟩
  replace hb := below_on hb hb7
  rw [e4.out.2.2]
  go_wp2
  go_ret
  exact ⟨rfl, hb⟩
end Go.Proofs.YthhloefgncbifaaDoor
