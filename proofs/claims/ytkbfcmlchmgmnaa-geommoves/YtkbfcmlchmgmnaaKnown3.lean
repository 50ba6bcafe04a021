/- The statements' own check of known examples (the function known) returns true, and nothing that was there before is changed. -/
import Derived.Test.YtkbfcmlchmgmnaaGeomR
import Derived.Deep.RegionHeld3
namespace Go.Proofs.Ytkbfcmlchmgmnaa
open Go.RowKit
set_option linter.unusedVariables false
theorem kOn1 : onB 63 0 = true := rfl
theorem kOn2 : onB 64 0 = false := rfl
theorem kIs1 : isB ⟨0, 0, 4, 4⟩ = true := rfl
theorem kIs2 : isB ⟨2, 0, 1, 0⟩ = false := rfl
theorem kEm : emptyB ⟨0, 0, 0, 0⟩ = true := rfl
theorem kIn1 : inB ⟨0, 0, 4, 4⟩ 3 3 = true := rfl
theorem kIn2 : inB ⟨0, 0, 4, 4⟩ 4 0 = false := rfl
theorem kSa : sameB ⟨0, 0, 4, 4⟩ ⟨0, 0, 4, 4⟩ = true := rfl
theorem k_minus (w : World) : Calls Try.prog 10 #[rc 0 0 4 4, rc 1 1 2 2] w fun e w' => ∃ p cap, e = .returned (.slice (some p) 4 cap) ∧ Below w.heap.size w w' := by
  refine (geom_minus w 0 0 4 4 1 1 2 2).mono ?_
  rintro x w1 ⟨v, rfl, ho, hb⟩
  rw [show minusL ⟨0, 0, 4, 4⟩ ⟨1, 1, 2, 2⟩ = [⟨0, 0, 4, 1⟩, ⟨0, 2, 4, 4⟩, ⟨0, 1, 1, 2⟩, ⟨2, 1, 4, 2⟩] by rfl] at ho
  obtain ⟨g, cap, rfl⟩ := Go.Joins.ownsRow_form ho (by decide)
  exact ⟨_, _, rfl, hb⟩
theorem k_meet (w : World) : Calls Try.prog 20 #[rc 0 0 4 4, rc 1 1 2 2] w fun e w' => e = .returned (rc 1 1 2 2) ∧ Below w.heap.size w w' := geom_meet_at (show _ = _ from rfl) w
theorem k_area (w : World) : Calls Try.prog 22 #[rc 0 0 4 4] w fun e w' => e = .returned (.int .i64 16) ∧ Below w.heap.size w w' := geom_area w 0 0 4 4
set_option maxHeartbeats 4000000 in
set_option maxRecDepth 100000 in
theorem known_true (w : World) : Calls Try.prog 8 #[] w fun e w' => e = .returned (.bool true) ∧ Below w.heap.size w w' := by
  go_enter Try.func8, Try.ntmps8
  go_wp2_with fail
  have hB : Below w.heap.size w ((w.alloc (ro 0 0 4 4)).alloc (ro 1 1 2 2)) := (below1 _ _).alloc (by simp) _
  have kA := var4 (w := (w.alloc (ro 0 0 4 4)).alloc (ro 1 1 2 2)) (g := w.heap.size) (by simp only [heap_alloc]; simp; exact ⟨⟨rfl, rfl, rfl, rfl⟩, rfl⟩)
  have kB := var4 (w := (w.alloc (ro 0 0 4 4)).alloc (ro 1 1 2 2)) (g := w.heap.size + 1) (by simp only [heap_alloc]; simp; exact ⟨⟨rfl, rfl, rfl, rfl⟩, rfl⟩)
  obtain ⟨a1, a2, a3, a4, -⟩ := kA
  obtain ⟨b1, b2, b3, b4, -⟩ := kB
  obtain ⟨W, hW⟩ : ∃ W, (w.alloc (ro 0 0 4 4)).alloc (ro 1 1 2 2) = W := ⟨_, rfl⟩
  unfold ro at hW hB a1 a2 a3 a4 b1 b2 b3 b4
  rw [hW] at hB a1 a2 a3 a4 b1 b2 b3 b4 ⊢
  clear hW
  go_region_held3 (fun w' => w'.cell? ⟨w.heap.size, 0, none⟩ = some (.int .i64 0) ∧ w'.cell? ⟨w.heap.size, 1, none⟩ = some (.int .i64 0) ∧ w'.cell? ⟨w.heap.size, 2, none⟩ = some (.int .i64 4) ∧ w'.cell? ⟨w.heap.size, 3, none⟩ = some (.int .i64 4) ∧ w'.cell? ⟨w.heap.size + 1, 0, none⟩ = some (.int .i64 1) ∧ w'.cell? ⟨w.heap.size + 1, 1, none⟩ = some (.int .i64 1) ∧ w'.cell? ⟨w.heap.size + 1, 2, none⟩ = some (.int .i64 2) ∧ w'.cell? ⟨w.heap.size + 1, 3, none⟩ = some (.int .i64 2))
    (first | go_keep | (go_split_ands; refine ⟨?_, ?_, ?_, ?_, ?_, ?_, ?_, ?_⟩ <;> exact cell_below hbK (by assumption)))
    (first
      | (go_at_call 12; refine (geom_on _ _ _).mono ?_; rintro x w1 ⟨rfl, hbK⟩; have hB : Below w.heap.size w w1 := (by first | exact below_on hB hbK | exact below_on hB.drew hbK); simp only [kOn1, kOn2])
      | (go_at_call 14; refine (geom_is _ _ _ _ _).mono ?_; rintro x w1 ⟨rfl, hbK⟩; have hB : Below w.heap.size w w1 := (by first | exact below_on hB hbK | exact below_on hB.drew hbK); simp only [kIs1, kIs2])
      | (go_at_call 16; refine (geom_empty _ _ _ _ _).mono ?_; rintro x w1 ⟨rfl, hbK⟩; have hB : Below w.heap.size w w1 := (by first | exact below_on hB hbK | exact below_on hB.drew hbK); simp only [kEm])
      | (go_at_call 18; refine (geom_in _ _ _ _ _ _ _).mono ?_; rintro x w1 ⟨rfl, hbK⟩; have hB : Below w.heap.size w w1 := (by first | exact below_on hB hbK | exact below_on hB.drew hbK); simp only [kIn1, kIn2])
      | (go_at_call 20; refine (k_meet _).mono ?_; rintro x w1 ⟨rfl, hbK⟩; have hB : Below w.heap.size w w1 := (by first | exact below_on hB hbK | exact below_on hB.drew hbK))
      | (go_at_call 10; refine (k_minus _).mono ?_; rintro x w1 ⟨p, cap, rfl, hbK⟩; have hB : Below w.heap.size w w1 := (by first | exact below_on hB hbK | exact below_on hB.drew hbK))
      | (go_at_call 22; refine (k_area _).mono ?_; rintro x w1 ⟨rfl, hbK⟩; have hB : Below w.heap.size w w1 := (by first | exact below_on hB hbK | exact below_on hB.drew hbK))
      | (go_at_call 24; refine (geom_same _ _ _ _ _ _ _ _ _).mono ?_; rintro x w1 ⟨rfl, hbK⟩; have hB : Below w.heap.size w w1 := (by first | exact below_on hB hbK | exact below_on hB.drew hbK); simp only [kSa]))
  all_goals (go_wp2; go_ret; exact ⟨rfl, hB⟩)
end Go.Proofs.Ytkbfcmlchmgmnaa
