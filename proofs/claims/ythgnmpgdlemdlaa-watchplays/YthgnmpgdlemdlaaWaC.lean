/- Contracts of Sees of the package watch and of the reference. -/
import Derived.Test.YthgnmpgdlemdlaaWaB
namespace Go.Proofs.Ythgnmpgdlemdlaa
open Go.RowKit
set_option linter.unusedVariables false
abbrev ptO (x y : Int) : Obj := .cells #[.int .i64 x, .int .i64 y] 24 (0, 0)
theorem in_at {x0 y0 x1 y1 x y : Int} {q : Bool} (h : Hid (inB ⟨x0, y0, x1, y1⟩ x y = q)) (w : World) : Calls Try.prog 23 #[rc x0 y0 x1 y1, pt x y] w fun e w' => e = .returned (.bool q) ∧ Below w.heap.size w w' := by
  have := geom_in w x0 y0 x1 y1 x y
  rw [h.out] at this
  exact this
theorem refin_at {x0 y0 x1 y1 x y : Int} {q : Bool} (h : Hid (inB ⟨x0, y0, x1, y1⟩ x y = q)) (w : World) : Calls Try.prog 24 #[rc x0 y0 x1 y1, pt x y] w fun e w' => e = .returned (.bool q) ∧ Below w.heap.size w w' := by
  have := ref_in w x0 y0 x1 y1 x y
  rw [h.out] at this
  exact this
set_option maxHeartbeats 1000000 in
theorem watch_sees_at {w : World} {g : Nat} {t : TypeId} {L : List Wt} (h : WB w g t L) {c x y : Int} {q : Bool} (hq : Hid (seesB L c x y = q)) : Calls Try.prog 13 #[.pointer (some ⟨g, 0, none⟩), .int .i64 c, pt x y] w fun e w' => e = .returned (.bool q) ∧ Below w.heap.size w w' := by
  obtain ⟨W, hW⟩ : ∃ W, w.alloc (ptO x y) = W := ⟨_, rfl⟩
  have hB : Below w.heap.size w W := by rw [← hW]; exact below1 _ _
  have hP := hid (show W.heap[w.heap.size]? = some (ptO x y) by rw [← hW]; exact new_at _ _ _ rfl)
  obtain ⟨o, ho⟩ : ∃ o, Hid (ofW L c = o) := ⟨_, rfl⟩
  have C := watch_of_at (h.later hB) ho
  have hq2 : Hid ((o.on && inB o.r x y) = q) := by show _ = _; rw [← ho.out]; exact hq.out
  obtain ⟨on, s, st, x0, y0, x1, y1⟩ := o
  simp only at hq2
  clear h hq ho
  go_enter Try.func13, Try.ntmps13
  go_upto_region 1 with fail
  try rw [hW]
  clear hW
  go_wp2_with fail
  refine C.mono ?_
  rintro z w1 ⟨rfl, hb1⟩
  have hP1 := hid (var_on hb1 hP.out (at_lt hP.out))
  have hB1 := below_on hB hb1
  clear C hP hB hb1
  go_upto_region 2 with fail
  obtain ⟨W2, hW2⟩ : ∃ W2, w1.alloc (wtO on s st x0 y0 x1 y1) = W2 := ⟨_, rfl⟩
  have hB2 : Below w.heap.size w W2 := by rw [← hW2]; exact hB1.alloc hB1.size _
  have hP2 := hid (show W2.heap[w.heap.size]? = some (ptO x y) by rw [← hW2]; exact old_at hP1.out _)
  have hO := hid (show W2.heap[w1.heap.size]? = some (wtO on s st x0 y0 x1 y1) by rw [← hW2]; exact new_at _ _ _ rfl)
  have c2 := (cells_at hP2.out).1
  have c3 := (cells_at hO.out).1
  try rw [hW2]
  clear hW2 hP1 hB1
  cases on
  · obtain rfl : false = q := hq2.out
    clear hq2
    go_wp2_with fail
    go_ret
    exact ⟨rfl, hB2⟩
  · have C2 := in_at (x0 := x0) (y0 := y0) (x1 := x1) (y1 := y1) (x := x) (y := y) (q := q) (by show _ = _; rw [← hq2.out]; simp) W2
    clear hq2
    go_wp2_with fail
    refine C2.mono ?_
    rintro z w3 ⟨rfl, hb3⟩
    have hB3 := below_on hB2 hb3
    clear C2 c2 c3 hb3 hP2 hO
    go_wp2_with fail
    go_ret
    exact ⟨rfl, hB3⟩
set_option maxHeartbeats 2000000 in
theorem ref_sees_at {w : World} {g : Nat} {t : TypeId} {L : List Wt} (h : WB w g t L) {c x y : Int} {q : Bool} (hq : Hid (seesB L c x y = q)) : Calls Try.prog 14 #[.pointer (some ⟨g, 0, none⟩), .int .i64 c, pt x y] w fun e w' => e = .returned (.bool q) ∧ Below w.heap.size w w' := by
  obtain ⟨W, hW⟩ : ∃ W, w.alloc (ptO x y) = W := ⟨_, rfl⟩
  have hB : Below w.heap.size w W := by rw [← hW]; exact below1 _ _
  have hP := hid (show W.heap[w.heap.size]? = some (ptO x y) by rw [← hW]; exact new_at _ _ _ rfl)
  have h1 := hid (h.later hB)
  clear h
  by_cases hc : isCl c = true
  · obtain ⟨k, rfl, hk⟩ := cl_nat hc
    obtain ⟨o, ho⟩ := h1.out.get hk
    have hq2 : Hid ((o.on && inB o.r x y) = q) := by show _ = _; rw [← hq.out]; unfold seesB ofW; rw [if_pos hc, atW_nat ho]
    obtain ⟨c0, c1, c2, c3, c4, c5, c6⟩ := h1.out.cell ho
    have d1 : decide (0 ≤ (k : Int)) = true := by simp
    have d2 : decide ((k : Int) < 4) = true := by simp; omega
    have hk' : (k : Int) < 4 := by omega
    obtain ⟨on, s, st, x0, y0, x1, y1⟩ := o
    simp only at hq2 c0 c1 c2 c3 c4 c5 c6
    clear ho hc hq
    cases on
    · obtain rfl : false = q := hq2.out
      clear hq2
      go_enter Try.func14, Try.ntmps14
      go_upto_region 1 with fail
      try rw [hW]
      clear hW
      go_quiet (fail)
      go_wp2_with fail
      go_ret
      exact ⟨rfl, below_drewN hB _⟩
    · have C2 := fun W => refin_at (x0 := x0) (y0 := y0) (x1 := x1) (y1 := y1) (x := x) (y := y) (q := q) (by show _ = _; rw [← hq2.out]; simp) W
      have g0 := cell_regrown c0
      have g3 := cell_regrown c3
      have g4 := cell_regrown c4
      have g5 := cell_regrown c5
      have g6 := cell_regrown c6
      have gp := grown_cells hP.out
      clear hq2 c0 c1 c2 c3 c4 c5 c6
      go_enter Try.func14, Try.ntmps14
      go_upto_region 1 with fail
      try rw [hW]
      clear hW
      refine wp_region_quiet_below (by kernel_rfl) (by kernel_rfl) ?_
      repeat (first | go_big_quiet_skip | (go_big_quiet_want; go_big_quiet_op; first | go_big_quiet_on | go_big_quiet_call (first | with_reducible exact Calls.regrown_of (C2 _))))
      refine wpQuiet_nil ?_
      intro W4 hw'
      obtain ⟨⟨dq, osq⟩, hw''⟩ := hw'
      have hb4 : Below W.heap.size W W4 := by rw [hw'']; exact below_regrown _ _ _
      clear hw'' g0 g3 g4 g5 g6 gp C2
      go_wp2_with fail
      go_ret
      exact ⟨rfl, below_on hB hb4⟩
  · obtain rfl : false = q := by rw [← hq.out]; unfold seesB ofW; rw [if_neg hc]; rfl
    have hc' : decide (0 ≤ c) = false ∨ decide (0 ≤ c) = true ∧ decide (c < 4) = false := by simp [isCl] at hc ⊢; omega
    clear hq hc
    rcases hc' with d1 | ⟨d1, d2⟩
    all_goals
      go_enter Try.func14, Try.ntmps14
      go_upto_region 1 with fail
      try rw [hW]
      clear hW
      go_quiet (fail)
      go_wp2_with fail
      go_ret
      exact ⟨rfl, below_drewN hB _⟩
end Go.Proofs.Ythgnmpgdlemdlaa
