/- Contracts of Clip of the package watch and of the reference, of may; watches compared. -/
import Derived.Test.YthgnmpgdlemdlaaWaP
import Derived.Test.YthgnmpgdlemdlaaTake
import Derived.Test.YthgnmpgdlemdlaaCE
import Derived.Test.YthgnmpgdlemdlaaCR
import Derived.Test.YthgnmpgdlemdlaaCG
namespace Go.Proofs.Ythgnmpgdlemdlaa
open Go.RowKit
set_option linter.unusedVariables false
theorem equal_rc8 (W : World) (a0 a1 a2 a3 b0 b1 b2 b3 : Int) : (Op.equalIn 9998 26 (rc a0 a1 a2 a3) (rc b0 b1 b2 b3)).run Try.prog W = .ok (eqB ⟨a0, a1, a2, a3⟩ ⟨b0, b1, b2, b3⟩) W := by
  unfold eqB
  by_cases h0 : a0 = b0 <;> by_cases h1 : a1 = b1 <;> by_cases h2 : a2 = b2 <;> by_cases h3 : a3 = b3 <;> simp [go_sem, h0, h1, h2, h3]
theorem equal_wt (W : World) (a b : Wt) : (Op.equalIn 10000 32 a.v b.v).run Try.prog W = .ok (eqW a b) W := by
  obtain ⟨a1, a2, a3, a4, a5, a6, a7⟩ := a
  obtain ⟨b1, b2, b3, b4, b5, b6, b7⟩ := b
  have e4 := fun W => equal_rc9 W a4 a5 a6 a7 b4 b5 b6 b7
  unfold eqW
  generalize eqB ⟨a4, a5, a6, a7⟩ ⟨b4, b5, b6, b7⟩ = q4 at e4 ⊢
  by_cases h0 : a1 = b1
  · by_cases h1 : a2 = b2
    · by_cases h2 : a3 = b3
      · subst h0 h1 h2
        simp [go_sem, e4]
        cases q4 <;> rfl
      · simp [go_sem, h0, h1, h2]
    · simp [go_sem, h0, h1]
  · simp [go_sem, h0]
theorem equal_wt9 (W : World) (a b : Wt) : (Op.equalIn 9999 32 a.v b.v).run Try.prog W = .ok (eqW a b) W := by
  obtain ⟨a1, a2, a3, a4, a5, a6, a7⟩ := a
  obtain ⟨b1, b2, b3, b4, b5, b6, b7⟩ := b
  have e4 := fun W => equal_rc8 W a4 a5 a6 a7 b4 b5 b6 b7
  unfold eqW
  generalize eqB ⟨a4, a5, a6, a7⟩ ⟨b4, b5, b6, b7⟩ = q4 at e4 ⊢
  by_cases h0 : a1 = b1
  · by_cases h1 : a2 = b2
    · by_cases h2 : a3 = b3
      · subst h0 h1 h2
        simp [go_sem, e4]
        cases q4 <;> rfl
      · simp [go_sem, h0, h1, h2]
    · simp [go_sem, h0, h1]
  · simp [go_sem, h0]
theorem equal_wt_at {a b : Wt} {q : Bool} (h : eqW a b = q) (W : World) : (Op.equalIn 10000 32 a.v b.v).run Try.prog W = .ok q W := by rw [equal_wt, h]
theorem Try.sizeR : (Try.prog.info? 26).map (·.size) = some 4 := by kernel_rfl
theorem rc_row {W : World} {g : Nat} {x0 y0 x1 y1 : Int} (h : W.heap[g]? = some (ro x0 y0 x1 y1)) : (loadVar 26 ⟨g, 0, none⟩).run Try.prog W = .ok (rc x0 y0 x1 y1) W :=
  run_loadVar_row W g _ _ _ _ _ h Try.underlying26 rfl Try.sizeR
theorem ro_set {W : World} {g : Nat} (h : W.heap[g]? = some (ro 0 0 0 0)) (x0 y0 x1 y1 : Int) : ((((W.setCell ⟨g, 0, none⟩ (.int .i64 x0)).setCell ⟨g, 1, none⟩ (.int .i64 y0)).setCell ⟨g, 2, none⟩ (.int .i64 x1)).setCell ⟨g, 3, none⟩ (.int .i64 y1)).heap[g]? = some (ro x0 y0 x1 y1) :=
  set_at (set_at (set_at (set_at h _ rfl) _ rfl) _ rfl) _ rfl
theorem results_clip {tmps : Array Value} {W : World} {g : Nat} {x0 y0 x1 y1 : Int} (h2 : tmps.getD 2 undef = .pointer (some ⟨g, 0, none⟩)) (h : W.heap[g]? = some (ro x0 y0 x1 y1)) : (results Try.f16 tmps).run Try.prog W = .ok (rc x0 y0 x1 y1) W := by
  have h2' : tmps[2]?.getD undef = .pointer (some ⟨g, 0, none⟩) := by simpa using h2
  simp [results, Try.results16, h2', asAddr, rc_row h]
theorem results_rclip {tmps : Array Value} {W : World} {g : Nat} {x0 y0 x1 y1 : Int} (h2 : tmps.getD 2 undef = .pointer (some ⟨g, 0, none⟩)) (h : W.heap[g]? = some (ro x0 y0 x1 y1)) : (results Try.f17 tmps).run Try.prog W = .ok (rc x0 y0 x1 y1) W := by
  have h2' : tmps[2]?.getD undef = .pointer (some ⟨g, 0, none⟩) := by simpa using h2
  simp [results, Try.results17, h2', asAddr, rc_row h]
theorem watch_clip_at {x0 y0 x1 y1 m0 m1 m2 m3 : Int} (hm : Hid (meetR ⟨x0, y0, x1, y1⟩ ⟨0, 0, 64, 64⟩ = ⟨m0, m1, m2, m3⟩)) (w : World) : Calls Try.prog 16 #[rc x0 y0 x1 y1] w fun e w' => e = .returned (rc m0 m1 m2 m3) ∧ Below w.heap.size w w' := by
  obtain ⟨W, hW⟩ : ∃ W, (w.alloc (ro x0 y0 x1 y1)).alloc (ro 0 0 0 0) = W := ⟨_, rfl⟩
  have hB : Below w.heap.size w W := by rw [← hW]; exact (below1 _ _).alloc (by simp) _
  have hA := hid (show W.heap[w.heap.size]? = some (ro x0 y0 x1 y1) by rw [← hW]; exact old_at (new_at _ _ _ rfl) _)
  have hR := hid (show W.heap[w.heap.size + 1]? = some (ro 0 0 0 0) by rw [← hW]; exact new_at _ _ _ (by simp))
  have cA := (cells_at hA.out).1
  go_enter Try.func16, Try.ntmps16
  go_upto_region 1 with fail
  try rw [hW]
  clear hW
  go_wp2_with fail
  refine (geom_meet_at hm _).mono ?_
  rintro x w1 ⟨rfl, hb⟩
  have hR1 := hid (var_on hb hR.out (at_lt hR.out))
  have hB1 := below_on hB hb
  have f1 := (cells_at hR1.out).2
  have c1 := (cells_at hR1.out).1
  clear hA hR cA hb hB
  go_wp2_with fail
  exact bodyPost_ret (v := rc m0 m1 m2 m3) (results_clip (by simp) (ro_set hR1.out _ _ _ _)) rfl ⟨rfl, below_set4 hB1 (by omega) _ _ _ _⟩
theorem ref_clip_at {x0 y0 x1 y1 m0 m1 m2 m3 : Int} (hm : Hid (meetR ⟨x0, y0, x1, y1⟩ ⟨0, 0, 64, 64⟩ = ⟨m0, m1, m2, m3⟩)) (w : World) : Calls Try.prog 17 #[rc x0 y0 x1 y1] w fun e w' => e = .returned (rc m0 m1 m2 m3) ∧ Below w.heap.size w w' := by
  obtain ⟨W, hW⟩ : ∃ W, (w.alloc (ro x0 y0 x1 y1)).alloc (ro 0 0 0 0) = W := ⟨_, rfl⟩
  have hB : Below w.heap.size w W := by rw [← hW]; exact (below1 _ _).alloc (by simp) _
  have hA := hid (show W.heap[w.heap.size]? = some (ro x0 y0 x1 y1) by rw [← hW]; exact old_at (new_at _ _ _ rfl) _)
  have hR := hid (show W.heap[w.heap.size + 1]? = some (ro 0 0 0 0) by rw [← hW]; exact new_at _ _ _ (by simp))
  have cA := (cells_at hA.out).1
  go_enter Try.func17, Try.ntmps17
  go_upto_region 1 with fail
  try rw [hW]
  clear hW
  go_region_with (first
    | (go_at_call 27; refine (ref_whole _).mono ?_; rintro x w1 ⟨rfl, hb1⟩
       have cA := (cells_at (var_on hb1 hA.out (at_lt hA.out))).1
       have hR1 := hid (var_on hb1 hR.out (at_lt hR.out))
       have hB1 := below_on (by first | exact hB | exact hB.drew) hb1
       clear hb1)
    | (go_at_call 26; refine (ref_meet_at hm _).mono ?_; rintro x w2 ⟨rfl, hb2⟩
       have hR2 := hid (var_on hb2 hR1.out (at_lt hR1.out))
       have hB2 := below_on hB1 hb2
       have f2 := (cells_at hR2.out).2
       have c2 := (cells_at hR2.out).1
       clear hb2 hR1 hB1))
  all_goals go_wp2_with fail
  all_goals exact bodyPost_ret (v := rc m0 m1 m2 m3) (results_rclip (by simp) (ro_set hR2.out _ _ _ _)) rfl ⟨rfl, below_set4 hB2 (by omega) _ _ _ _⟩
theorem may_eq (o : Wt) (s : Int) : eqW o ⟨true, s, o.st, o.r⟩ = (o.on && o.s == s) := by
  simp [eqW, eqB]
set_option maxHeartbeats 1000000 in
theorem watch_may {o : Wt} {c : Cm} {q : Bool} (h : Hid (mayB o c = q)) (w : World) : Calls Try.prog 20 #[o.v, c.v] w fun e w' => e = .returned (.bool q) ∧ Below w.heap.size w w' := by
  obtain ⟨W, hW⟩ : ∃ W, (w.alloc o.o).alloc c.o = W := ⟨_, rfl⟩
  have hB : Below w.heap.size w W := by rw [← hW]; exact (below1 _ _).alloc (by simp) _
  have hA := hid (show W.heap[w.heap.size]? = some o.o by rw [← hW]; exact old_at (new_at _ _ _ rfl) _)
  have hC := hid (show W.heap[w.heap.size + 1]? = some c.o by rw [← hW]; exact new_at _ _ _ (by simp))
  have n0 : W.cell? ⟨w.heap.size + 1, 0, none⟩ = some (.int .i64 c.kd) := cell_i hC.out (k := 0) (by simp [plI])
  have n17 : W.cell? ⟨w.heap.size + 1, 17, none⟩ = some (.int .i64 c.se) := cell_i hC.out (k := 17) (by simp [plI])
  have cA := (cells_at hA.out).1
  by_cases h6 : c.kd = 6
  · have e : q = decide (o.s < c.se) := by rw [← h.out]; unfold mayB; rw [if_pos h6]
    subst e
    have d : (c.kd == 6) = true := by simp [h6]
    clear h h6
    go_enter Try.func20, Try.ntmps20
    go_upto_region 1 with fail
    try rw [hW]
    clear hW
    go_wp2_with fail
    go_ret
    exact ⟨rfl, hB⟩
  · have e : eqW o ⟨true, c.se, o.st, o.r⟩ = q := by rw [may_eq, ← h.out]; unfold mayB; rw [if_neg h6]
    have d : (c.kd == 6) = false := by simp [h6]
    have hE := equal_wt_at e
    clear h h6
    go_enter Try.func20, Try.ntmps20
    go_upto_region 1 with fail
    try rw [hW]
    clear hW
    go_upto_region 4 with fail
    obtain ⟨W2, hW2⟩ : ∃ W2, W.alloc (wtO true c.se o.st o.r.x0 o.r.y0 o.r.x1 o.r.y1) = W2 := ⟨_, rfl⟩
    have hB2 : Below w.heap.size w W2 := by rw [← hW2]; exact hB.alloc hB.size _
    have hA2 := hid (show W2.heap[w.heap.size]? = some o.o by rw [← hW2]; exact old_at hA.out _)
    have hO := hid (show W2.heap[W.heap.size]? = some (wtO true c.se o.st o.r.x0 o.r.y0 o.r.x1 o.r.y1) by rw [← hW2]; exact new_at _ _ _ rfl)
    have c2 := (cells_at hA2.out).1
    have c3 := (cells_at hO.out).1
    try rw [hW2]
    clear hW2 cA n0 n17
    go_wp2_with fail
    go_ret
    exact ⟨rfl, hB2⟩
end Go.Proofs.Ythgnmpgdlemdlaa
