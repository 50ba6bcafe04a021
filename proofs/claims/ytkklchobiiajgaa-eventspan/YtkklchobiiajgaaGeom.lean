/- Contracts of the package geom's functions and of the reference's: each returns what the plain functions say, and nothing that was there before is changed. -/
import Derived.Test.YtkklchobiiajgaaGeomP
namespace Go.Proofs.Ytkklchobiiajgaa
open Go.RowKit
theorem geom_in (w : World) (x0 y0 x1 y1 x y : Int) : Calls Try.prog 74 #[rc x0 y0 x1 y1, pt x y] w fun e w' => e = .returned (.bool (inB ⟨x0, y0, x1, y1⟩ x y)) ∧ Below w.heap.size w w' := by
  go_enter Try.func74, Try.ntmps74
  go_wp2 <;> (go_ret; exact ⟨by simp_all [inB] <;> omega, (below1 _ _).alloc (by simp) _⟩)
theorem geom_whole (w : World) : Calls Try.prog 75 #[] w fun e w' => e = .returned (rc 0 0 64 64) ∧ Below w.heap.size w w' := by
  go_enter Try.func75, Try.ntmps75
  go_wp2
  exact bodyPost_ret (v := rc 0 0 64 64) (by simp [results, Try.results75, go_sem]) rfl ⟨rfl, below1 _ _⟩
abbrev ro (x0 y0 x1 y1 : Int) : Obj := .cells #[.int .i64 x0, .int .i64 y0, .int .i64 x1, .int .i64 y1] 110 (0, 0)
theorem equal_rc (W : World) (a0 a1 a2 a3 b0 b1 b2 b3 : Int) : (Op.equalIn 10000 110 (rc a0 a1 a2 a3) (rc b0 b1 b2 b3)).run Try.prog W = .ok (eqB ⟨a0, a1, a2, a3⟩ ⟨b0, b1, b2, b3⟩) W := by
  unfold eqB
  by_cases h0 : a0 = b0 <;> by_cases h1 : a1 = b1 <;> by_cases h2 : a2 = b2 <;> by_cases h3 : a3 = b3 <;> simp [go_sem, h0, h1, h2, h3]
theorem geom_on (w : World) (x y : Int) : Calls Try.prog 63 #[pt x y] w fun e w' => e = .returned (.bool (onB x y)) ∧ Below w.heap.size w w' := by
  go_enter Try.func63, Try.ntmps63
  go_wp2_with fail
  have hB := below1 w (Obj.cells #[.int .i64 x, .int .i64 y] 38)
  have hg := grown2 (W := w.alloc (Obj.cells #[.int .i64 x, .int .i64 y] 38)) (g := w.heap.size) (heap_alloc_new _ _)
  obtain ⟨W, hW⟩ : ∃ W, w.alloc (Obj.cells #[.int .i64 x, .int .i64 y] 38) = W := ⟨_, rfl⟩
  rw [hW] at hB hg ⊢
  refine wp_region_quiet_below (by kernel_rfl) (by kernel_rfl) ?_
  repeat (first | go_big_quiet_step (first | exact Calls.regrown_of (geom_whole _) | exact Calls.regrown_of (geom_in _ _ _ _ _ _ _)) | quiet_step (first | exact Calls.regrown_of (geom_whole _) | exact Calls.regrown_of (geom_in _ _ _ _ _ _ _)))
  refine wpQuiet_nil ?_
  intro _ hw'
  obtain ⟨⟨dq, osq⟩, hw''⟩ := hw'
  subst hw''
  go_wp2
  go_ret
  exact ⟨rfl, hB.trans ((below_regrown W dq osq).mono hB.size)⟩
theorem ref_on (w : World) (x y : Int) : Calls Try.prog 53 #[pt x y] w fun e w' => e = .returned (.bool (onB x y)) ∧ Below w.heap.size w w' := by
  go_enter Try.func53, Try.ntmps53
  go_wp2 <;> (go_ret; exact ⟨by simp_all [onB, inB] <;> omega, below1 _ _⟩)
end Go.Proofs.Ytkklchobiiajgaa
