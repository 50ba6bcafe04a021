/- Contracts of the package geom's functions and of the reference's: each returns what the plain functions say, and nothing that was there before is changed. -/
import Derived.Test.YtfoncphdbaaedaaGreatDoorGeomP
namespace Go.Proofs.YtfoncphdbaaedaaGreatDoor
open Go.RowKit
theorem geom_empty (w : World) (x0 y0 x1 y1 : Int) : Calls Tryz.prog 74 #[rc x0 y0 x1 y1] w fun e w' => e = .returned (.bool (emptyB ⟨x0, y0, x1, y1⟩)) ∧ Below w.heap.size w w' := by
  go_enter Tryz.func74, Tryz.ntmps74
  go_wp2 <;> (go_ret; exact ⟨by simp_all [emptyB], below1 _ _⟩)
theorem geom_in (w : World) (x0 y0 x1 y1 x y : Int) : Calls Tryz.prog 62 #[rc x0 y0 x1 y1, pt x y] w fun e w' => e = .returned (.bool (inB ⟨x0, y0, x1, y1⟩ x y)) ∧ Below w.heap.size w w' := by
  go_enter Tryz.func62, Tryz.ntmps62
  go_wp2 <;> (go_ret; exact ⟨by simp_all [inB] <;> omega, (below1 _ _).alloc (by simp) _⟩)
theorem geom_whole (w : World) : Calls Tryz.prog 116 #[] w fun e w' => e = .returned (rc 0 0 64 64) ∧ Below w.heap.size w w' := by
  go_enter Tryz.func116, Tryz.ntmps116
  go_wp2
  exact bodyPost_ret (v := rc 0 0 64 64) (by simp [results, Tryz.results116, go_sem]) rfl ⟨rfl, below1 _ _⟩
theorem geom_meet (w : World) (a0 a1 a2 a3 b0 b1 b2 b3 : Int) : Calls Tryz.prog 75 #[rc a0 a1 a2 a3, rc b0 b1 b2 b3] w fun e w' => e = .returned (meetR ⟨a0, a1, a2, a3⟩ ⟨b0, b1, b2, b3⟩).v ∧ Below w.heap.size w w' := by
  go_enter Tryz.func75, Tryz.ntmps75
  go_wp2_with fail
  go_at_call 74
  refine (geom_empty _ _ _ _ _).mono ?_
  rintro x w1 ⟨rfl, hb⟩
  obtain ⟨m0, m1, m2, m3, hm⟩ : ∃ m0 m1 m2 m3 : Int, max a0 b0 = m0 ∧ max a1 b1 = m1 ∧ min a2 b2 = m2 ∧ min a3 b3 = m3 := ⟨_, _, _, _, rfl, rfl, rfl, rfl⟩
  simp only [hm] at hb ⊢
  have h2 := var4 (var_on (g := w.heap.size + 1 + 1) hb (by simp only [heap_alloc]; simp; exact ⟨⟨rfl, rfl, rfl, rfl⟩, rfl⟩) (by simp))
  have h3 := var4 (var_on (g := w.heap.size + 1 + 1 + 1) hb (by simp only [heap_alloc]; simp; exact ⟨⟨rfl, rfl, rfl, rfl⟩, rfl⟩) (by simp))
  have hB : Below w.heap.size w w1 := ((((below1 _ _).alloc (by simp) _).alloc (by simp; omega) _).alloc (by simp; omega) _).trans (Go.Joins.below_le hb (by simp; omega))
  have hR : meetR ⟨a0, a1, a2, a3⟩ ⟨b0, b1, b2, b3⟩ = if emptyB ⟨m0, m1, m2, m3⟩ then ⟨0, 0, 0, 0⟩ else ⟨m0, m1, m2, m3⟩ := by simp [meetR, hm]
  clear hb
  cases hE : emptyB ⟨m0, m1, m2, m3⟩
  · go_wp2
    exact bodyPost_ret (v := rc m0 m1 m2 m3) (by simp [results, Tryz.results75, go_sem, h2]) rfl ⟨by rw [hR, hE]; rfl, below_set4 hB (by omega) _ _ _ _⟩
  · go_wp2
    exact bodyPost_ret (v := rc 0 0 0 0) (by simp [results, Tryz.results75, go_sem, h2]) rfl ⟨by rw [hR, hE]; rfl, below_set4 hB (by omega) _ _ _ _⟩
theorem ref_in (w : World) (x0 y0 x1 y1 x y : Int) : Calls Tryz.prog 27 #[rc x0 y0 x1 y1, pt x y] w fun e w' => e = .returned (.bool (inB ⟨x0, y0, x1, y1⟩ x y)) ∧ Below w.heap.size w w' := by
  go_enter Tryz.func27, Tryz.ntmps27
  go_wp2 <;> (go_ret; exact ⟨by simp_all [inB] <;> omega, (below1 _ _).alloc (by simp) _⟩)
abbrev ro (x0 y0 x1 y1 : Int) : Obj := .cells #[.int .i64 x0, .int .i64 y0, .int .i64 x1, .int .i64 y1] 25 (0, 0)
theorem equal_rc (W : World) (a0 a1 a2 a3 b0 b1 b2 b3 : Int) : (Op.equalIn 10000 25 (rc a0 a1 a2 a3) (rc b0 b1 b2 b3)).run Tryz.prog W = .ok (eqB ⟨a0, a1, a2, a3⟩ ⟨b0, b1, b2, b3⟩) W := by
  unfold eqB
  by_cases h0 : a0 = b0 <;> by_cases h1 : a1 = b1 <;> by_cases h2 : a2 = b2 <;> by_cases h3 : a3 = b3 <;> simp [go_sem, h0, h1, h2, h3]
theorem geom_on (w : World) (x y : Int) : Calls Tryz.prog 90 #[pt x y] w fun e w' => e = .returned (.bool (onB x y)) ∧ Below w.heap.size w w' := by
  go_enter Tryz.func90, Tryz.ntmps90
  go_wp2_with fail
  have hB := below1 w (Obj.cells #[.int .i64 x, .int .i64 y] 32)
  have hg := grown2 (W := w.alloc (Obj.cells #[.int .i64 x, .int .i64 y] 32)) (g := w.heap.size) (heap_alloc_new _ _)
  obtain ⟨W, hW⟩ : ∃ W, w.alloc (Obj.cells #[.int .i64 x, .int .i64 y] 32) = W := ⟨_, rfl⟩
  rw [hW] at hB hg ⊢
  refine wp_region_quiet_below (by kernel_rfl) (by kernel_rfl) ?_
  repeat (first | go_big_quiet_step (first | exact Calls.regrown_of (geom_whole _) | exact Calls.regrown_of (geom_in _ _ _ _ _ _ _)) | quiet_step (first | exact Calls.regrown_of (geom_whole _) | exact Calls.regrown_of (geom_in _ _ _ _ _ _ _)))
  refine wpQuiet_nil ?_
  intro _ hw'
  obtain ⟨⟨dq, osq⟩, hw''⟩ := hw'
  subst hw''
  go_wp2
  go_ret
  exact ⟨rfl, hB.trans ((below_regrown W dq osq).mono hB.size)⟩
theorem ref_on (w : World) (x y : Int) : Calls Tryz.prog 55 #[pt x y] w fun e w' => e = .returned (.bool (onB x y)) ∧ Below w.heap.size w w' := by
  go_enter Tryz.func55, Tryz.ntmps55
  go_wp2 <;> (go_ret; exact ⟨by simp_all [onB, inB] <;> omega, below1 _ _⟩)
theorem geom_meet_at {a0 a1 a2 a3 b0 b1 b2 b3 m0 m1 m2 m3 : Int} (hm : Hid (meetR ⟨a0, a1, a2, a3⟩ ⟨b0, b1, b2, b3⟩ = ⟨m0, m1, m2, m3⟩)) (w : World) : Calls Tryz.prog 75 #[rc a0 a1 a2 a3, rc b0 b1 b2 b3] w fun e w' => e = .returned (rc m0 m1 m2 m3) ∧ Below w.heap.size w w' := by
  have h := geom_meet w a0 a1 a2 a3 b0 b1 b2 b3
  rw [hm.out] at h
  exact h
end Go.Proofs.YtfoncphdbaaedaaGreatDoor
