/- Contracts of the package geom's functions and of the reference's: each returns what the plain functions say, and nothing that was there before is changed. -/
import Derived.Test.YtihmpdjlfpbieaaDoorGeomP
namespace Go.Proofs.YtihmpdjlfpbieaaDoor
open Go.RowKit
theorem geom_empty (w : World) (x0 y0 x1 y1 : Int) : Calls Tryd.prog 51 #[rc x0 y0 x1 y1] w fun e w' => e = .returned (.bool (emptyB ⟨x0, y0, x1, y1⟩)) ∧ Below w.heap.size w w' := by
  go_enter Tryd.func51, Tryd.ntmps51
  go_wp2 <;> (go_ret; exact ⟨by simp_all [emptyB], below1 _ _⟩)
theorem geom_in (w : World) (x0 y0 x1 y1 x y : Int) : Calls Tryd.prog 36 #[rc x0 y0 x1 y1, pt x y] w fun e w' => e = .returned (.bool (inB ⟨x0, y0, x1, y1⟩ x y)) ∧ Below w.heap.size w w' := by
  go_enter Tryd.func36, Tryd.ntmps36
  go_wp2 <;> (go_ret; exact ⟨by simp_all [inB] <;> omega, (below1 _ _).alloc (by simp) _⟩)
theorem geom_whole (w : World) : Calls Tryd.prog 43 #[] w fun e w' => e = .returned (rc 0 0 64 64) ∧ Below w.heap.size w w' := by
  go_enter Tryd.func43, Tryd.ntmps43
  go_wp2
  exact bodyPost_ret (v := rc 0 0 64 64) (by simp [results, Tryd.results43, go_sem]) rfl ⟨rfl, below1 _ _⟩
theorem geom_meet (w : World) (a0 a1 a2 a3 b0 b1 b2 b3 : Int) : Calls Tryd.prog 52 #[rc a0 a1 a2 a3, rc b0 b1 b2 b3] w fun e w' => e = .returned (meetR ⟨a0, a1, a2, a3⟩ ⟨b0, b1, b2, b3⟩).v ∧ Below w.heap.size w w' := by
  go_enter Tryd.func52, Tryd.ntmps52
  go_wp2_with fail
  go_at_call 51
  refine (geom_empty _ _ _ _ _).mono ?_
  rintro x w1 ⟨rfl, hb⟩
  obtain ⟨m0, m1, m2, m3, hm⟩ : ∃ m0 m1 m2 m3 : Int, max a0 b0 = m0 ∧ max a1 b1 = m1 ∧ min a2 b2 = m2 ∧ min a3 b3 = m3 := ⟨_, _, _, _, rfl, rfl, rfl, rfl⟩
  simp only [hm] at hb ⊢
  have h2 := var4 (var_on (g := w.heap.size + 1 + 1) hb (by simp only [heap_alloc]; simp; exact ⟨⟨rfl, rfl, rfl, rfl⟩, rfl⟩) (by simp))
  have h3 := var4 (var_on (g := w.heap.size + 1 + 1 + 1) hb (by simp only [heap_alloc]; simp; exact ⟨⟨rfl, rfl, rfl, rfl⟩, rfl⟩) (by simp))
  have hB : Below w.heap.size w w1 := ((((below1 _ _).alloc (by simp) _).alloc (by simp; omega) _).alloc (by simp; omega) _).trans (Go.Joins.below_le hb (by simp; omega))
  have hR : meetR ⟨a0, a1, a2, a3⟩ ⟨b0, b1, b2, b3⟩ = if emptyB ⟨m0, m1, m2, m3⟩ then ⟨0, 0, 0, 0⟩ else ⟨m0, m1, m2, m3⟩ := by simp [meetR, hm]
  clear hb
  cases hE : emptyB ⟨m0, m1, m2, m3⟩
  · go_wp2
    exact bodyPost_ret (v := rc m0 m1 m2 m3) (by simp [results, Tryd.results52, go_sem, h2]) rfl ⟨by rw [hR, hE]; rfl, below_set4 hB (by omega) _ _ _ _⟩
  · go_wp2
    exact bodyPost_ret (v := rc 0 0 0 0) (by simp [results, Tryd.results52, go_sem, h2]) rfl ⟨by rw [hR, hE]; rfl, below_set4 hB (by omega) _ _ _ _⟩
theorem ref_empty (w : World) (x0 y0 x1 y1 : Int) : Calls Tryd.prog 42 #[rc x0 y0 x1 y1] w fun e w' => e = .returned (.bool (emptyB ⟨x0, y0, x1, y1⟩)) ∧ Below w.heap.size w w' := by
  go_enter Tryd.func42, Tryd.ntmps42
  go_wp2 <;> (go_ret; exact ⟨by simp_all [emptyB], below1 _ _⟩)
theorem ref_in (w : World) (x0 y0 x1 y1 x y : Int) : Calls Tryd.prog 38 #[rc x0 y0 x1 y1, pt x y] w fun e w' => e = .returned (.bool (inB ⟨x0, y0, x1, y1⟩ x y)) ∧ Below w.heap.size w w' := by
  go_enter Tryd.func38, Tryd.ntmps38
  go_wp2 <;> (go_ret; exact ⟨by simp_all [inB] <;> omega, (below1 _ _).alloc (by simp) _⟩)
theorem ref_whole (w : World) : Calls Tryd.prog 41 #[] w fun e w' => e = .returned (rc 0 0 64 64) ∧ Below w.heap.size w w' := by
  go_enter Tryd.func41, Tryd.ntmps41
  go_wp2
  exact bodyPost_ret (v := rc 0 0 64 64) (by simp [results, Tryd.results41, go_sem]) rfl ⟨rfl, below1 _ _⟩
theorem ref_meet (w : World) (a0 a1 a2 a3 b0 b1 b2 b3 : Int) : Calls Tryd.prog 25 #[rc a0 a1 a2 a3, rc b0 b1 b2 b3] w fun e w' => e = .returned (meetR ⟨a0, a1, a2, a3⟩ ⟨b0, b1, b2, b3⟩).v ∧ Below w.heap.size w w' := by
  go_enter Tryd.func25, Tryd.ntmps25
  go_wp2_with fail
  go_at_call 42
  refine (ref_empty _ _ _ _ _).mono ?_
  rintro x w1 ⟨rfl, hb⟩
  obtain ⟨m0, m1, m2, m3, hm⟩ : ∃ m0 m1 m2 m3 : Int, max a0 b0 = m0 ∧ max a1 b1 = m1 ∧ min a2 b2 = m2 ∧ min a3 b3 = m3 := ⟨_, _, _, _, rfl, rfl, rfl, rfl⟩
  simp only [hm] at hb ⊢
  have h2 := var4 (var_on (g := w.heap.size + 1 + 1) hb (by simp only [heap_alloc]; simp; exact ⟨⟨rfl, rfl, rfl, rfl⟩, rfl⟩) (by simp))
  have h3 := var4 (var_on (g := w.heap.size + 1 + 1 + 1) hb (by simp only [heap_alloc]; simp; exact ⟨⟨rfl, rfl, rfl, rfl⟩, rfl⟩) (by simp))
  have hB : Below w.heap.size w w1 := ((((below1 _ _).alloc (by simp) _).alloc (by simp; omega) _).alloc (by simp; omega) _).trans (Go.Joins.below_le hb (by simp; omega))
  have hR : meetR ⟨a0, a1, a2, a3⟩ ⟨b0, b1, b2, b3⟩ = if emptyB ⟨m0, m1, m2, m3⟩ then ⟨0, 0, 0, 0⟩ else ⟨m0, m1, m2, m3⟩ := by simp [meetR, hm]
  clear hb
  cases hE : emptyB ⟨m0, m1, m2, m3⟩
  · go_wp2
    exact bodyPost_ret (v := rc m0 m1 m2 m3) (by simp [results, Tryd.results25, go_sem, h2]) rfl ⟨by rw [hR, hE]; rfl, below_set4 hB (by omega) _ _ _ _⟩
  · go_wp2
    exact bodyPost_ret (v := rc 0 0 0 0) (by simp [results, Tryd.results25, go_sem, h2]) rfl ⟨by rw [hR, hE]; rfl, below_set4 hB (by omega) _ _ _ _⟩
abbrev ro (x0 y0 x1 y1 : Int) : Obj := .cells #[.int .i64 x0, .int .i64 y0, .int .i64 x1, .int .i64 y1] 33 (0, 0)
theorem equal_rc (W : World) (a0 a1 a2 a3 b0 b1 b2 b3 : Int) : (Op.equalIn 10000 33 (rc a0 a1 a2 a3) (rc b0 b1 b2 b3)).run Tryd.prog W = .ok (eqB ⟨a0, a1, a2, a3⟩ ⟨b0, b1, b2, b3⟩) W := by
  unfold eqB
  by_cases h0 : a0 = b0 <;> by_cases h1 : a1 = b1 <;> by_cases h2 : a2 = b2 <;> by_cases h3 : a3 = b3 <;> simp [go_sem, h0, h1, h2, h3]
theorem geom_on (w : World) (x y : Int) : Calls Tryd.prog 28 #[pt x y] w fun e w' => e = .returned (.bool (onB x y)) ∧ Below w.heap.size w w' := by
  go_enter Tryd.func28, Tryd.ntmps28
  go_wp2_with fail
  have hB := below1 w (Obj.cells #[.int .i64 x, .int .i64 y] 31)
  have hg := grown2 (W := w.alloc (Obj.cells #[.int .i64 x, .int .i64 y] 31)) (g := w.heap.size) (heap_alloc_new _ _)
  obtain ⟨W, hW⟩ : ∃ W, w.alloc (Obj.cells #[.int .i64 x, .int .i64 y] 31) = W := ⟨_, rfl⟩
  rw [hW] at hB hg ⊢
  refine wp_region_quiet_below (by kernel_rfl) (by kernel_rfl) ?_
  repeat (first | go_big_quiet_step (first | exact Calls.regrown_of (geom_whole _) | exact Calls.regrown_of (geom_in _ _ _ _ _ _ _)) | quiet_step (first | exact Calls.regrown_of (geom_whole _) | exact Calls.regrown_of (geom_in _ _ _ _ _ _ _)))
  refine wpQuiet_nil ?_
  intro _ hw'
  obtain ⟨⟨dq, osq⟩, hw''⟩ := hw'
  subst hw''
  go_wp2
  go_ret
  exact ⟨rfl, hB.trans ((below_regrown W dq osq).mono hB.size)⟩
theorem ref_on (w : World) (x y : Int) : Calls Tryd.prog 24 #[pt x y] w fun e w' => e = .returned (.bool (onB x y)) ∧ Below w.heap.size w w' := by
  go_enter Tryd.func24, Tryd.ntmps24
  go_wp2 <;> (go_ret; exact ⟨by simp_all [onB, inB] <;> omega, below1 _ _⟩)
theorem geom_meet_at {a0 a1 a2 a3 b0 b1 b2 b3 m0 m1 m2 m3 : Int} (hm : Hid (meetR ⟨a0, a1, a2, a3⟩ ⟨b0, b1, b2, b3⟩ = ⟨m0, m1, m2, m3⟩)) (w : World) : Calls Tryd.prog 52 #[rc a0 a1 a2 a3, rc b0 b1 b2 b3] w fun e w' => e = .returned (rc m0 m1 m2 m3) ∧ Below w.heap.size w w' := by
  have h := geom_meet w a0 a1 a2 a3 b0 b1 b2 b3
  rw [hm.out] at h
  exact h
theorem ref_meet_at {a0 a1 a2 a3 b0 b1 b2 b3 m0 m1 m2 m3 : Int} (hm : Hid (meetR ⟨a0, a1, a2, a3⟩ ⟨b0, b1, b2, b3⟩ = ⟨m0, m1, m2, m3⟩)) (w : World) : Calls Tryd.prog 25 #[rc a0 a1 a2 a3, rc b0 b1 b2 b3] w fun e w' => e = .returned (rc m0 m1 m2 m3) ∧ Below w.heap.size w w' := by
  have h := ref_meet w a0 a1 a2 a3 b0 b1 b2 b3
  rw [hm.out] at h
  exact h
end Go.Proofs.YtihmpdjlfpbieaaDoor
