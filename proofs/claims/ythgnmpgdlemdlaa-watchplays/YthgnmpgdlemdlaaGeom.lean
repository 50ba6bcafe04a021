/- Contracts of the package geom's functions and of the reference's: each returns what the plain functions say, and nothing that was there before is changed. -/
import Derived.Test.YthgnmpgdlemdlaaGeomP
namespace Go.Proofs.Ythgnmpgdlemdlaa
open Go.RowKit
theorem geom_empty (w : World) (x0 y0 x1 y1 : Int) : Calls Try.prog 34 #[rc x0 y0 x1 y1] w fun e w' => e = .returned (.bool (emptyB ⟨x0, y0, x1, y1⟩)) ∧ Below w.heap.size w w' := by
  go_enter Try.func34, Try.ntmps34
  go_wp2 <;> (go_ret; exact ⟨by simp_all [emptyB], below1 _ _⟩)
theorem geom_in (w : World) (x0 y0 x1 y1 x y : Int) : Calls Try.prog 23 #[rc x0 y0 x1 y1, pt x y] w fun e w' => e = .returned (.bool (inB ⟨x0, y0, x1, y1⟩ x y)) ∧ Below w.heap.size w w' := by
  go_enter Try.func23, Try.ntmps23
  go_wp2 <;> (go_ret; exact ⟨by simp_all [inB] <;> omega, (below1 _ _).alloc (by simp) _⟩)
theorem geom_meet (w : World) (a0 a1 a2 a3 b0 b1 b2 b3 : Int) : Calls Try.prog 25 #[rc a0 a1 a2 a3, rc b0 b1 b2 b3] w fun e w' => e = .returned (meetR ⟨a0, a1, a2, a3⟩ ⟨b0, b1, b2, b3⟩).v ∧ Below w.heap.size w w' := by
  go_enter Try.func25, Try.ntmps25
  go_wp2_with fail
  go_at_call 34
  refine (geom_empty _ _ _ _ _).mono ?_
  rintro x w1 ⟨rfl, hb⟩
  obtain ⟨m0, m1, m2, m3, hm⟩ : ∃ m0 m1 m2 m3 : Int, max a0 b0 = m0 ∧ max a1 b1 = m1 ∧ min a2 b2 = m2 ∧ min a3 b3 = m3 := ⟨_, _, _, _, rfl, rfl, rfl, rfl⟩
  simp only [hm] at hb ⊢
  have h2 := var4 (var_on (g := w.heap.size + 1 + 1) hb (by simp only [heap_alloc]; simp; exact ⟨⟨rfl, rfl, rfl, rfl⟩, rfl⟩) (by simp))
  have h3 := var4 (var_on (g := w.heap.size + 1 + 1 + 1) hb (by simp only [heap_alloc]; simp; exact ⟨⟨rfl, rfl, rfl, rfl⟩, rfl⟩) (by simp))
  have hB : Below w.heap.size w w1 := ((((below1 _ _).alloc (by simp) _).alloc (by simp; omega) _).alloc (by simp; omega) _).trans (Go.Joins.below_le hb (by simp; omega))
  have hR : meetR ⟨a0, a1, a2, a3⟩ ⟨b0, b1, b2, b3⟩ = if emptyB ⟨m0, m1, m2, m3⟩ then ⟨0, 0, 0, 0⟩ else ⟨m0, m1, m2, m3⟩ := by simp [meetR, hm]
  clear hb
  cases hE : emptyB ⟨m0, m1, m2, m3⟩
  · go_wp2
    exact bodyPost_ret (v := rc m0 m1 m2 m3) (by simp [results, Try.results25, go_sem, h2]) rfl ⟨by rw [hR, hE]; rfl, below_set4 hB (by omega) _ _ _ _⟩
  · go_wp2
    exact bodyPost_ret (v := rc 0 0 0 0) (by simp [results, Try.results25, go_sem, h2]) rfl ⟨by rw [hR, hE]; rfl, below_set4 hB (by omega) _ _ _ _⟩
theorem ref_empty (w : World) (x0 y0 x1 y1 : Int) : Calls Try.prog 35 #[rc x0 y0 x1 y1] w fun e w' => e = .returned (.bool (emptyB ⟨x0, y0, x1, y1⟩)) ∧ Below w.heap.size w w' := by
  go_enter Try.func35, Try.ntmps35
  go_wp2 <;> (go_ret; exact ⟨by simp_all [emptyB], below1 _ _⟩)
theorem ref_in (w : World) (x0 y0 x1 y1 x y : Int) : Calls Try.prog 24 #[rc x0 y0 x1 y1, pt x y] w fun e w' => e = .returned (.bool (inB ⟨x0, y0, x1, y1⟩ x y)) ∧ Below w.heap.size w w' := by
  go_enter Try.func24, Try.ntmps24
  go_wp2 <;> (go_ret; exact ⟨by simp_all [inB] <;> omega, (below1 _ _).alloc (by simp) _⟩)
theorem ref_whole (w : World) : Calls Try.prog 27 #[] w fun e w' => e = .returned (rc 0 0 64 64) ∧ Below w.heap.size w w' := by
  go_enter Try.func27, Try.ntmps27
  go_wp2
  exact bodyPost_ret (v := rc 0 0 64 64) (by simp [results, Try.results27, go_sem]) rfl ⟨rfl, below1 _ _⟩
theorem ref_meet (w : World) (a0 a1 a2 a3 b0 b1 b2 b3 : Int) : Calls Try.prog 26 #[rc a0 a1 a2 a3, rc b0 b1 b2 b3] w fun e w' => e = .returned (meetR ⟨a0, a1, a2, a3⟩ ⟨b0, b1, b2, b3⟩).v ∧ Below w.heap.size w w' := by
  go_enter Try.func26, Try.ntmps26
  go_wp2_with fail
  go_at_call 35
  refine (ref_empty _ _ _ _ _).mono ?_
  rintro x w1 ⟨rfl, hb⟩
  obtain ⟨m0, m1, m2, m3, hm⟩ : ∃ m0 m1 m2 m3 : Int, max a0 b0 = m0 ∧ max a1 b1 = m1 ∧ min a2 b2 = m2 ∧ min a3 b3 = m3 := ⟨_, _, _, _, rfl, rfl, rfl, rfl⟩
  simp only [hm] at hb ⊢
  have h2 := var4 (var_on (g := w.heap.size + 1 + 1) hb (by simp only [heap_alloc]; simp; exact ⟨⟨rfl, rfl, rfl, rfl⟩, rfl⟩) (by simp))
  have h3 := var4 (var_on (g := w.heap.size + 1 + 1 + 1) hb (by simp only [heap_alloc]; simp; exact ⟨⟨rfl, rfl, rfl, rfl⟩, rfl⟩) (by simp))
  have hB : Below w.heap.size w w1 := ((((below1 _ _).alloc (by simp) _).alloc (by simp; omega) _).alloc (by simp; omega) _).trans (Go.Joins.below_le hb (by simp; omega))
  have hR : meetR ⟨a0, a1, a2, a3⟩ ⟨b0, b1, b2, b3⟩ = if emptyB ⟨m0, m1, m2, m3⟩ then ⟨0, 0, 0, 0⟩ else ⟨m0, m1, m2, m3⟩ := by simp [meetR, hm]
  clear hb
  cases hE : emptyB ⟨m0, m1, m2, m3⟩
  · go_wp2
    exact bodyPost_ret (v := rc m0 m1 m2 m3) (by simp [results, Try.results26, go_sem, h2]) rfl ⟨by rw [hR, hE]; rfl, below_set4 hB (by omega) _ _ _ _⟩
  · go_wp2
    exact bodyPost_ret (v := rc 0 0 0 0) (by simp [results, Try.results26, go_sem, h2]) rfl ⟨by rw [hR, hE]; rfl, below_set4 hB (by omega) _ _ _ _⟩
abbrev ro (x0 y0 x1 y1 : Int) : Obj := .cells #[.int .i64 x0, .int .i64 y0, .int .i64 x1, .int .i64 y1] 26 (0, 0)
theorem equal_rc (W : World) (a0 a1 a2 a3 b0 b1 b2 b3 : Int) : (Op.equalIn 10000 26 (rc a0 a1 a2 a3) (rc b0 b1 b2 b3)).run Try.prog W = .ok (eqB ⟨a0, a1, a2, a3⟩ ⟨b0, b1, b2, b3⟩) W := by
  unfold eqB
  by_cases h0 : a0 = b0 <;> by_cases h1 : a1 = b1 <;> by_cases h2 : a2 = b2 <;> by_cases h3 : a3 = b3 <;> simp [go_sem, h0, h1, h2, h3]
theorem geom_meet_at {a0 a1 a2 a3 b0 b1 b2 b3 m0 m1 m2 m3 : Int} (hm : Hid (meetR ⟨a0, a1, a2, a3⟩ ⟨b0, b1, b2, b3⟩ = ⟨m0, m1, m2, m3⟩)) (w : World) : Calls Try.prog 25 #[rc a0 a1 a2 a3, rc b0 b1 b2 b3] w fun e w' => e = .returned (rc m0 m1 m2 m3) ∧ Below w.heap.size w w' := by
  have h := geom_meet w a0 a1 a2 a3 b0 b1 b2 b3
  rw [hm.out] at h
  exact h
theorem ref_meet_at {a0 a1 a2 a3 b0 b1 b2 b3 m0 m1 m2 m3 : Int} (hm : Hid (meetR ⟨a0, a1, a2, a3⟩ ⟨b0, b1, b2, b3⟩ = ⟨m0, m1, m2, m3⟩)) (w : World) : Calls Try.prog 26 #[rc a0 a1 a2 a3, rc b0 b1 b2 b3] w fun e w' => e = .returned (rc m0 m1 m2 m3) ∧ Below w.heap.size w w' := by
  have h := ref_meet w a0 a1 a2 a3 b0 b1 b2 b3
  rw [hm.out] at h
  exact h
end Go.Proofs.Ythgnmpgdlemdlaa
