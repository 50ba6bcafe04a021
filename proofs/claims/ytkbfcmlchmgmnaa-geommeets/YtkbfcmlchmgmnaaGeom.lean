/- Contracts of the package geom's functions and of the reference's: each returns what the plain functions say, and nothing that was there before is changed. -/
import Derived.Test.YtkbfcmlchmgmnaaGeomP
namespace Go.Proofs.Ytkbfcmlchmgmnaa
open Go.RowKit
theorem geom_empty (w : World) (x0 y0 x1 y1 : Int) : Calls Try.prog 16 #[rc x0 y0 x1 y1] w fun e w' => e = .returned (.bool (emptyB ⟨x0, y0, x1, y1⟩)) ∧ Below w.heap.size w w' := by
  go_enter Try.func16, Try.ntmps16
  go_wp2 <;> (go_ret; exact ⟨by simp_all [emptyB], below1 _ _⟩)
theorem geom_in (w : World) (x0 y0 x1 y1 x y : Int) : Calls Try.prog 18 #[rc x0 y0 x1 y1, pt x y] w fun e w' => e = .returned (.bool (inB ⟨x0, y0, x1, y1⟩ x y)) ∧ Below w.heap.size w w' := by
  go_enter Try.func18, Try.ntmps18
  go_wp2 <;> (go_ret; exact ⟨by simp_all [inB] <;> omega, (below1 _ _).alloc (by simp) _⟩)
theorem geom_is (w : World) (x0 y0 x1 y1 : Int) : Calls Try.prog 14 #[rc x0 y0 x1 y1] w fun e w' => e = .returned (.bool (isB ⟨x0, y0, x1, y1⟩)) ∧ Below w.heap.size w w' := by
  go_enter Try.func14, Try.ntmps14
  go_wp2 <;> (go_ret; exact ⟨by simp_all [isB] <;> omega, below1 _ _⟩)
theorem geom_whole (w : World) : Calls Try.prog 26 #[] w fun e w' => e = .returned (rc 0 0 64 64) ∧ Below w.heap.size w w' := by
  go_enter Try.func26, Try.ntmps26
  go_wp2
  exact bodyPost_ret (v := rc 0 0 64 64) (by simp [results, Try.results26, go_sem]) rfl ⟨rfl, below1 _ _⟩
theorem geom_meet (w : World) (a0 a1 a2 a3 b0 b1 b2 b3 : Int) : Calls Try.prog 20 #[rc a0 a1 a2 a3, rc b0 b1 b2 b3] w fun e w' => e = .returned (meetR ⟨a0, a1, a2, a3⟩ ⟨b0, b1, b2, b3⟩).v ∧ Below w.heap.size w w' := by
  go_enter Try.func20, Try.ntmps20
  go_wp2_with fail
  go_at_call 16
  refine (geom_empty _ _ _ _ _).mono ?_
  rintro x w1 ⟨rfl, hb⟩
  obtain ⟨m0, m1, m2, m3, hm⟩ : ∃ m0 m1 m2 m3 : Int, max a0 b0 = m0 ∧ max a1 b1 = m1 ∧ min a2 b2 = m2 ∧ min a3 b3 = m3 := ⟨_, _, _, _, rfl, rfl, rfl, rfl⟩
  simp only [hm] at hb ⊢
  have h2 := var4 (var_on (g := w.heap.size + 1 + 1) hb (by simp only [heap_alloc]; simp; exact ⟨⟨rfl, rfl, rfl, rfl⟩, rfl⟩) (by simp))
  have h3 := var4 (var_on (g := w.heap.size + 1 + 1 + 1) hb (by simp only [heap_alloc]; simp; exact ⟨⟨rfl, rfl, rfl, rfl⟩, rfl⟩) (by simp))
  have hB : Below w.heap.size w w1 := ((((below1 _ _).alloc (by simp) _).alloc (by simp; omega) _).alloc (by simp; omega) _).trans (Go.Joins.below_le hb (by simp; omega))
  have hR : meetR ⟨a0, a1, a2, a3⟩ ⟨b0, b1, b2, b3⟩ = if emptyB ⟨m0, m1, m2, m3⟩ then ⟨0, 0, 0, 0⟩ else ⟨m0, m1, m2, m3⟩ := by simp [meetR, hm]
  clear hb
  cases hE : emptyB ⟨m0, m1, m2, m3⟩
  · go_wp2
    exact bodyPost_ret (v := rc m0 m1 m2 m3) (by simp [results, Try.results20, go_sem, h2]) rfl ⟨by rw [hR, hE]; rfl, below_set4 hB (by omega) _ _ _ _⟩
  · go_wp2
    exact bodyPost_ret (v := rc 0 0 0 0) (by simp [results, Try.results20, go_sem, h2]) rfl ⟨by rw [hR, hE]; rfl, below_set4 hB (by omega) _ _ _ _⟩
theorem ref_empty (w : World) (x0 y0 x1 y1 : Int) : Calls Try.prog 17 #[rc x0 y0 x1 y1] w fun e w' => e = .returned (.bool (emptyB ⟨x0, y0, x1, y1⟩)) ∧ Below w.heap.size w w' := by
  go_enter Try.func17, Try.ntmps17
  go_wp2 <;> (go_ret; exact ⟨by simp_all [emptyB], below1 _ _⟩)
theorem ref_in (w : World) (x0 y0 x1 y1 x y : Int) : Calls Try.prog 19 #[rc x0 y0 x1 y1, pt x y] w fun e w' => e = .returned (.bool (inB ⟨x0, y0, x1, y1⟩ x y)) ∧ Below w.heap.size w w' := by
  go_enter Try.func19, Try.ntmps19
  go_wp2 <;> (go_ret; exact ⟨by simp_all [inB] <;> omega, (below1 _ _).alloc (by simp) _⟩)
theorem ref_is (w : World) (x0 y0 x1 y1 : Int) : Calls Try.prog 15 #[rc x0 y0 x1 y1] w fun e w' => e = .returned (.bool (isB ⟨x0, y0, x1, y1⟩)) ∧ Below w.heap.size w w' := by
  go_enter Try.func15, Try.ntmps15
  go_wp2 <;> (go_ret; exact ⟨by simp_all [isB] <;> omega, below1 _ _⟩)
theorem ref_whole (w : World) : Calls Try.prog 27 #[] w fun e w' => e = .returned (rc 0 0 64 64) ∧ Below w.heap.size w w' := by
  go_enter Try.func27, Try.ntmps27
  go_wp2
  exact bodyPost_ret (v := rc 0 0 64 64) (by simp [results, Try.results27, go_sem]) rfl ⟨rfl, below1 _ _⟩
theorem ref_meet (w : World) (a0 a1 a2 a3 b0 b1 b2 b3 : Int) : Calls Try.prog 21 #[rc a0 a1 a2 a3, rc b0 b1 b2 b3] w fun e w' => e = .returned (meetR ⟨a0, a1, a2, a3⟩ ⟨b0, b1, b2, b3⟩).v ∧ Below w.heap.size w w' := by
  go_enter Try.func21, Try.ntmps21
  go_wp2_with fail
  go_at_call 17
  refine (ref_empty _ _ _ _ _).mono ?_
  rintro x w1 ⟨rfl, hb⟩
  obtain ⟨m0, m1, m2, m3, hm⟩ : ∃ m0 m1 m2 m3 : Int, max a0 b0 = m0 ∧ max a1 b1 = m1 ∧ min a2 b2 = m2 ∧ min a3 b3 = m3 := ⟨_, _, _, _, rfl, rfl, rfl, rfl⟩
  simp only [hm] at hb ⊢
  have h2 := var4 (var_on (g := w.heap.size + 1 + 1) hb (by simp only [heap_alloc]; simp; exact ⟨⟨rfl, rfl, rfl, rfl⟩, rfl⟩) (by simp))
  have h3 := var4 (var_on (g := w.heap.size + 1 + 1 + 1) hb (by simp only [heap_alloc]; simp; exact ⟨⟨rfl, rfl, rfl, rfl⟩, rfl⟩) (by simp))
  have hB : Below w.heap.size w w1 := ((((below1 _ _).alloc (by simp) _).alloc (by simp; omega) _).alloc (by simp; omega) _).trans (Go.Joins.below_le hb (by simp; omega))
  have hR : meetR ⟨a0, a1, a2, a3⟩ ⟨b0, b1, b2, b3⟩ = if emptyB ⟨m0, m1, m2, m3⟩ then ⟨0, 0, 0, 0⟩ else ⟨m0, m1, m2, m3⟩ := by simp [meetR, hm]
  clear hb
  cases hE : emptyB ⟨m0, m1, m2, m3⟩
  · go_wp2
    exact bodyPost_ret (v := rc m0 m1 m2 m3) (by simp [results, Try.results21, go_sem, h2]) rfl ⟨by rw [hR, hE]; rfl, below_set4 hB (by omega) _ _ _ _⟩
  · go_wp2
    exact bodyPost_ret (v := rc 0 0 0 0) (by simp [results, Try.results21, go_sem, h2]) rfl ⟨by rw [hR, hE]; rfl, below_set4 hB (by omega) _ _ _ _⟩
abbrev ro (x0 y0 x1 y1 : Int) : Obj := .cells #[.int .i64 x0, .int .i64 y0, .int .i64 x1, .int .i64 y1] 23 (0, 0)
theorem equal_rc (W : World) (a0 a1 a2 a3 b0 b1 b2 b3 : Int) : (Op.equalIn 10000 23 (rc a0 a1 a2 a3) (rc b0 b1 b2 b3)).run Try.prog W = .ok (eqB ⟨a0, a1, a2, a3⟩ ⟨b0, b1, b2, b3⟩) W := by
  unfold eqB
  by_cases h0 : a0 = b0 <;> by_cases h1 : a1 = b1 <;> by_cases h2 : a2 = b2 <;> by_cases h3 : a3 = b3 <;> simp [go_sem, h0, h1, h2, h3]
theorem geom_on (w : World) (x y : Int) : Calls Try.prog 12 #[pt x y] w fun e w' => e = .returned (.bool (onB x y)) ∧ Below w.heap.size w w' := by
  go_enter Try.func12, Try.ntmps12
  go_wp2_with fail
  have hB := below1 w (Obj.cells #[.int .i64 x, .int .i64 y] 25)
  have hg := grown2 (W := w.alloc (Obj.cells #[.int .i64 x, .int .i64 y] 25)) (g := w.heap.size) (heap_alloc_new _ _)
  obtain ⟨W, hW⟩ : ∃ W, w.alloc (Obj.cells #[.int .i64 x, .int .i64 y] 25) = W := ⟨_, rfl⟩
  rw [hW] at hB hg ⊢
  refine wp_region_quiet_below (by kernel_rfl) (by kernel_rfl) ?_
  repeat (first | go_big_quiet_step (first | exact Calls.regrown_of (geom_whole _) | exact Calls.regrown_of (geom_in _ _ _ _ _ _ _)) | quiet_step (first | exact Calls.regrown_of (geom_whole _) | exact Calls.regrown_of (geom_in _ _ _ _ _ _ _)))
  refine wpQuiet_nil ?_
  intro _ hw'
  obtain ⟨⟨dq, osq⟩, hw''⟩ := hw'
  subst hw''
  go_wp2
  go_ret
  exact ⟨rfl, hB.trans ((below_regrown W dq osq).mono hB.size)⟩
theorem ref_on (w : World) (x y : Int) : Calls Try.prog 13 #[pt x y] w fun e w' => e = .returned (.bool (onB x y)) ∧ Below w.heap.size w w' := by
  go_enter Try.func13, Try.ntmps13
  go_wp2 <;> (go_ret; exact ⟨by simp_all [onB, inB] <;> omega, below1 _ _⟩)
theorem geom_same (w : World) (a0 a1 a2 a3 b0 b1 b2 b3 : Int) : Calls Try.prog 24 #[rc a0 a1 a2 a3, rc b0 b1 b2 b3] w fun e w' => e = .returned (.bool (sameB ⟨a0, a1, a2, a3⟩ ⟨b0, b1, b2, b3⟩)) ∧ Below w.heap.size w w' := by
  obtain ⟨q, hq⟩ : ∃ q, eqB ⟨a0, a1, a2, a3⟩ ⟨b0, b1, b2, b3⟩ = q := ⟨_, rfl⟩
  have hQ : ∀ W : World, (Op.equalIn 10000 23 (rc a0 a1 a2 a3) (rc b0 b1 b2 b3)).run Try.prog W = .ok q W := fun W => by rw [← hq]; exact equal_rc W _ _ _ _ _ _ _ _
  unfold rc at hQ
  go_enter Try.func24, Try.ntmps24
  cases q
  · go_wp2_with fail
    go_at_call 16
    refine (geom_empty _ _ _ _ _).mono ?_
    rintro x w1 ⟨rfl, hb⟩
    have h1 := var4 (var_on (g := w.heap.size + 1) hb (by simp only [heap_alloc]; simp; exact ⟨⟨rfl, rfl, rfl, rfl⟩, rfl⟩) (by simp))
    have hB : Below w.heap.size w w1 := ((below1 _ _).alloc (by simp) _).trans (hb.mono (by simp; omega))
    clear hb
    cases hE : emptyB ⟨a0, a1, a2, a3⟩
    · go_wp2
      go_ret
      exact ⟨by simp [sameB, hq, hE], hB⟩
    · go_wp2_with fail
      go_at_call 16
      refine (geom_empty _ _ _ _ _).mono ?_
      rintro x w2 ⟨rfl, hb⟩
      go_wp2
      go_ret
      exact ⟨by simp [sameB, hq, hE], hB.trans (hb.mono hB.size)⟩
  · go_wp2
    go_ret
    exact ⟨by simp [sameB, hq], (below1 _ _).alloc (by simp) _⟩
theorem ref_same (w : World) (a0 a1 a2 a3 b0 b1 b2 b3 : Int) : Calls Try.prog 25 #[rc a0 a1 a2 a3, rc b0 b1 b2 b3] w fun e w' => e = .returned (.bool (sameB ⟨a0, a1, a2, a3⟩ ⟨b0, b1, b2, b3⟩)) ∧ Below w.heap.size w w' := by
  obtain ⟨q, hq⟩ : ∃ q, eqB ⟨a0, a1, a2, a3⟩ ⟨b0, b1, b2, b3⟩ = q := ⟨_, rfl⟩
  have hQ : ∀ W : World, (Op.equalIn 10000 23 (rc a0 a1 a2 a3) (rc b0 b1 b2 b3)).run Try.prog W = .ok q W := fun W => by rw [← hq]; exact equal_rc W _ _ _ _ _ _ _ _
  unfold rc at hQ
  go_enter Try.func25, Try.ntmps25
  go_wp2_with fail
  go_at_call 17
  refine (ref_empty _ _ _ _ _).mono ?_
  rintro x w1 ⟨rfl, hb⟩
  have k0 : Hid (w1.heap[w.heap.size]? = some (ro a0 a1 a2 a3)) := var_on hb (by simp only [heap_alloc]; simp) (by simp; omega)
  have k1 : Hid (w1.heap[w.heap.size + 1]? = some (ro b0 b1 b2 b3)) := var_on hb (by simp only [heap_alloc]; simp) (by simp)
  have h0 := var4 k0.out
  have h1 := var4 k1.out
  have hB : Below w.heap.size w w1 := ((below1 _ _).alloc (by simp) _).trans (hb.mono (by simp; omega))
  have hl : w.heap.size + 1 < w1.heap.size := by have := hb.size; simp at this; omega
  clear hb
  cases hE : emptyB ⟨a0, a1, a2, a3⟩
  · cases q
    · go_wp2
      go_ret
      exact ⟨by simp [sameB, hq, hE], hB⟩
    · go_wp2_with fail
      go_at_call 17
      refine (ref_empty _ _ _ _ _).mono ?_
      rintro x w2 ⟨rfl, hb⟩
      go_wp2
      go_ret
      exact ⟨by simp [sameB, hq, hE], hB.trans (hb.mono hB.size)⟩
  · go_wp2_with fail
    go_at_call 17
    refine (ref_empty _ _ _ _ _).mono ?_
    rintro x w2 ⟨rfl, hb⟩
    have h2 := var4 (var_on hb k0.out (by omega))
    have h3 := var4 (var_on hb k1.out (by omega))
    have hB2 := hB.trans (hb.mono hB.size)
    clear h0 h1 k0 k1 hb
    cases hF : emptyB ⟨b0, b1, b2, b3⟩
    · cases q
      · go_wp2
        go_ret
        exact ⟨by simp [sameB, hq, hF], hB2⟩
      · go_wp2_with fail
        go_at_call 17
        refine (ref_empty _ _ _ _ _).mono ?_
        rintro x w3 ⟨rfl, hb⟩
        go_wp2
        go_ret
        exfalso
        have e : (⟨a0, a1, a2, a3⟩ : Rc) = ⟨b0, b1, b2, b3⟩ := by simpa [eqB] using hq
        rw [e, hF] at hE
        cases hE
    · go_wp2
      go_ret
      exact ⟨by simp [sameB, hE, hF], hB2⟩
theorem geom_meet_at {a0 a1 a2 a3 b0 b1 b2 b3 m0 m1 m2 m3 : Int} (hm : Hid (meetR ⟨a0, a1, a2, a3⟩ ⟨b0, b1, b2, b3⟩ = ⟨m0, m1, m2, m3⟩)) (w : World) : Calls Try.prog 20 #[rc a0 a1 a2 a3, rc b0 b1 b2 b3] w fun e w' => e = .returned (rc m0 m1 m2 m3) ∧ Below w.heap.size w w' := by
  have h := geom_meet w a0 a1 a2 a3 b0 b1 b2 b3
  rw [hm.out] at h
  exact h
set_option maxHeartbeats 2000000 in
theorem geom_area (w : World) (x0 y0 x1 y1 : Int) : Calls Try.prog 22 #[rc x0 y0 x1 y1] w fun e w' => e = .returned (.int .i64 (areaI ⟨x0, y0, x1, y1⟩)) ∧ Below w.heap.size w w' := by
  obtain ⟨m0, m1, m2, m3, hm⟩ : ∃ m0 m1 m2 m3 : Int, Hid (meetR ⟨x0, y0, x1, y1⟩ ⟨0, 0, 64, 64⟩ = ⟨m0, m1, m2, m3⟩) := ⟨_, _, _, _, rfl⟩
  go_enter Try.func22, Try.ntmps22
  go_wp2_with fail
  go_region_with (first
    | (go_at_call 26; refine (geom_whole _).mono ?_; rintro x w1 ⟨rfl, hb1⟩
       have c1 := fun a h => hb1.cell (p := a) h
       have z1 := fun a h => hb1.frozen (p := a) h
       have s1 : w.heap.size < w1.heap.size := by have := hb1.size; simp at this; omega
       have s2 := hb1.size
       have hB1 : Below w.heap.size w w1 := below_on (by first | exact (below1 _ _).drew | exact ((below1 _ _).alloc (by simp) _).drew) hb1
       simp at c1 z1 s2
       have s3 := Nat.lt_of_succ_le s2)
    | (go_at_call 20; refine (geom_meet_at hm _).mono ?_; rintro x w2 ⟨rfl, hb2⟩
       have c2 := fun a h => hb2.cell (p := a) h
       have z2 := fun a h => hb2.frozen (p := a) h
       have hB2 : Below w.heap.size w w2 := below_on (by first | exact hB1 | exact hB1.alloc hB1.size _) hb2
       try simp at c2 z2))
  all_goals go_wp2
  all_goals go_ret
  all_goals exact ⟨congrArg (fun x => Ending.returned (.int .i64 x)) (area_fits _ hm), by first | exact hB2.alloc hB2.size _ | exact below_set4 hB2 (by omega) _ _ _ _⟩
theorem ref_meet_at {a0 a1 a2 a3 b0 b1 b2 b3 m0 m1 m2 m3 : Int} (hm : Hid (meetR ⟨a0, a1, a2, a3⟩ ⟨b0, b1, b2, b3⟩ = ⟨m0, m1, m2, m3⟩)) (w : World) : Calls Try.prog 21 #[rc a0 a1 a2 a3, rc b0 b1 b2 b3] w fun e w' => e = .returned (rc m0 m1 m2 m3) ∧ Below w.heap.size w w' := by
  have h := ref_meet w a0 a1 a2 a3 b0 b1 b2 b3
  rw [hm.out] at h
  exact h
set_option maxHeartbeats 2000000 in
theorem ref_area (w : World) (x0 y0 x1 y1 : Int) : Calls Try.prog 23 #[rc x0 y0 x1 y1] w fun e w' => e = .returned (.int .i64 (areaI ⟨x0, y0, x1, y1⟩)) ∧ Below w.heap.size w w' := by
  obtain ⟨m0, m1, m2, m3, hm⟩ : ∃ m0 m1 m2 m3 : Int, Hid (meetR ⟨x0, y0, x1, y1⟩ ⟨0, 0, 64, 64⟩ = ⟨m0, m1, m2, m3⟩) := ⟨_, _, _, _, rfl⟩
  go_enter Try.func23, Try.ntmps23
  go_wp2_with fail
  go_region_with (first
    | (go_at_call 27; refine (ref_whole _).mono ?_; rintro x w1 ⟨rfl, hb1⟩
       have c1 := fun a h => hb1.cell (p := a) h
       have z1 := fun a h => hb1.frozen (p := a) h
       have s1 : w.heap.size < w1.heap.size := by have := hb1.size; simp at this; omega
       have s2 := hb1.size
       have hB1 : Below w.heap.size w w1 := below_on (by first | exact (below1 _ _).drew | exact ((below1 _ _).alloc (by simp) _).drew) hb1
       simp at c1 z1 s2
       have s3 := Nat.lt_of_succ_le s2)
    | (go_at_call 21; refine (ref_meet_at hm _).mono ?_; rintro x w2 ⟨rfl, hb2⟩
       have c2 := fun a h => hb2.cell (p := a) h
       have z2 := fun a h => hb2.frozen (p := a) h
       have hB2 : Below w.heap.size w w2 := below_on (by first | exact hB1 | exact hB1.alloc hB1.size _) hb2
       try simp at c2 z2))
  all_goals go_wp2
  all_goals go_ret
  all_goals exact ⟨congrArg (fun x => Ending.returned (.int .i64 x)) (area_fits _ hm), by first | exact hB2.alloc hB2.size _ | exact below_set4 hB2 (by omega) _ _ _ _⟩
end Go.Proofs.Ytkbfcmlchmgmnaa
