/- Contract of Do of the reference's book: it says what the package watch says. -/
import Derived.Test.YthgnmpgdlemdlaaWaD
namespace Go.Proofs.Ythgnmpgdlemdlaa
open Go.RowKit
set_option linter.unusedVariables false
theorem wt_put {W : World} {g : Nat} {a : Bool} {b c d e f i : Int} (h : W.heap[g]? = some (wtO a b c d e f i)) (a' : Bool) (b' c' d' e' f' i' : Int) : (((((((W.setCell ⟨g, 0, none⟩ (.bool a')).setCell ⟨g, 1, none⟩ (.int .i64 b')).setCell ⟨g, 2, none⟩ (.int .i64 c')).setCell ⟨g, 3, none⟩ (.int .i64 d')).setCell ⟨g, 4, none⟩ (.int .i64 e')).setCell ⟨g, 5, none⟩ (.int .i64 f')).setCell ⟨g, 6, none⟩ (.int .i64 i')).heap[g]? = some (wtO a' b' c' d' e' f' i') :=
  set_at (set_at (set_at (set_at (set_at (set_at (set_at h _ rfl) _ rfl) _ rfl) _ rfl) _ rfl) _ rfl) _ (by simp)
theorem wt_put4 {W : World} {g : Nat} {a : Bool} {b c d e f i : Int} (h : W.heap[g]? = some (wtO a b c d e f i)) (d' e' f' i' : Int) : ((((W.setCell ⟨g, 3, none⟩ (.int .i64 d')).setCell ⟨g, 4, none⟩ (.int .i64 e')).setCell ⟨g, 5, none⟩ (.int .i64 f')).setCell ⟨g, 6, none⟩ (.int .i64 i')).heap[g]? = some (wtO a b c d' e' f' i') :=
  set_at (set_at (set_at (set_at h _ rfl) _ rfl) _ rfl) _ rfl
theorem wt_put5 {W : World} {g : Nat} {a : Bool} {b c d e f i : Int} (h : W.heap[g]? = some (wtO a b c d e f i)) (a' : Bool) (d' e' f' i' : Int) : (((((W.setCell ⟨g, 0, none⟩ (.bool a')).setCell ⟨g, 3, none⟩ (.int .i64 d')).setCell ⟨g, 4, none⟩ (.int .i64 e')).setCell ⟨g, 5, none⟩ (.int .i64 f')).setCell ⟨g, 6, none⟩ (.int .i64 i')).heap[g]? = some (wtO a' b c d' e' f' i') :=
  set_at (set_at (set_at (set_at (set_at h _ rfl) _ rfl) _ rfl) _ rfl) _ rfl
theorem wt_cells {W : World} {g : Nat} {p : Wt} (h : W.heap[g]? = some p.o) : cells7 W g 0 p := by
  have c := (cells_at h).1
  exact ⟨c 0, c 1, c 2, c 3, c 4, c 5, c 6⟩
theorem cells7_but {g b p : Nat} {w w' : World} {o : Wt} (h : But g w w') (hv : cells7 w b p o) (hn : b ≠ g) : cells7 w' b p o := by
  obtain ⟨c0, c1, c2, c3, c4, c5, c6⟩ := hv
  exact ⟨cell_but h c0 hn, cell_but h c1 hn, cell_but h c2 hn, cell_but h c3 hn, cell_but h c4 hn, cell_but h c5 hn, cell_but h c6 hn⟩
theorem below_al {w : World} (o : Obj) : Below w.heap.size w (w.alloc o).drew := (below1 _ _).drew
set_option maxHeartbeats 4000000 in
theorem ref_do {w : World} {g : Nat} {t : TypeId} {L : List Wt} (h : WB w g t L) {c : Cm} (hs : sizedC c) (beat : Int) :
    Calls Try.prog 11 #[.pointer (some ⟨g, 0, none⟩), c.v, .int .i64 beat] w (DoPost w g t L c beat) := by
  obtain ⟨W, hW⟩ : ∃ W, W = w.alloc c.o := ⟨_, rfl⟩
  have hB : Below w.heap.size w W := by rw [hW]; exact below1 _ _
  have K1 := hid (show W.heap[w.heap.size]? = some c.o by rw [hW]; exact new_at _ _ _ rfl)
  have H0 := hid h
  have hgl := h.lt
  obtain ⟨Q, hQ⟩ : ∃ Q, DoPost w g t L c beat = Q := ⟨_, rfl⟩
  rw [hQ]
  have HQ := hid hQ
  obtain ⟨q1, hq1⟩ : ∃ q, Hid (isCm c = q) := ⟨_, rfl⟩
  obtain ⟨q2, hq2⟩ : ∃ q, Hid (watchB c.kd = q) := ⟨_, rfl⟩
  have C1 := refcm_is W c hs
  rw [isX_isC, hq1.out] at C1
  have HS := hid hs
  clear h hQ hs
  go_enter Try.func11, Try.ntmps11
  go_upto_region 1 with fail
  rw [← hW]
  clear hW
  obtain ⟨gc, hgc⟩ : ∃ gc, Hid (w.heap.size = gc) := ⟨_, rfl⟩
  have K1 := hid (show W.heap[gc]? = some c.o by rw [← hgc.out]; exact K1.out)
  try rw [hgc.out]
  go_wp2_with (with_reducible refine wpList_load_cm rfl (.tmp 4) rfl rfl K1.out ?_)
  refine C1.mono ?_
  rintro x w2 ⟨rfl, hb2⟩
  have K2 := hid (var_on hb2 K1.out (lt_of_at K1.out))
  have hB2 := below_on hB hb2
  clear C1 K1 hB hb2
  cases q1
  · have HE := hid (DoPost.bad (b := beat) (wdoE_form (L := L) (c := c) (by unfold formB; rw [hq1.out]; rfl)) (by decide) (H0.out.on hB2 hgl) (But.of_below hB2))
    go_wp2_with fail
    rw [← HQ.out]
    exact HE.out
  have C2 := ref_watches w2 c
  rw [hq2.out] at C2
  go_wp2_with (with_reducible refine wpList_load_cmG rfl (.tmp 4) rfl rfl K2.out ?_)
  refine C2.mono ?_
  rintro x w3 ⟨rfl, hb3⟩
  have K3 := hid (var_on hb3 K2.out (lt_of_at K2.out))
  have hB3 := below_on hB2 hb3
  clear C2 K2 hB2 hb3
  cases q2
  · have HE := hid (DoPost.bad (b := beat) (wdoE_form (L := L) (c := c) (by unfold formB; rw [hq2.out]; simp)) (by decide) (H0.out.on hB3 hgl) (But.of_below hB3))
    go_wp2_with fail
    rw [← HQ.out]
    exact HE.out
  have hF := hid (show formB c = true by unfold formB; rw [hq1.out, hq2.out]; rfl)
  obtain ⟨k, hk, hk4⟩ := cl_nat (form_cl hF.out)
  obtain ⟨o, ho⟩ := H0.out.get hk4
  have n16 : w3.cell? ⟨gc, 16, none⟩ = some (.int .i64 (k : Int)) := by rw [← hk]; exact cell_i K3.out (k := 16) (by simp [plI])
  obtain ⟨s0, s1, s2, s3, s4, s5, s6⟩ := (H0.out.on hB3 hgl).cell ho
  have HK := hid hk
  have HO := hid ho
  have hk4' : (k : Int) < 4 := by omega
  clear hk ho hq1 hq2
  go_wp2_with fail
  refine wp_region_held_drew (S := fun w' => w'.cell? ⟨gc, 16, none⟩ = some (.int .i64 (k : Int)) ∧ cells7 w' g (k * 7) o) (by kernel_rfl) ⟨n16, s0, s1, s2, s3, s4, s5, s6⟩ (fun hHeld => ?_)
  refine take_yes (i := 0) (v := ?v0a) rfl (by kernel_rfl) (by kernel_rfl) (by kernel_rfl) (fun _ _ _ h => h) (by rfl) ?hy0a hHeld ?rest0a
  case hy0a =>
    intro w' hSw
    obtain ⟨r16, r0, r1, r2, r3, r4, r5, r6⟩ := hSw
    go_simp <;> with_reducible rfl
  try simp only [Act.put, List.setIfInBounds_toArray, List.set_cons_zero, List.set_cons_succ]
  refine take_yes (i := 1) (v := ?v1a) rfl (by kernel_rfl) (by kernel_rfl) (by kernel_rfl) (fun _ _ _ h => h) (by rfl) ?hy1a hHeld ?rest1a
  case hy1a =>
    intro w' hSw
    obtain ⟨r16, r0, r1, r2, r3, r4, r5, r6⟩ := hSw
    go_simp <;> with_reducible rfl
  try simp only [Act.put, List.setIfInBounds_toArray, List.set_cons_zero, List.set_cons_succ]
  refine take_yes (i := 2) (v := ?v2a) rfl (by kernel_rfl) (by kernel_rfl) (by kernel_rfl) (fun _ _ _ h => h) (by rfl) ?hy2a hHeld ?rest2a
  case hy2a =>
    intro w' hSw
    obtain ⟨r16, r0, r1, r2, r3, r4, r5, r6⟩ := hSw
    go_simp <;> with_reducible rfl
  try simp only [Act.put, List.setIfInBounds_toArray, List.set_cons_zero, List.set_cons_succ]
  refine take_yes (i := 3) (v := ?v3a) rfl (by kernel_rfl) (by kernel_rfl) (by kernel_rfl) (fun _ _ _ h => h) (by rfl) ?hy3a hHeld ?rest3a
  case hy3a =>
    intro w' hSw
    obtain ⟨r16, r0, r1, r2, r3, r4, r5, r6⟩ := hSw
    go_simp <;> with_reducible rfl
  try simp only [Act.put, List.setIfInBounds_toArray, List.set_cons_zero, List.set_cons_succ]
  refine take_yes (i := 4) (v := ?v4a) rfl (by kernel_rfl) (by kernel_rfl) (by kernel_rfl) (fun _ _ _ h => h) (by rfl) ?hy4a hHeld ?rest4a
  case hy4a =>
    intro w' hSw
    obtain ⟨r16, r0, r1, r2, r3, r4, r5, r6⟩ := hSw
    go_simp <;> with_reducible rfl
  try simp only [Act.put, List.setIfInBounds_toArray, List.set_cons_zero, List.set_cons_succ]
  refine take_yes (i := 5) (v := ?v5a) rfl (by kernel_rfl) (by kernel_rfl) (by kernel_rfl) (fun _ _ _ h => h) (by rfl) ?hy5a hHeld ?rest5a
  case hy5a =>
    intro w' hSw
    obtain ⟨r16, r0, r1, r2, r3, r4, r5, r6⟩ := hSw
    go_simp <;> with_reducible rfl
  try simp only [Act.put, List.setIfInBounds_toArray, List.set_cons_zero, List.set_cons_succ]
  refine take_yes (i := 6) (v := ?v6a) rfl (by kernel_rfl) (by kernel_rfl) (by kernel_rfl) (fun _ _ _ h => h) (by rfl) ?hy6a hHeld ?rest6a
  case hy6a =>
    intro w' hSw
    obtain ⟨r16, r0, r1, r2, r3, r4, r5, r6⟩ := hSw
    go_simp <;> with_reducible rfl
  try simp only [Act.put, List.setIfInBounds_toArray, List.set_cons_zero, List.set_cons_succ]
  refine wpAnyH_ready (rs := [7]) (by kernel_rfl) (by simp) (cons_at (i := 7) rfl (fun K7a hK7a => ?_) AllReadyH.nil)
  go_simp
  refine hK7a.out _ _ ⟨cell_below (below_al _) n16, cells7_below ⟨s0, s1, s2, s3, s4, s5, s6⟩ (below_al _)⟩ (fun hHeld => ?_)
  clear hK7a K7a
  try simp only [Act.put, List.setIfInBounds_toArray, List.set_cons_zero, List.set_cons_succ]
  refine wpAnyH_ready (rs := [8]) (by kernel_rfl) (by simp) (cons_at (i := 8) rfl (fun K8a hK8a => ?_) AllReadyH.nil)
  go_simp
  refine hK8a.out _ _ ⟨cell_below (below_al _) n16, cells7_below ⟨s0, s1, s2, s3, s4, s5, s6⟩ (below_al _)⟩ (fun hHeld => ?_)
  clear hK8a K8a
  try simp only [Act.put, List.setIfInBounds_toArray, List.set_cons_zero, List.set_cons_succ]
  refine wpAnyH_done (by kernel_rfl) ?_ _
  obtain ⟨w4, hw4⟩ : ∃ w4, (w3.alloc (wtO o.on o.s o.st o.r.x0 o.r.y0 o.r.x1 o.r.y1)).drew = w4 := ⟨_, rfl⟩
  have hb4 : Below w3.heap.size w3 w4 := by rw [← hw4]; exact (below1 _ _).drew
  have KL := hid (show w4.heap[w3.heap.size]? = some o.o by rw [← hw4]; exact new_at _ _ _ rfl)
  have hlb := hB3.size
  obtain ⟨lb, hl⟩ : ∃ lb, w3.heap.size = lb := ⟨_, rfl⟩
  have hlc : gc < lb := by rw [← hl]; exact lt_of_at K3.out
  have K4 := hid (var_on hb4 K3.out (lt_of_at K3.out))
  have hB4 := below_on hB3 hb4
  go_upto_region 5 with fail
  try rw [hw4]
  rw [hl] at KL hlb ⊢
  clear hw4 hb4 hl K3 hB3 n16 s0 s1 s2 s3 s4 s5 s6 hHeld
  have H4 := hid (H0.out.on hB4 hgl)
  obtain ⟨qm, hqm⟩ : ∃ q, Hid (mayB o c = q) := ⟨_, rfl⟩
  have n0 : w4.cell? ⟨gc, 0, none⟩ = some (.int .i64 c.kd) := cell_i K4.out (k := 0) (by simp [plI])
  have n17 : w4.cell? ⟨gc, 17, none⟩ = some (.int .i64 c.se) := cell_i K4.out (k := 17) (by simp [plI])
  have n18 : w4.cell? ⟨gc, 18, none⟩ = some (.int .i64 c.r0) := cell_i K4.out (k := 18) (by simp [plI])
  have n19 : w4.cell? ⟨gc, 19, none⟩ = some (.int .i64 c.r1) := cell_i K4.out (k := 19) (by simp [plI])
  have n20 : w4.cell? ⟨gc, 20, none⟩ = some (.int .i64 c.r2) := cell_i K4.out (k := 20) (by simp [plI])
  have n21 : w4.cell? ⟨gc, 21, none⟩ = some (.int .i64 c.r3) := cell_i K4.out (k := 21) (by simp [plI])
  obtain ⟨s0, s1, s2, s3, s4, s5, s6⟩ := wt_cells KL.out
  obtain ⟨m0, m1, m2, m3, hm⟩ : ∃ m0 m1 m2 m3 : Int, Hid (meetR ⟨c.r0, c.r1, c.r2, c.r3⟩ ⟨0, 0, 64, 64⟩ = ⟨m0, m1, m2, m3⟩) := ⟨_, _, _, _, rfl⟩
  have CC := fun W => ref_clip_at hm W
  have hlg : lb ≠ g := by omega
  have hlc' : gc ≠ lb := by omega
  have hBad : Hid (mayB o c = false → DoPost w g t L c beat (.returned (.int .i64 20)) w4) := fun hq => DoPost.bad (b := beat) (wdoE_may hF.out (by rw [HK.out, atW_nat HO.out]; exact hq)) (by decide) H4.out (But.of_below hB4)
  have hZ : Hid (mayB o c = true → wdoE L c = 0) := fun hq => wdoE_ok hF.out (by rw [HK.out, atW_nat HO.out]; exact hq)
  clear hqm
  by_cases h6 : c.kd = 6
  · rw [h6] at n0
    by_cases hse : o.s < c.se
    · have hM := hid (show mayB o c = true by unfold mayB; rw [if_pos h6]; simpa using hse)
      have HZ := hid (hZ.out hM.out)
      have HN := hid (show nextW o c beat = ⟨true, c.se, beat, ⟨m0, m1, m2, m3⟩⟩ by rw [next_join h6]; exact congrArg (fun r => (⟨true, c.se, beat, r⟩ : Wt)) hm.out)
      have d1 : decide (c.se ≤ o.s) = false := by simpa using hse
      clear hse hBad hZ h6
      go_wp2_with fail
      refine wp_region_held_drew (S := fun w' => w'.cell? ⟨gc, 17, none⟩ = some (.int .i64 c.se) ∧ w'.cell? ⟨gc, 18, none⟩ = some (.int .i64 c.r0) ∧ w'.cell? ⟨gc, 19, none⟩ = some (.int .i64 c.r1) ∧ w'.cell? ⟨gc, 20, none⟩ = some (.int .i64 c.r2) ∧ w'.cell? ⟨gc, 21, none⟩ = some (.int .i64 c.r3)) (by kernel_rfl) ⟨n17, n18, n19, n20, n21⟩ (fun hHeld => ?_)
      refine take_yes (i := 0) (v := ?v0e) rfl (by kernel_rfl) (by kernel_rfl) (by kernel_rfl) (fun _ _ _ h => h) (by rfl) ?hy0e hHeld ?rest0e
      case hy0e =>
        intro w' hSw
        obtain ⟨r17, r18, r19, r20, r21⟩ := hSw
        go_simp <;> with_reducible rfl
      try simp only [Act.put, List.setIfInBounds_toArray, List.set_cons_zero, List.set_cons_succ]
      refine take_yes (i := 1) (v := ?v1e) rfl (by kernel_rfl) (by kernel_rfl) (by kernel_rfl) (fun _ _ _ h => h) (by rfl) ?hy1e hHeld ?rest1e
      case hy1e =>
        intro w' hSw
        obtain ⟨r17, r18, r19, r20, r21⟩ := hSw
        go_simp <;> with_reducible rfl
      try simp only [Act.put, List.setIfInBounds_toArray, List.set_cons_zero, List.set_cons_succ]
      refine take_yes (i := 2) (v := ?v2e) rfl (by kernel_rfl) (by kernel_rfl) (by kernel_rfl) (fun _ _ _ h => h) (by rfl) ?hy2e hHeld ?rest2e
      case hy2e =>
        intro w' hSw
        obtain ⟨r17, r18, r19, r20, r21⟩ := hSw
        go_simp <;> with_reducible rfl
      try simp only [Act.put, List.setIfInBounds_toArray, List.set_cons_zero, List.set_cons_succ]
      refine take_yes (i := 3) (v := ?v3e) rfl (by kernel_rfl) (by kernel_rfl) (by kernel_rfl) (fun _ _ _ h => h) (by rfl) ?hy3e hHeld ?rest3e
      case hy3e =>
        intro w' hSw
        obtain ⟨r17, r18, r19, r20, r21⟩ := hSw
        go_simp <;> with_reducible rfl
      try simp only [Act.put, List.setIfInBounds_toArray, List.set_cons_zero, List.set_cons_succ]
      refine take_yes (i := 4) (v := ?v4e) rfl (by kernel_rfl) (by kernel_rfl) (by kernel_rfl) (fun _ _ _ h => h) (by rfl) ?hy4e hHeld ?rest4e
      case hy4e =>
        intro w' hSw
        obtain ⟨r17, r18, r19, r20, r21⟩ := hSw
        go_simp <;> with_reducible rfl
      try simp only [Act.put, List.setIfInBounds_toArray, List.set_cons_zero, List.set_cons_succ]
      refine wpAnyH_ready (rs := [5]) (by kernel_rfl) (by simp) (cons_at (i := 5) rfl (fun K5e hK5e => ?_) AllReadyH.nil)
      go_simp
      go_at_call 17
      with_reducible refine (CC _).mono ?_
      rintro z W6 ⟨rfl, hb6'⟩
      have hb6 : Below w4.heap.size w4 W6 := below_on (Below.refl _ _).drew hb6'
      have KL6 := hid (var_on hb6 KL.out (lt_of_at KL.out))
      have K6 := hid (var_on hb6 K4.out (lt_of_at K4.out))
      have f6 := (cells_at KL6.out).2
      have t6 := (cells_at KL6.out).1
      have hB6 := below_on hB4 hb6
      have N6 := (show W6.cell? ⟨gc, 17, none⟩ = some (.int .i64 c.se) ∧ W6.cell? ⟨gc, 18, none⟩ = some (.int .i64 c.r0) ∧ W6.cell? ⟨gc, 19, none⟩ = some (.int .i64 c.r1) ∧ W6.cell? ⟨gc, 20, none⟩ = some (.int .i64 c.r2) ∧ W6.cell? ⟨gc, 21, none⟩ = some (.int .i64 c.r3) from ⟨cell_below hb6 n17, cell_below hb6 n18, cell_below hb6 n19, cell_below hb6 n20, cell_below hb6 n21⟩)
      clear hb6' hb6 hHeld n0 n17 n18 n19 n20 n21 s0 s1 s2 s3 s4 s5 s6 KL K4 H4 hB4 CC d1
      go_wp2_with fail
      refine hK5e.out _ _ N6 (fun hHeld => ?_)
      clear hK5e K5e
      try simp only [Act.put, List.setIfInBounds_toArray, List.set_cons_zero, List.set_cons_succ]
      refine take_yes (i := 6) (v := ?v6e) rfl (by kernel_rfl) (by kernel_rfl) (by kernel_rfl) (fun _ _ _ h => h) (by rfl) ?hy6e hHeld ?rest6e
      case hy6e =>
        intro w' hSw
        obtain ⟨r17, r18, r19, r20, r21⟩ := hSw
        go_simp <;> with_reducible rfl
      try simp only [Act.put, List.setIfInBounds_toArray, List.set_cons_zero, List.set_cons_succ]
      refine wpAnyH_ready (rs := [7]) (by kernel_rfl) (by simp) (cons_at (i := 7) rfl (fun K7e hK7e => ?_) AllReadyH.nil)
      go_simp
      refine hK7e.out _ _ (by obtain ⟨r17, r18, r19, r20, r21⟩ := N6; exact ⟨cell_but (But.set7 (But.refl lb W6) _ _ _ _ _ _ _) r17 hlc', cell_but (But.set7 (But.refl lb W6) _ _ _ _ _ _ _) r18 hlc', cell_but (But.set7 (But.refl lb W6) _ _ _ _ _ _ _) r19 hlc', cell_but (But.set7 (But.refl lb W6) _ _ _ _ _ _ _) r20 hlc', cell_but (But.set7 (But.refl lb W6) _ _ _ _ _ _ _) r21 hlc'⟩) (fun hHeld => ?_)
      clear hK7e K7e
      try simp only [Act.put, List.setIfInBounds_toArray, List.set_cons_zero, List.set_cons_succ]
      refine wpAnyH_done (by kernel_rfl) ?_ _
      obtain ⟨W7, hW7⟩ : ∃ W7, ((((((W6.setCell ⟨lb, 0, none⟩ (.bool true)).setCell ⟨lb, 1, none⟩ (.int .i64 c.se)).setCell ⟨lb, 2, none⟩ (.int .i64 beat)).setCell ⟨lb, 3, none⟩ (.int .i64 m0)).setCell ⟨lb, 4, none⟩ (.int .i64 m1)).setCell ⟨lb, 5, none⟩ (.int .i64 m2)).setCell ⟨lb, 6, none⟩ (.int .i64 m3) = W7 := ⟨_, rfl⟩
      have KN := hid (show W7.heap[lb]? = some (wtO true c.se beat m0 m1 m2 m3) by rw [← hW7]; exact wt_put KL6.out _ _ _ _ _ _ _)
      have K7 := hid (show W7.heap[gc]? = some c.o by rw [← hW7]; exact (But.set7 (But.refl lb W6) _ _ _ _ _ _ _).at K6.out hlc')
      have hB7 : Below w.heap.size w W7 := by rw [← hW7]; exact below_set7 hB6 hlb _ _ _ _ _ _ _
      go_wp2_with fail
      rw [hW7]
      clear hW7 hB6 K6 KL6 hHeld
      have hcg : gc ≠ g := by rw [← hgc.out]; omega
      have H7 := hid (H0.out.on hB7 hgl)
      obtain ⟨t0, t1, t2, t3, t4, t5, t6⟩ := H7.out.cell HO.out
      have f7 := H7.out.free
      have n16 : W7.cell? ⟨gc, 16, none⟩ = some (.int .i64 (k : Int)) := by rw [← HK.out]; exact cell_i K7.out (k := 16) (by simp [plI])
      have u7 : cells7 W7 lb 0 ⟨true, c.se, beat, ⟨m0, m1, m2, m3⟩⟩ := wt_cells KN.out
      go_wp2_with fail
      refine wp_region_held_drew (S := fun w' => w'.cell? ⟨gc, 16, none⟩ = some (.int .i64 (k : Int)) ∧ cells7 w' lb 0 ⟨true, c.se, beat, ⟨m0, m1, m2, m3⟩⟩) (by kernel_rfl) ⟨n16, u7⟩ (fun hHeld => ?_)
      refine take_yes (i := 0) (v := ?v0b) rfl (by kernel_rfl) (by kernel_rfl) (by kernel_rfl) (fun _ _ _ h => h) (by rfl) ?hy0b hHeld ?rest0b
      case hy0b =>
        intro w' hSw
        obtain ⟨r16, r0, r1, r2, r3, r4, r5, r6⟩ := hSw
        go_simp <;> with_reducible rfl
      try simp only [Act.put, List.setIfInBounds_toArray, List.set_cons_zero, List.set_cons_succ]
      refine take_yes (i := 1) (v := ?v1b) rfl (by kernel_rfl) (by kernel_rfl) (by kernel_rfl) (fun _ _ _ h => h) (by rfl) ?hy1b hHeld ?rest1b
      case hy1b =>
        intro w' hSw
        obtain ⟨r16, r0, r1, r2, r3, r4, r5, r6⟩ := hSw
        go_simp <;> with_reducible rfl
      try simp only [Act.put, List.setIfInBounds_toArray, List.set_cons_zero, List.set_cons_succ]
      refine take_yes (i := 2) (v := ?v2b) rfl (by kernel_rfl) (by kernel_rfl) (by kernel_rfl) (fun _ _ _ h => h) (by rfl) ?hy2b hHeld ?rest2b
      case hy2b =>
        intro w' hSw
        obtain ⟨r16, r0, r1, r2, r3, r4, r5, r6⟩ := hSw
        go_simp <;> with_reducible rfl
      try simp only [Act.put, List.setIfInBounds_toArray, List.set_cons_zero, List.set_cons_succ]
      refine take_yes (i := 3) (v := ?v3b) rfl (by kernel_rfl) (by kernel_rfl) (by kernel_rfl) (fun _ _ _ h => h) (by rfl) ?hy3b hHeld ?rest3b
      case hy3b =>
        intro w' hSw
        obtain ⟨r16, r0, r1, r2, r3, r4, r5, r6⟩ := hSw
        go_simp <;> with_reducible rfl
      try simp only [Act.put, List.setIfInBounds_toArray, List.set_cons_zero, List.set_cons_succ]
      refine take_yes (i := 4) (v := ?v4b) rfl (by kernel_rfl) (by kernel_rfl) (by kernel_rfl) (fun _ _ _ h => h) (by rfl) ?hy4b hHeld ?rest4b
      case hy4b =>
        intro w' hSw
        obtain ⟨r16, r0, r1, r2, r3, r4, r5, r6⟩ := hSw
        go_simp <;> with_reducible rfl
      try simp only [Act.put, List.setIfInBounds_toArray, List.set_cons_zero, List.set_cons_succ]
      refine take_yes (i := 5) (v := ?v5b) rfl (by kernel_rfl) (by kernel_rfl) (by kernel_rfl) (fun _ _ _ h => h) (by rfl) ?hy5b hHeld ?rest5b
      case hy5b =>
        intro w' hSw
        obtain ⟨r16, r0, r1, r2, r3, r4, r5, r6⟩ := hSw
        go_simp <;> with_reducible rfl
      try simp only [Act.put, List.setIfInBounds_toArray, List.set_cons_zero, List.set_cons_succ]
      refine take_yes (i := 6) (v := ?v6b) rfl (by kernel_rfl) (by kernel_rfl) (by kernel_rfl) (fun _ _ _ h => h) (by rfl) ?hy6b hHeld ?rest6b
      case hy6b =>
        intro w' hSw
        obtain ⟨r16, r0, r1, r2, r3, r4, r5, r6⟩ := hSw
        go_simp <;> with_reducible rfl
      try simp only [Act.put, List.setIfInBounds_toArray, List.set_cons_zero, List.set_cons_succ]
      refine wpAnyH_ready (rs := [7]) (by kernel_rfl) (by simp) (cons_at (i := 7) rfl (fun K7b hK7b => ?_) AllReadyH.nil)
      go_simp
      refine hK7b.out _ _ (by first | with_reducible exact ⟨cell_but (But.set7 (But.refl g W7) _ _ _ _ _ _ _).drew n16 hcg, cells7_but (But.set7 (But.refl g W7) _ _ _ _ _ _ _).drew u7 hlg⟩ | with_reducible exact ⟨cell_but (But.set7 (But.refl g W7).drew _ _ _ _ _ _ _) n16 hcg, cells7_but (But.set7 (But.refl g W7).drew _ _ _ _ _ _ _) u7 hlg⟩) (fun hHeld => ?_)
      clear hK7b K7b
      try simp only [Act.put, List.setIfInBounds_toArray, List.set_cons_zero, List.set_cons_succ]
      refine wpAnyH_done (by kernel_rfl) ?_ _
      go_wp2_with fail
      rw [← HQ.out]
      exact DoPost.ok HZ.out HK.out HO.out (by rw [HN.out]; first | exact (H7.out.set7 ⟨true, c.se, beat, ⟨m0, m1, m2, m3⟩⟩ hk4).drew | exact H7.out.drew.set7 ⟨true, c.se, beat, ⟨m0, m1, m2, m3⟩⟩ hk4) (by first | exact (But.set7 (But.of_below hB7) _ _ _ _ _ _ _).drew | exact But.set7 (But.of_below hB7).drew _ _ _ _ _ _ _)
    · have hM := hid (show mayB o c = false by unfold mayB; rw [if_pos h6]; simpa using hse)
      have HE := hid (hBad.out hM.out)
      have d1 : decide (c.se ≤ o.s) = true := by simpa using hse
      clear hse hBad hZ h6
      go_wp2_with fail
      rw [← HQ.out]
      exact HE.out
  have e6 : (c.kd == 6) = false := by simpa using h6
  have e6' : (c.kd != 6) = true := by simpa using h6
  cases hon : o.on
  · have HE := hid (hBad.out (by unfold mayB; rw [if_neg h6, hon]; rfl))
    rw [hon] at s0
    clear hBad hZ h6
    go_wp2_with fail
    rw [← HQ.out]
    exact HE.out
  rw [hon] at s0
  by_cases hse : o.s = c.se
  rotate_left
  · have HE := hid (hBad.out (by unfold mayB; rw [if_neg h6, hon]; simpa using hse))
    have d1 : (c.se != o.s) = true := by simpa using fun h : c.se = o.s => hse h.symm
    clear hBad hZ h6 hse
    go_wp2_with fail
    rw [← HQ.out]
    exact HE.out
  have HZ := hid (hZ.out (by unfold mayB; rw [if_neg h6, hon]; simpa using hse))
  have d1 : (c.se != o.s) = false := by simpa using hse.symm
  have hk78 : c.kd = 7 ∨ c.kd = 8 := by rcases form_kd hF.out with h | h | h <;> omega
  clear hBad hZ h6 hse
  rcases hk78 with h7 | h8
  · have e7 : (c.kd == 7) = true := by simpa using h7
    have HN := hid (show nextW o c beat = ⟨true, o.s, o.st, ⟨m0, m1, m2, m3⟩⟩ by rw [next_turn h7, hon]; exact congrArg (fun r => (⟨true, o.s, o.st, r⟩ : Wt)) hm.out)
    have hon' := hid hon
    clear h7 hon
    go_wp2_with fail
    refine (CC _).mono ?_
    rintro z W6 ⟨rfl, hb6⟩
    have KL6 := hid (show W6.heap[lb]? = some (wtO true o.s o.st o.r.x0 o.r.y0 o.r.x1 o.r.y1) by have := var_on hb6 KL.out (lt_of_at KL.out); unfold Wt.o at this; rw [hon'.out] at this; exact this)
    have K6 := hid (var_on hb6 K4.out (lt_of_at K4.out))
    have hB6 := below_on hB4 hb6
    have f6 := (cells_at KL6.out).2
    have c6 := (cells_at KL6.out).1
    clear hb6 n0 n17 n18 n19 n20 n21 CC H4 hB4 s0 s1 s2 s3 s4 s5 s6 KL K4 e6 e6' e7 d1
    go_upto_region 12 with fail
    obtain ⟨W7, hW7⟩ : ∃ W7, (((W6.setCell ⟨lb, 3, none⟩ (.int .i64 m0)).setCell ⟨lb, 4, none⟩ (.int .i64 m1)).setCell ⟨lb, 5, none⟩ (.int .i64 m2)).setCell ⟨lb, 6, none⟩ (.int .i64 m3) = W7 := ⟨_, rfl⟩
    have KN := hid (show W7.heap[lb]? = some (wtO true o.s o.st m0 m1 m2 m3) by rw [← hW7]; exact wt_put4 KL6.out _ _ _ _)
    have K7 := hid (show W7.heap[gc]? = some c.o by rw [← hW7]; exact (But.set4 (But.refl lb W6) _ _ _ _).at K6.out hlc')
    have hB7 : Below w.heap.size w W7 := by rw [← hW7]; exact (((hB6.setCell hlb _).setCell hlb _).setCell hlb _).setCell hlb _
    rw [hW7]
    clear hW7 hB6 K6 KL6 f6 c6
    have hcg : gc ≠ g := by rw [← hgc.out]; omega
    have H7 := hid (H0.out.on hB7 hgl)
    obtain ⟨t0, t1, t2, t3, t4, t5, t6⟩ := H7.out.cell HO.out
    have f7 := H7.out.free
    have n16 : W7.cell? ⟨gc, 16, none⟩ = some (.int .i64 (k : Int)) := by rw [← HK.out]; exact cell_i K7.out (k := 16) (by simp [plI])
    have u7 : cells7 W7 lb 0 ⟨true, o.s, o.st, ⟨m0, m1, m2, m3⟩⟩ := wt_cells KN.out
    go_wp2_with fail
    refine wp_region_held_drew (S := fun w' => w'.cell? ⟨gc, 16, none⟩ = some (.int .i64 (k : Int)) ∧ cells7 w' lb 0 ⟨true, o.s, o.st, ⟨m0, m1, m2, m3⟩⟩) (by kernel_rfl) ⟨n16, u7⟩ (fun hHeld => ?_)
    refine take_yes (i := 0) (v := ?v0c) rfl (by kernel_rfl) (by kernel_rfl) (by kernel_rfl) (fun _ _ _ h => h) (by rfl) ?hy0c hHeld ?rest0c
    case hy0c =>
      intro w' hSw
      obtain ⟨r16, r0, r1, r2, r3, r4, r5, r6⟩ := hSw
      go_simp <;> with_reducible rfl
    try simp only [Act.put, List.setIfInBounds_toArray, List.set_cons_zero, List.set_cons_succ]
    refine take_yes (i := 1) (v := ?v1c) rfl (by kernel_rfl) (by kernel_rfl) (by kernel_rfl) (fun _ _ _ h => h) (by rfl) ?hy1c hHeld ?rest1c
    case hy1c =>
      intro w' hSw
      obtain ⟨r16, r0, r1, r2, r3, r4, r5, r6⟩ := hSw
      go_simp <;> with_reducible rfl
    try simp only [Act.put, List.setIfInBounds_toArray, List.set_cons_zero, List.set_cons_succ]
    refine take_yes (i := 2) (v := ?v2c) rfl (by kernel_rfl) (by kernel_rfl) (by kernel_rfl) (fun _ _ _ h => h) (by rfl) ?hy2c hHeld ?rest2c
    case hy2c =>
      intro w' hSw
      obtain ⟨r16, r0, r1, r2, r3, r4, r5, r6⟩ := hSw
      go_simp <;> with_reducible rfl
    try simp only [Act.put, List.setIfInBounds_toArray, List.set_cons_zero, List.set_cons_succ]
    refine take_yes (i := 3) (v := ?v3c) rfl (by kernel_rfl) (by kernel_rfl) (by kernel_rfl) (fun _ _ _ h => h) (by rfl) ?hy3c hHeld ?rest3c
    case hy3c =>
      intro w' hSw
      obtain ⟨r16, r0, r1, r2, r3, r4, r5, r6⟩ := hSw
      go_simp <;> with_reducible rfl
    try simp only [Act.put, List.setIfInBounds_toArray, List.set_cons_zero, List.set_cons_succ]
    refine take_yes (i := 4) (v := ?v4c) rfl (by kernel_rfl) (by kernel_rfl) (by kernel_rfl) (fun _ _ _ h => h) (by rfl) ?hy4c hHeld ?rest4c
    case hy4c =>
      intro w' hSw
      obtain ⟨r16, r0, r1, r2, r3, r4, r5, r6⟩ := hSw
      go_simp <;> with_reducible rfl
    try simp only [Act.put, List.setIfInBounds_toArray, List.set_cons_zero, List.set_cons_succ]
    refine take_yes (i := 5) (v := ?v5c) rfl (by kernel_rfl) (by kernel_rfl) (by kernel_rfl) (fun _ _ _ h => h) (by rfl) ?hy5c hHeld ?rest5c
    case hy5c =>
      intro w' hSw
      obtain ⟨r16, r0, r1, r2, r3, r4, r5, r6⟩ := hSw
      go_simp <;> with_reducible rfl
    try simp only [Act.put, List.setIfInBounds_toArray, List.set_cons_zero, List.set_cons_succ]
    refine take_yes (i := 6) (v := ?v6c) rfl (by kernel_rfl) (by kernel_rfl) (by kernel_rfl) (fun _ _ _ h => h) (by rfl) ?hy6c hHeld ?rest6c
    case hy6c =>
      intro w' hSw
      obtain ⟨r16, r0, r1, r2, r3, r4, r5, r6⟩ := hSw
      go_simp <;> with_reducible rfl
    try simp only [Act.put, List.setIfInBounds_toArray, List.set_cons_zero, List.set_cons_succ]
    refine wpAnyH_ready (rs := [7]) (by kernel_rfl) (by simp) (cons_at (i := 7) rfl (fun K7c hK7c => ?_) AllReadyH.nil)
    go_simp
    refine hK7c.out _ _ (by first | with_reducible exact ⟨cell_but (But.set7 (But.refl g W7) _ _ _ _ _ _ _).drew n16 hcg, cells7_but (But.set7 (But.refl g W7) _ _ _ _ _ _ _).drew u7 hlg⟩ | with_reducible exact ⟨cell_but (But.set7 (But.refl g W7).drew _ _ _ _ _ _ _) n16 hcg, cells7_but (But.set7 (But.refl g W7).drew _ _ _ _ _ _ _) u7 hlg⟩) (fun hHeld => ?_)
    clear hK7c K7c
    try simp only [Act.put, List.setIfInBounds_toArray, List.set_cons_zero, List.set_cons_succ]
    refine wpAnyH_done (by kernel_rfl) ?_ _
    go_wp2_with fail
    rw [← HQ.out]
    exact DoPost.ok HZ.out HK.out HO.out (by rw [HN.out]; first | exact (H7.out.set7 ⟨true, o.s, o.st, ⟨m0, m1, m2, m3⟩⟩ hk4).drew | exact H7.out.drew.set7 ⟨true, o.s, o.st, ⟨m0, m1, m2, m3⟩⟩ hk4) (by first | exact (But.set7 (But.of_below hB7) _ _ _ _ _ _ _).drew | exact But.set7 (But.of_below hB7).drew _ _ _ _ _ _ _)
  · have e7 : (c.kd == 7) = false := by simp [h8]
    have HN := hid (next_quit (o := o) (b := beat) h8)
    have f4 := (cells_at KL.out).2
    have hon' := hid hon
    clear h8 n18 n19 n20 n21 CC hon
    go_upto_region 12 with fail
    obtain ⟨W7, hW7⟩ : ∃ W7, ((((w4.setCell ⟨lb, 0, none⟩ (.bool false)).setCell ⟨lb, 3, none⟩ (.int .i64 0)).setCell ⟨lb, 4, none⟩ (.int .i64 0)).setCell ⟨lb, 5, none⟩ (.int .i64 0)).setCell ⟨lb, 6, none⟩ (.int .i64 0) = W7 := ⟨_, rfl⟩
    have KN := hid (show W7.heap[lb]? = some (wtO false o.s o.st 0 0 0 0) by rw [← hW7]; exact wt_put5 KL.out _ _ _ _ _)
    have K7 := hid (show W7.heap[gc]? = some c.o by rw [← hW7]; exact ((But.set4 ((But.refl lb w4).setCell _ _) _ _ _ _)).at K4.out hlc')
    have hB7 : Below w.heap.size w W7 := by rw [← hW7]; exact ((((hB4.setCell hlb _).setCell hlb _).setCell hlb _).setCell hlb _).setCell hlb _
    rw [hW7]
    clear hW7 hB4 K4 KL H4 f4 n0 n17 s0 s1 s2 s3 s4 s5 s6 e6 e6' e7 d1
    have hcg : gc ≠ g := by rw [← hgc.out]; omega
    have H7 := hid (H0.out.on hB7 hgl)
    obtain ⟨t0, t1, t2, t3, t4, t5, t6⟩ := H7.out.cell HO.out
    have f7 := H7.out.free
    have n16 : W7.cell? ⟨gc, 16, none⟩ = some (.int .i64 (k : Int)) := by rw [← HK.out]; exact cell_i K7.out (k := 16) (by simp [plI])
    have u7 : cells7 W7 lb 0 ⟨false, o.s, o.st, ⟨0, 0, 0, 0⟩⟩ := wt_cells KN.out
    go_wp2_with fail
    refine wp_region_held_drew (S := fun w' => w'.cell? ⟨gc, 16, none⟩ = some (.int .i64 (k : Int)) ∧ cells7 w' lb 0 ⟨false, o.s, o.st, ⟨0, 0, 0, 0⟩⟩) (by kernel_rfl) ⟨n16, u7⟩ (fun hHeld => ?_)
    refine take_yes (i := 0) (v := ?v0d) rfl (by kernel_rfl) (by kernel_rfl) (by kernel_rfl) (fun _ _ _ h => h) (by rfl) ?hy0d hHeld ?rest0d
    case hy0d =>
      intro w' hSw
      obtain ⟨r16, r0, r1, r2, r3, r4, r5, r6⟩ := hSw
      go_simp <;> with_reducible rfl
    try simp only [Act.put, List.setIfInBounds_toArray, List.set_cons_zero, List.set_cons_succ]
    refine take_yes (i := 1) (v := ?v1d) rfl (by kernel_rfl) (by kernel_rfl) (by kernel_rfl) (fun _ _ _ h => h) (by rfl) ?hy1d hHeld ?rest1d
    case hy1d =>
      intro w' hSw
      obtain ⟨r16, r0, r1, r2, r3, r4, r5, r6⟩ := hSw
      go_simp <;> with_reducible rfl
    try simp only [Act.put, List.setIfInBounds_toArray, List.set_cons_zero, List.set_cons_succ]
    refine take_yes (i := 2) (v := ?v2d) rfl (by kernel_rfl) (by kernel_rfl) (by kernel_rfl) (fun _ _ _ h => h) (by rfl) ?hy2d hHeld ?rest2d
    case hy2d =>
      intro w' hSw
      obtain ⟨r16, r0, r1, r2, r3, r4, r5, r6⟩ := hSw
      go_simp <;> with_reducible rfl
    try simp only [Act.put, List.setIfInBounds_toArray, List.set_cons_zero, List.set_cons_succ]
    refine take_yes (i := 3) (v := ?v3d) rfl (by kernel_rfl) (by kernel_rfl) (by kernel_rfl) (fun _ _ _ h => h) (by rfl) ?hy3d hHeld ?rest3d
    case hy3d =>
      intro w' hSw
      obtain ⟨r16, r0, r1, r2, r3, r4, r5, r6⟩ := hSw
      go_simp <;> with_reducible rfl
    try simp only [Act.put, List.setIfInBounds_toArray, List.set_cons_zero, List.set_cons_succ]
    refine take_yes (i := 4) (v := ?v4d) rfl (by kernel_rfl) (by kernel_rfl) (by kernel_rfl) (fun _ _ _ h => h) (by rfl) ?hy4d hHeld ?rest4d
    case hy4d =>
      intro w' hSw
      obtain ⟨r16, r0, r1, r2, r3, r4, r5, r6⟩ := hSw
      go_simp <;> with_reducible rfl
    try simp only [Act.put, List.setIfInBounds_toArray, List.set_cons_zero, List.set_cons_succ]
    refine take_yes (i := 5) (v := ?v5d) rfl (by kernel_rfl) (by kernel_rfl) (by kernel_rfl) (fun _ _ _ h => h) (by rfl) ?hy5d hHeld ?rest5d
    case hy5d =>
      intro w' hSw
      obtain ⟨r16, r0, r1, r2, r3, r4, r5, r6⟩ := hSw
      go_simp <;> with_reducible rfl
    try simp only [Act.put, List.setIfInBounds_toArray, List.set_cons_zero, List.set_cons_succ]
    refine take_yes (i := 6) (v := ?v6d) rfl (by kernel_rfl) (by kernel_rfl) (by kernel_rfl) (fun _ _ _ h => h) (by rfl) ?hy6d hHeld ?rest6d
    case hy6d =>
      intro w' hSw
      obtain ⟨r16, r0, r1, r2, r3, r4, r5, r6⟩ := hSw
      go_simp <;> with_reducible rfl
    try simp only [Act.put, List.setIfInBounds_toArray, List.set_cons_zero, List.set_cons_succ]
    refine wpAnyH_ready (rs := [7]) (by kernel_rfl) (by simp) (cons_at (i := 7) rfl (fun K7d hK7d => ?_) AllReadyH.nil)
    go_simp
    refine hK7d.out _ _ (by first | with_reducible exact ⟨cell_but (But.set7 (But.refl g W7) _ _ _ _ _ _ _).drew n16 hcg, cells7_but (But.set7 (But.refl g W7) _ _ _ _ _ _ _).drew u7 hlg⟩ | with_reducible exact ⟨cell_but (But.set7 (But.refl g W7).drew _ _ _ _ _ _ _) n16 hcg, cells7_but (But.set7 (But.refl g W7).drew _ _ _ _ _ _ _) u7 hlg⟩) (fun hHeld => ?_)
    clear hK7d K7d
    try simp only [Act.put, List.setIfInBounds_toArray, List.set_cons_zero, List.set_cons_succ]
    refine wpAnyH_done (by kernel_rfl) ?_ _
    go_wp2_with fail
    rw [← HQ.out]
    exact DoPost.ok HZ.out HK.out HO.out (by rw [HN.out]; first | exact (H7.out.set7 ⟨false, o.s, o.st, ⟨0, 0, 0, 0⟩⟩ hk4).drew | exact H7.out.drew.set7 ⟨false, o.s, o.st, ⟨0, 0, 0, 0⟩⟩ hk4) (by first | exact (But.set7 (But.of_below hB7) _ _ _ _ _ _ _).drew | exact But.set7 (But.of_below hB7).drew _ _ _ _ _ _ _)
end Go.Proofs.Ythgnmpgdlemdlaa
