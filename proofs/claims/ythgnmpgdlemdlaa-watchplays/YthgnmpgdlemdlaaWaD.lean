/- Contract of Do of the package watch: what is told, what the book holds behind it. -/
import Derived.Test.YthgnmpgdlemdlaaWaC
namespace Go.Proofs.Ythgnmpgdlemdlaa
open Go.RowKit
set_option linter.unusedVariables false
theorem exec_load_cm {o : Oper} {a : Act} {W : World} (x : Operand) (ho : o.op = .load 41 x) {g : Nat} {c : Cm} (hx : a.eval x = .pointer (some ⟨g, 0, none⟩)) (h : W.heap[g]? = some c.o) : (execOp a.eval o).run Try.prog W = .ok (.value c.v) W := by
  unfold execOp
  simp only [ho, hx, Sem.run_bind, load_at h, Result.andThen_ok, Sem.run_pure]
theorem exec_load_mid_cm {o : Oper} {a : Act} {W : World} (x : Operand) (ho : o.op = .load 41 x) {b p : Nat} {c : Cm} (hx : a.eval x = .pointer (some ⟨b, p, none⟩)) (h : W.rangeAt b p c.cs) : (execOp a.eval o).run Try.prog W = .ok (.value c.v) W := by
  have e0 : (Instr.loadAt 41 (.pointer (some ⟨b, p, none⟩))).run Try.prog W = .ok c.v W := run_loadAt_mid W b p _ c.cs _ h Try.underlying41 rfl Try.size30
  unfold execOp
  simp only [ho, hx, Sem.run_bind, e0, Result.andThen_ok, Sem.run_pure]
theorem But.set7 {g : Nat} {w w' : World} (h : But g w w') {i0 i1 i2 i3 i4 i5 i6 : Nat} (v0 v1 v2 v3 v4 v5 v6 : Value) : But g w (((((((w'.setCell ⟨g, i0, none⟩ v0).setCell ⟨g, i1, none⟩ v1).setCell ⟨g, i2, none⟩ v2).setCell ⟨g, i3, none⟩ v3).setCell ⟨g, i4, none⟩ v4).setCell ⟨g, i5, none⟩ v5).setCell ⟨g, i6, none⟩ v6) :=
  ((((((h.setCell _ _).setCell _ _).setCell _ _).setCell _ _).setCell _ _).setCell _ _).setCell _ _
theorem But.set4 {g : Nat} {w w' : World} (h : But g w w') {i0 i1 i2 i3 : Nat} (v0 v1 v2 v3 : Value) : But g w ((((w'.setCell ⟨g, i0, none⟩ v0).setCell ⟨g, i1, none⟩ v1).setCell ⟨g, i2, none⟩ v2).setCell ⟨g, i3, none⟩ v3) :=
  (((h.setCell _ _).setCell _ _).setCell _ _).setCell _ _
theorem cells7_below {W W' : World} {g p : Nat} {o : Wt} (h : cells7 W g p o) (hb : Below W.heap.size W W') : cells7 W' g p o := by
  obtain ⟨c0, c1, c2, c3, c4, c5, c6⟩ := h
  exact ⟨cell_below hb c0, cell_below hb c1, cell_below hb c2, cell_below hb c3, cell_below hb c4, cell_below hb c5, cell_below hb c6⟩
theorem cell_but {g b i : Nat} {w w' : World} {v : Value} (h : But g w w') (hv : w.cell? ⟨b, i, none⟩ = some v) (hn : b ≠ g) : w'.cell? ⟨b, i, none⟩ = some v := by
  have hl : b < w.heap.size := World.block_lt_of_cell? w _ hv
  rw [← hv]; unfold World.cell?; simp only; rw [h.block b hl hn]
/-- how Do ends -/
def DoPost (w : World) (g : Nat) (t : TypeId) (L : List Wt) (c : Cm) (b : Int) (e : Ending) (w' : World) : Prop := e = .returned (.int .i64 (wdoE L c)) ∧ WB w' g t (wdoL L c b) ∧ But g w w'
theorem DoPost.bad {w w' : World} {g : Nat} {t : TypeId} {L : List Wt} {c : Cm} {b x : Int} (h : wdoE L c = x) (hx : ¬ x = 0) (hm : WB w' g t L) (hb : But g w w') : DoPost w g t L c b (.returned (.int .i64 x)) w' := ⟨by rw [h], by rw [wdoL_bad h hx]; exact hm, hb⟩
theorem DoPost.ok {w w' : World} {g : Nat} {t : TypeId} {L : List Wt} {c : Cm} {b : Int} {k : Nat} {o : Wt} (h : wdoE L c = 0) (hc : c.cl = (k : Int)) (ho : L[k]? = some o) (hm : WB w' g t (L.set k (nextW o c b))) (hb : But g w w') : DoPost w g t L c b (.returned (.int .i64 0)) w' := ⟨by rw [h], by rw [wdoL_ok h hc ho]; exact hm, hb⟩
set_option maxHeartbeats 4000000 in
theorem watch_do {w : World} {g : Nat} {t : TypeId} {L : List Wt} (h : WB w g t L) {c : Cm} (hs : sizedC c) (beat : Int) :
    Calls Try.prog 10 #[.pointer (some ⟨g, 0, none⟩), c.v, .int .i64 beat] w (DoPost w g t L c beat) := by
  obtain ⟨W, hW⟩ : ∃ W, W = w.alloc c.o := ⟨_, rfl⟩
  have hB : Below w.heap.size w W := by rw [hW]; exact below1 _ _
  have K1 := hid (show W.heap[w.heap.size]? = some c.o by rw [hW]; exact new_at _ _ _ rfl)
  have HG := hid (h.later hB)
  have hgl := h.lt
  obtain ⟨Q, hQ⟩ : ∃ Q, DoPost w g t L c beat = Q := ⟨_, rfl⟩
  rw [hQ]
  have HQ := hid hQ
  obtain ⟨q1, hq1⟩ : ∃ q, Hid (isCm c = q) := ⟨_, rfl⟩
  obtain ⟨q2, hq2⟩ : ∃ q, Hid (watchB c.kd = q) := ⟨_, rfl⟩
  have C1 := cmd_is W c hs
  rw [hq1.out] at C1
  have HS := hid hs
  clear h hQ hs
  go_enter Try.func10, Try.ntmps10
  go_upto_region 1 with fail
  rw [← hW]
  clear hW
  obtain ⟨gc, hgc⟩ : ∃ gc, Hid (w.heap.size = gc) := ⟨_, rfl⟩
  have K1 := hid (show W.heap[gc]? = some c.o by rw [← hgc.out]; exact K1.out)
  try rw [hgc.out]
  go_wp2_with (with_reducible refine wpList_load_cm rfl (.tmp 4) rfl rfl K1.out ?_)
  refine C1.mono ?_
  rintro x w2 ⟨rfl, hb2⟩
  have K2 := hid (var_on hb2 K1.out (lt_of_at K1.out))
  have HG2 := hid (HG.out.later hb2)
  have hB2 := below_on hB hb2
  clear C1 K1 HG hB hb2
  cases q1
  · have HE := hid (DoPost.bad (b := beat) (wdoE_form (L := L) (c := c) (by unfold formB; rw [hq1.out]; rfl)) (by decide) HG2.out (But.of_below hB2))
    go_wp2_with fail
    rw [← HQ.out]
    exact HE.out
  have C2 := cmd_watches w2 c
  rw [hq2.out] at C2
  go_wp2_with (with_reducible refine wpList_load_cmG rfl (.tmp 4) rfl rfl K2.out ?_)
  refine C2.mono ?_
  rintro x w3 ⟨rfl, hb3⟩
  have K3 := hid (var_on hb3 K2.out (lt_of_at K2.out))
  have HG3 := hid (HG2.out.later hb3)
  have hB3 := below_on hB2 hb3
  clear C2 K2 HG2 hB2 hb3
  cases q2
  · have HE := hid (DoPost.bad (b := beat) (wdoE_form (L := L) (c := c) (by unfold formB; rw [hq2.out]; simp)) (by decide) HG3.out (But.of_below hB3))
    go_wp2_with fail
    rw [← HQ.out]
    exact HE.out
  have hF := hid (show formB c = true by unfold formB; rw [hq1.out, hq2.out]; rfl)
  obtain ⟨k, hk, hk4⟩ := cl_nat (form_cl hF.out)
  obtain ⟨o, ho⟩ := HG3.out.get hk4
  have n16 : w3.cell? ⟨gc, 16, none⟩ = some (.int .i64 (k : Int)) := by rw [← hk]; exact cell_i K3.out (k := 16) (by simp [plI])
  have HK := hid hk
  have HO := hid ho
  have hk4' : (k : Int) < 4 := by omega
  clear hk ho hq1 hq2
  go_wp2_with fail
  go_quiet (fail)
  obtain ⟨w4, hw4⟩ : ∃ w4, w3.drewN nq = w4 := ⟨_, rfl⟩
  have hb4 : Below w3.heap.size w3 w4 := by rw [← hw4]; exact below_drewN (Below.refl _ _) nq
  rw [hw4]
  have K4 := hid (var_on hb4 K3.out (lt_of_at K3.out))
  have HG4 := hid (HG3.out.later hb4)
  have hB4 := below_on hB3 hb4
  clear hw4 hb4 K3 HG3 hB3 n16
  obtain ⟨qm, hqm⟩ : ∃ q, Hid (mayB o c = q) := ⟨_, rfl⟩
  have S0 : cells7 w4 g (k * 7) o := HG4.out.cell HO.out
  have S1 : w4.heap[gc]? = some c.o := K4.out
  go_wp2_with fail
  refine wp_region_held_drew (S := fun w' => Below w4.heap.size w4 w' ∧ cells7 w' g (k * 7) o ∧ w'.heap[gc]? = some c.o) (by kernel_rfl) ⟨(Below.refl _ _).drew, S0, S1⟩ (fun hHeld => ?_)
  refine take_yes (i := 0) (v := ?v0a) rfl (by kernel_rfl) (by kernel_rfl) (by kernel_rfl) (fun _ _ _ h => h) (by rfl) ?hy0a hHeld ?rest0a
  case hy0a =>
    intro w' hSw
    obtain ⟨-, ⟨s0, s1, s2, s3, s4, s5, s6⟩, -⟩ := hSw
    go_simp <;> with_reducible rfl
  try simp only [Act.put, List.setIfInBounds_toArray, List.set_cons_zero, List.set_cons_succ]
  refine take_yes (i := 1) (v := ?v1a) rfl (by kernel_rfl) (by kernel_rfl) (by kernel_rfl) (fun _ _ _ h => h) (by rfl) ?hy1a hHeld ?rest1a
  case hy1a =>
    intro w' hSw
    obtain ⟨-, ⟨s0, s1, s2, s3, s4, s5, s6⟩, -⟩ := hSw
    go_simp <;> with_reducible rfl
  try simp only [Act.put, List.setIfInBounds_toArray, List.set_cons_zero, List.set_cons_succ]
  refine take_yes (i := 2) (v := ?v2a) rfl (by kernel_rfl) (by kernel_rfl) (by kernel_rfl) (fun _ _ _ h => h) (by rfl) ?hy2a hHeld ?rest2a
  case hy2a =>
    intro w' hSw
    obtain ⟨-, ⟨s0, s1, s2, s3, s4, s5, s6⟩, -⟩ := hSw
    go_simp <;> with_reducible rfl
  try simp only [Act.put, List.setIfInBounds_toArray, List.set_cons_zero, List.set_cons_succ]
  refine take_yes (i := 3) (v := _) rfl (by kernel_rfl) (by kernel_rfl) (by kernel_rfl) (fun _ _ _ h => h) (by rfl) (fun w' hSw => exec_load_cm (.tmp 4) rfl rfl hSw.2.2) hHeld ?rest3a
  try simp only [Act.put, List.setIfInBounds_toArray, List.set_cons_zero, List.set_cons_succ]
  refine wpAnyH_ready (rs := [4]) (by kernel_rfl) (by simp) (cons_at (i := 4) rfl (fun K4a hK4a => ?_) AllReadyH.nil)
  go_simp
  go_at_call 20
  with_reducible refine (watch_may hqm _).mono ?_
  rintro x W5 ⟨rfl, hb5⟩
  obtain ⟨hb40, S40, T40⟩ := hHeld
  have hb45 := hb40.trans (hb5.mono hb40.size)
  have S5 := cells7_below S0 hb45
  have T5 := var_on hb45 S1 (lt_of_at S1)
  go_wp2_with fail
  refine hK4a.out _ _ ⟨hb45, S5, T5⟩ (fun hHeld => ?_)
  clear hK4a K4a
  try simp only [Act.put, List.setIfInBounds_toArray, List.set_cons_zero, List.set_cons_succ]
  refine take_yes (i := 5) (v := ?v5a) rfl (by kernel_rfl) (by kernel_rfl) (by kernel_rfl) (fun _ _ _ h => h) (by rfl) ?hy5a hHeld ?rest5a
  case hy5a =>
    intro w' hSw
    obtain ⟨-, ⟨s0, s1, s2, s3, s4, s5, s6⟩, -⟩ := hSw
    go_simp <;> with_reducible rfl
  try simp only [Act.put, List.setIfInBounds_toArray, List.set_cons_zero, List.set_cons_succ]
  refine wpAnyH_done (by kernel_rfl) ?_ _
  obtain ⟨hb5, S5, T5⟩ := hHeld
  have K5 := hid T5
  have HG5 := hid (HG4.out.later hb5)
  have hB5 := below_on hB4 hb5
  clear S0 S1 K4 HG4 hB4 S5 T5 hb5
  cases qm
  · have HE := hid (DoPost.bad (b := beat) (wdoE_may hF.out (by rw [HK.out, atW_nat HO.out]; exact hqm.out)) (by decide) HG5.out (But.of_below hB5))
    go_wp2_with fail
    rw [← HQ.out]
    exact HE.out
  have HZ := hid (wdoE_ok hF.out (by rw [HK.out, atW_nat HO.out]; exact hqm.out))
  have n0 : W5.cell? ⟨gc, 0, none⟩ = some (.int .i64 c.kd) := cell_i K5.out (k := 0) (by simp [plI])
  have n17 : W5.cell? ⟨gc, 17, none⟩ = some (.int .i64 c.se) := cell_i K5.out (k := 17) (by simp [plI])
  have n18 : W5.cell? ⟨gc, 18, none⟩ = some (.int .i64 c.r0) := cell_i K5.out (k := 18) (by simp [plI])
  have n19 : W5.cell? ⟨gc, 19, none⟩ = some (.int .i64 c.r1) := cell_i K5.out (k := 19) (by simp [plI])
  have n20 : W5.cell? ⟨gc, 20, none⟩ = some (.int .i64 c.r2) := cell_i K5.out (k := 20) (by simp [plI])
  have n21 : W5.cell? ⟨gc, 21, none⟩ = some (.int .i64 c.r3) := cell_i K5.out (k := 21) (by simp [plI])
  obtain ⟨s0, s1, s2, s3, s4, s5, s6⟩ := HG5.out.cell HO.out
  obtain ⟨m0, m1, m2, m3, hm⟩ : ∃ m0 m1 m2 m3 : Int, Hid (meetR ⟨c.r0, c.r1, c.r2, c.r3⟩ ⟨0, 0, 64, 64⟩ = ⟨m0, m1, m2, m3⟩) := ⟨_, _, _, _, rfl⟩
  have CC := fun W => watch_clip_at hm W
  rcases form_kd hF.out with h6 | h7 | h8
  · rw [h6] at n0
    have HN := hid (show nextW o c beat = ⟨true, c.se, beat, ⟨m0, m1, m2, m3⟩⟩ by rw [next_join h6]; exact congrArg (fun r => (⟨true, c.se, beat, r⟩ : Wt)) hm.out)
    have hne : gc ≠ g := by rw [← hgc.out]; omega
    clear h6
    go_wp2_with fail
    refine wp_region_held_drew (S := fun w' => w'.cell? ⟨gc, 17, none⟩ = some (.int .i64 c.se) ∧ w'.cell? ⟨gc, 18, none⟩ = some (.int .i64 c.r0) ∧ w'.cell? ⟨gc, 19, none⟩ = some (.int .i64 c.r1) ∧ w'.cell? ⟨gc, 20, none⟩ = some (.int .i64 c.r2) ∧ w'.cell? ⟨gc, 21, none⟩ = some (.int .i64 c.r3)) (by kernel_rfl) ⟨n17, n18, n19, n20, n21⟩ (fun hHeld => ?_)
    refine take_yes (i := 0) (v := ?v0b) rfl (by kernel_rfl) (by kernel_rfl) (by kernel_rfl) (fun _ _ _ h => h) (by rfl) ?hy0b hHeld ?rest0b
    case hy0b =>
      intro w' hSw
      obtain ⟨r17, r18, r19, r20, r21⟩ := hSw
      go_simp <;> with_reducible rfl
    try simp only [Act.put, List.setIfInBounds_toArray, List.set_cons_zero, List.set_cons_succ]
    refine take_yes (i := 1) (v := ?v1b) rfl (by kernel_rfl) (by kernel_rfl) (by kernel_rfl) (fun _ _ _ h => h) (by rfl) ?hy1b hHeld ?rest1b
    case hy1b =>
      intro w' hSw
      obtain ⟨r17, r18, r19, r20, r21⟩ := hSw
      go_simp <;> with_reducible rfl
    try simp only [Act.put, List.setIfInBounds_toArray, List.set_cons_zero, List.set_cons_succ]
    refine take_yes (i := 2) (v := ?v2b) rfl (by kernel_rfl) (by kernel_rfl) (by kernel_rfl) (fun _ _ _ h => h) (by rfl) ?hy2b hHeld ?rest2b
    case hy2b =>
      intro w' hSw
      obtain ⟨r17, r18, r19, r20, r21⟩ := hSw
      go_simp <;> with_reducible rfl
    try simp only [Act.put, List.setIfInBounds_toArray, List.set_cons_zero, List.set_cons_succ]
    refine take_yes (i := 3) (v := ?v3b) rfl (by kernel_rfl) (by kernel_rfl) (by kernel_rfl) (fun _ _ _ h => h) (by rfl) ?hy3b hHeld ?rest3b
    case hy3b =>
      intro w' hSw
      obtain ⟨r17, r18, r19, r20, r21⟩ := hSw
      go_simp <;> with_reducible rfl
    try simp only [Act.put, List.setIfInBounds_toArray, List.set_cons_zero, List.set_cons_succ]
    refine take_yes (i := 4) (v := ?v4b) rfl (by kernel_rfl) (by kernel_rfl) (by kernel_rfl) (fun _ _ _ h => h) (by rfl) ?hy4b hHeld ?rest4b
    case hy4b =>
      intro w' hSw
      obtain ⟨r17, r18, r19, r20, r21⟩ := hSw
      go_simp <;> with_reducible rfl
    try simp only [Act.put, List.setIfInBounds_toArray, List.set_cons_zero, List.set_cons_succ]
    refine take_yes (i := 5) (v := ?v5b) rfl (by kernel_rfl) (by kernel_rfl) (by kernel_rfl) (fun _ _ _ h => h) (by rfl) ?hy5b hHeld ?rest5b
    case hy5b =>
      intro w' hSw
      obtain ⟨r17, r18, r19, r20, r21⟩ := hSw
      go_simp <;> with_reducible rfl
    try simp only [Act.put, List.setIfInBounds_toArray, List.set_cons_zero, List.set_cons_succ]
    refine wpAnyH_ready (rs := [6]) (by kernel_rfl) (by simp) (cons_at (i := 6) rfl (fun K6b hK6b => ?_) AllReadyH.nil)
    go_simp
    go_at_call 16
    with_reducible refine (CC _).mono ?_
    rintro z W6 ⟨rfl, hb6'⟩
    have hb6 : Below W5.heap.size W5 W6 := below_on (Below.refl _ _).drew hb6'
    have HG6 := hid (HG5.out.later hb6)
    have f6 := HG6.out.free
    obtain ⟨t0, t1, t2, t3, t4, t5, t6⟩ := HG6.out.cell HO.out
    have hB6 := below_on hB5 hb6
    have N6 := (show W6.cell? ⟨gc, 17, none⟩ = some (.int .i64 c.se) ∧ W6.cell? ⟨gc, 18, none⟩ = some (.int .i64 c.r0) ∧ W6.cell? ⟨gc, 19, none⟩ = some (.int .i64 c.r1) ∧ W6.cell? ⟨gc, 20, none⟩ = some (.int .i64 c.r2) ∧ W6.cell? ⟨gc, 21, none⟩ = some (.int .i64 c.r3) from ⟨cell_below hb6 n17, cell_below hb6 n18, cell_below hb6 n19, cell_below hb6 n20, cell_below hb6 n21⟩)
    clear hb6' hHeld n0 n17 n18 n19 n20 n21 s0 s1 s2 s3 s4 s5 s6
    go_wp2_with fail
    refine hK6b.out _ _ N6 (fun hHeld => ?_)
    clear hK6b K6b
    try simp only [Act.put, List.setIfInBounds_toArray, List.set_cons_zero, List.set_cons_succ]
    refine take_yes (i := 7) (v := ?v7b) rfl (by kernel_rfl) (by kernel_rfl) (by kernel_rfl) (fun _ _ _ h => h) (by rfl) ?hy7b hHeld ?rest7b
    case hy7b =>
      intro w' hSw
      obtain ⟨r17, r18, r19, r20, r21⟩ := hSw
      go_simp <;> with_reducible rfl
    try simp only [Act.put, List.setIfInBounds_toArray, List.set_cons_zero, List.set_cons_succ]
    refine take_yes (i := 8) (v := ?v8b) rfl (by kernel_rfl) (by kernel_rfl) (by kernel_rfl) (fun _ _ _ h => h) (by rfl) ?hy8b hHeld ?rest8b
    case hy8b =>
      intro w' hSw
      obtain ⟨r17, r18, r19, r20, r21⟩ := hSw
      go_simp <;> with_reducible rfl
    try simp only [Act.put, List.setIfInBounds_toArray, List.set_cons_zero, List.set_cons_succ]
    refine wpAnyH_ready (rs := [9]) (by kernel_rfl) (by simp) (cons_at (i := 9) rfl (fun K9b hK9b => ?_) AllReadyH.nil)
    go_simp
    refine hK9b.out _ _ (by obtain ⟨r17, r18, r19, r20, r21⟩ := N6; exact ⟨cell_but (But.set7 (But.refl g W6) _ _ _ _ _ _ _) r17 hne, cell_but (But.set7 (But.refl g W6) _ _ _ _ _ _ _) r18 hne, cell_but (But.set7 (But.refl g W6) _ _ _ _ _ _ _) r19 hne, cell_but (But.set7 (But.refl g W6) _ _ _ _ _ _ _) r20 hne, cell_but (But.set7 (But.refl g W6) _ _ _ _ _ _ _) r21 hne⟩) (fun hHeld => ?_)
    clear hK9b K9b
    try simp only [Act.put, List.setIfInBounds_toArray, List.set_cons_zero, List.set_cons_succ]
    refine wpAnyH_done (by kernel_rfl) ?_ _
    go_wp2_with fail
    rw [← HQ.out]
    exact DoPost.ok HZ.out HK.out HO.out (by rw [HN.out]; exact HG6.out.set7 ⟨true, c.se, beat, ⟨m0, m1, m2, m3⟩⟩ hk4) (But.set7 (But.of_below hB6) _ _ _ _ _ _ _)
  · rw [h7] at n0
    have HN := hid (show nextW o c beat = ⟨o.on, o.s, o.st, ⟨m0, m1, m2, m3⟩⟩ by rw [next_turn h7]; exact congrArg (fun r => (⟨o.on, o.s, o.st, r⟩ : Wt)) hm.out)
    clear h7 s0 s1 s2 s3 s4 s5 s6 n17
    go_wp2_with fail
    refine (CC _).mono ?_
    rintro z W6 ⟨rfl, hb6⟩
    have HG6 := hid (HG5.out.later hb6)
    have f6 := HG6.out.free
    obtain ⟨t0, t1, t2, t3, t4, t5, t6⟩ := HG6.out.cell HO.out
    have hB6 := below_on hB5 hb6
    clear hb6 n0 n18 n19 n20 n21 CC HG5 hB5
    go_wp2_with fail
    rw [← HQ.out]
    exact DoPost.ok HZ.out HK.out HO.out (by rw [HN.out]; exact HG6.out.set4 HO.out ⟨m0, m1, m2, m3⟩) (But.set4 (But.of_below hB6) _ _ _ _)
  · rw [h8] at n0
    have HN := hid (next_quit (o := o) (b := beat) h8)
    have f5 := HG5.out.free
    clear h8 n17 n18 n19 n20 n21 CC
    go_wp2_with fail
    go_region
    go_wp2_with fail
    rw [← HQ.out]
    exact DoPost.ok HZ.out HK.out HO.out (by rw [HN.out]; first | exact (HG5.out.set7 ⟨false, o.s, o.st, ⟨0, 0, 0, 0⟩⟩ hk4).drew | exact HG5.out.drew.set7 ⟨false, o.s, o.st, ⟨0, 0, 0, 0⟩⟩ hk4) (by first | exact (But.set7 (But.of_below hB5) _ _ _ _ _ _ _).drew | exact But.set7 (But.of_below hB5).drew _ _ _ _ _ _ _)
end Go.Proofs.Ythgnmpgdlemdlaa
