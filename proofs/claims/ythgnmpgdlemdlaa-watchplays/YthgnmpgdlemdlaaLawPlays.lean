/- WatchPlays holds for every row of at most 60 steps, every point, every client and every rectangle; of longer rows it answers true by itself. -/
import Derived.Test.YthgnmpgdlemdlaaWaT
import Derived.ProofKit
import Derived.OpenShut
import Derived.ShutString
import Derived.ChangeOld
import Derived.Below
import Derived.SizedLaws
namespace Go.Proofs.Ythgnmpgdlemdlaa
open Go.ChangeShapes Go.WideShapes Go.ChangeAt Go.RowKit
open Go.ChangeMaps (open_string shut_string)
set_option linter.unusedVariables false

theorem exec_load_ar {o : Oper} {a : Act} {W : World} (x : Operand) (ho : o.op = .load 33 x) {g : Nat} {t : TypeId} {L : List Wt} (hx : a.eval x = .pointer (some ⟨g, 0, none⟩)) (h : WB W g t L) : (execOp a.eval o).run Try.prog W = .ok (.value (.agg (bkC L))) W := by
  unfold execOp
  simp only [ho, hx, Instr.loadAt, Instr.sureAddr, Sem.run_bind, Sem.run_pure, Result.andThen_ok, load_bk h]
/-- the book at g and the reference's at mb hold L; the point lies at pb, the rectangle at rb -/
structure PB (W : World) (g mb pb rb : Nat) (L : List Wt) (x y r0 r1 r2 r3 : Int) : Prop where
  bk : WB W g 55 L
  rf : WB W mb 35 L
  pt : W.heap[pb]? = some (ptO x y)
  rc : W.heap[rb]? = some (ro r0 r1 r2 r3)
theorem PB.later {W W' : World} {g mb pb rb : Nat} {L : List Wt} {x y r0 r1 r2 r3 : Int} (h : PB W g mb pb rb L x y r0 r1 r2 r3) (hb : Below W.heap.size W W') : PB W' g mb pb rb L x y r0 r1 r2 r3 :=
  ⟨h.bk.later hb, h.rf.later hb, var_on hb h.pt (at_lt h.pt), var_on hb h.rc (at_lt h.rc)⟩
theorem PB.drew {W : World} {g mb pb rb : Nat} {L : List Wt} {x y r0 r1 r2 r3 : Int} (h : PB W g mb pb rb L x y r0 r1 r2 r3) : PB W.drew g mb pb rb L x y r0 r1 r2 r3 := ⟨h.bk.drew, h.rf.drew, h.pt, h.rc⟩
set_option maxRecDepth 100000 in
set_option maxHeartbeats 8000000 in
theorem watchPlays_walk (w : World) (a0 : Option Addr) (cap0 : Nat) (L0 : List Sb) (i0 : ∀ s ∈ L0, inB_ s) (r0 : RowG Sb.cs 23 w a0 L0) (c0 : L0.length ≤ cap0) (m0 : cap0 ≤ maxLen) (a10 a11 : Int) (a2 : Int) (w2 : (Lit.int .i64 a2).wf = true) (a30 a31 a32 a33 : Int) :
    Calls Try.prog 3 #[.slice a0 L0.length cap0, pt a10 a11, .int .i64 a2, rc a30 a31 a32 a33] w fun e w' => e = .returned (.bool true) ∧ Below w.heap.size w w' := by
  obtain ⟨len, hlen⟩ : ∃ len, Hid (L0.length = len) := ⟨_, rfl⟩
  rw [hlen.out] at c0 ⊢
  have HR := hid r0
  have HI := hid i0
  obtain ⟨W, hW⟩ : ∃ W, (w.alloc (ptO a10 a11)).alloc (ro a30 a31 a32 a33) = W := ⟨_, rfl⟩
  have hB : Below w.heap.size w W := by rw [← hW]; exact (below1 _ _).alloc (by simp) _
  have KP := hid (show W.heap[w.heap.size]? = some (ptO a10 a11) by rw [← hW]; exact old_at (new_at _ _ _ rfl) _)
  have KR := hid (show W.heap[w.heap.size + 1]? = some (ro a30 a31 a32 a33) by rw [← hW]; exact new_at _ _ _ (by simp))
  have C0 := known14 W
  clear r0 c0 m0 i0 w2
  go_enter Try.func3, Try.ntmps3
  go_upto_region 1 with fail
  try rw [hW]
  clear hW
  obtain ⟨pb, hpb⟩ : ∃ pb, Hid (w.heap.size = pb) := ⟨_, rfl⟩
  obtain ⟨rb, hrb⟩ : ∃ rb, Hid (w.heap.size + 1 = rb) := ⟨_, rfl⟩
  try rw [hrb.out]
  try rw [hpb.out]
  rw [hrb.out] at KR
  rw [hpb.out] at KP
  go_wp2_with fail
  refine C0.mono ?_
  rintro x w1 ⟨rfl, hb1⟩
  have KP1 := hid (var_on hb1 KP.out (at_lt KP.out))
  have KR1 := hid (var_on hb1 KR.out (at_lt KR.out))
  have hB1 := below_on hB hb1
  clear C0 KP KR hB hb1
  by_cases h60 : len ≤ 60
  rotate_left
  · have h60' : (60 : Int) < (len : Int) := by omega
    go_wp2_with fail
    go_ret
    exact ⟨rfl, hB1⟩
  have h60' : ¬ (60 : Int) < (len : Int) := by omega
  go_wp2_with fail
  refine (watch_new w1).mono ?_
  rintro x w2 ⟨rfl, hm2, hb2⟩
  obtain ⟨g, hg⟩ : ∃ g, w1.heap.size = g := ⟨_, rfl⟩
  have l1 : pb < g := by rw [← hg]; exact at_lt KP1.out
  have l2 : rb < g := by rw [← hg]; exact at_lt KR1.out
  have hgB : w.heap.size ≤ g := by rw [← hg]; exact hB1.size
  rw [hg] at hm2
  try rw [hg]
  have hB2 := below_on hB1 hb2
  have KP2 := hid (var_on hb2 KP1.out (at_lt KP1.out))
  have KR2 := hid (var_on hb2 KR1.out (at_lt KR1.out))
  clear hB1 KP1 KR1 hg h60' hb2
  go_upto_region 6 with fail
  obtain ⟨W3, hW3⟩ : ∃ W3, w2.alloc (zeroBk 35) = W3 := ⟨_, rfl⟩
  have hb3 : Below w2.heap.size w2 W3 := by rw [← hW3]; exact below1 _ _
  have hr3 : WB W3 w2.heap.size 35 noL := by rw [← hW3]; exact new_bk _ _
  obtain ⟨mb, hmb⟩ : ∃ mb, w2.heap.size = mb := ⟨_, rfl⟩
  have l3 : g < mb := by rw [← hmb]; exact hm2.lt
  rw [hmb] at hr3
  have H3 := hid (show PB W3 g mb pb rb noL a10 a11 a30 a31 a32 a33 from ⟨hm2.later hb3, hr3, var_on hb3 KP2.out (at_lt KP2.out), var_on hb3 KR2.out (at_lt KR2.out)⟩)
  have hB3 := below_on hB2 hb3
  try rw [hW3]
  try rw [hmb]
  clear hW3 hmb hb3 hr3 hB2 KP2 KR2 hm2
  go_wp2_with fail
  go_loopw [11, 12, 13] (fun s11 s12 s13 wr => ∃ (i : Nat) (L : List Wt), i ≤ len ∧ s11 = .int .i64 (i : Int) ∧ PB wr g mb pb rb L a10 a11 a30 a31 a32 a33 ∧ Below w.heap.size w wr) (fun s11 _ _ _ => 61 - (intOf s11).toNat)
  case atStart => exact ⟨0, noL, by omega, rfl, H3.out, hB3⟩
  case round =>
    obtain ⟨i, L, hi, rfl, hm, hb⟩ := hrel
    have HM := hid hm
    clear H3 hB3 hm
    by_cases hlt : i < len
    rotate_left
    · obtain rfl : i = len := by omega
      have hlt' : ¬ (i : Int) < (i : Int) := by omega
      obtain ⟨n0, n1, n2, n3, hn⟩ : ∃ n0 n1 n2 n3 : Int, Hid (meetR ⟨a30, a31, a32, a33⟩ ⟨0, 0, 64, 64⟩ = ⟨n0, n1, n2, n3⟩) := ⟨_, _, _, _, rfl⟩
      have D1 := fun W => watch_clip_at hn W
      have D2 := fun W => ref_clip_at hn W
      have gr := grown_cells HM.out.rc
      have q1 := fun W => equal_rc W n0 n1 n2 n3 n0 n1 n2 n3
      rw [show eqB ⟨n0, n1, n2, n3⟩ ⟨n0, n1, n2, n3⟩ = true by simp [eqB]] at q1
      go_wp2_with fail
      refine wp_region_quiet_below (by kernel_rfl) (by kernel_rfl) ?_
      repeat (first | go_big_quiet_skip | (go_big_quiet_want; go_big_quiet_op; first | go_big_quiet_on | go_big_quiet_call (first | with_reducible exact Calls.regrown_of (D1 _) | with_reducible exact Calls.regrown_of (D2 _))))
      refine wpQuiet_nil ?_
      intro W4 hw'
      obtain ⟨⟨dq, osq⟩, hw''⟩ := hw'
      have hb4 : Below wr.heap.size wr W4 := by rw [hw'']; exact below_regrown _ _ _
      clear hw'' gr D1 D2
      go_wp2_with fail
      go_ret
      exact ⟨rfl, below_on hb hb4⟩
    have hlt' : (i : Int) < (len : Int) := by omega
    obtain ⟨a, ha⟩ := get_some L0 i (by rw [hlen.out]; exact hlt)
    obtain ⟨b, off, rfl, hbl, hcs⟩ := sbs_at HR.out ha
    have hci : inC a.c := HI.out a (List.mem_of_getElem? ha)
    obtain ⟨c, bt⟩ := a
    simp only at hcs hci
    have HCS := hid hcs
    have HCI := hid (in_sized hci)
    clear ha hcs hci
    have HC0 := hid (HCS.out wr hb).1
    obtain ⟨q, hq⟩ : ∃ q, Hid (fewC c = q) := ⟨_, rfl⟩
    have CF := few_cmd wr c HCI.out
    rw [hq.out] at CF
    go_wp2_with (with_reducible refine wpList_load_mid_cm rfl (.tmp 31) rfl rfl HC0.out ?_)
    refine CF.mono ?_
    rintro x w3 ⟨rfl, hb3⟩
    have HM3 := hid (HM.out.later hb3)
    have hB3 := below_on hb hb3
    clear CF hb hb3 HM HC0
    cases q
    · go_wp2_with fail
      go_ret
      exact ⟨rfl, hB3⟩
    go_wp2_with fail
    refine (watch_copy HM3.out.bk).mono ?_
    rintro x w4 ⟨rfl, hc4, hb4⟩
    obtain ⟨gc, hgc⟩ : ∃ gc, w3.heap.size = gc := ⟨_, rfl⟩
    have l4 : mb < gc := by rw [← hgc]; exact HM3.out.rf.lt
    rw [hgc] at hc4
    try rw [hgc]
    have HC4 := hid hc4
    have HM4 := hid (HM3.out.later hb4)
    have hB4 := below_on hB3 hb4
    clear hc4 hb4 hB3 HM3 hgc
    obtain ⟨E, hE⟩ : ∃ E, Hid (wdoE L c = E) := ⟨_, rfl⟩
    obtain ⟨M, hM⟩ : ∃ M, Hid (wdoL L c bt = M) := ⟨_, rfl⟩
    obtain ⟨hr4, hc4, -⟩ := HCS.out w4 hB4
    have hEE : (E != E) = false := by simp
    go_wp2_with fail
    refine wp_region_held_drew (S := fun w' => w'.rangeAt b (off + i * 23) c.cs ∧ w'.cell? ⟨b, off + i * 23 + 22, none⟩ = some (.int .i64 bt)) (by kernel_rfl) ⟨hr4, hc4⟩ (fun hHeld => ?_)
    refine take_yes (i := 0) (v := ?v0a) rfl (by kernel_rfl) (by kernel_rfl) (by kernel_rfl) (fun _ _ _ h => h) (by rfl) ?hy0a hHeld ?rest0a
    case hy0a =>
      intro w' hSw
      obtain ⟨-, r1⟩ := hSw
      go_simp <;> with_reducible rfl
    try simp only [Act.put, List.setIfInBounds_toArray, List.set_cons_zero, List.set_cons_succ]
    refine take_yes (i := 1) (v := ?v1a) rfl (by kernel_rfl) (by kernel_rfl) (by kernel_rfl) (fun _ _ _ h => h) (by rfl) ?hy1a hHeld ?rest1a
    case hy1a =>
      intro w' hSw
      obtain ⟨-, r1⟩ := hSw
      go_simp <;> with_reducible rfl
    try simp only [Act.put, List.setIfInBounds_toArray, List.set_cons_zero, List.set_cons_succ]
    refine take_yes (i := 2) (v := ?v2a) rfl (by kernel_rfl) (by kernel_rfl) (by kernel_rfl) (fun _ _ _ h => h) (by rfl) ?hy2a hHeld ?rest2a
    case hy2a =>
      intro w' hSw
      obtain ⟨-, r1⟩ := hSw
      go_simp <;> with_reducible rfl
    try simp only [Act.put, List.setIfInBounds_toArray, List.set_cons_zero, List.set_cons_succ]
    refine take_yes (i := 3) (v := ?v3a) rfl (by kernel_rfl) (by kernel_rfl) (by kernel_rfl) (fun _ _ _ h => h) (by rfl) ?hy3a hHeld ?rest3a
    case hy3a =>
      intro w' hSw
      obtain ⟨-, r1⟩ := hSw
      go_simp <;> with_reducible rfl
    try simp only [Act.put, List.setIfInBounds_toArray, List.set_cons_zero, List.set_cons_succ]
    refine take_yes (i := 4) (v := ?v4a) rfl (by kernel_rfl) (by kernel_rfl) (by kernel_rfl) (fun _ _ _ h => h) (by rfl) ?hy4a hHeld ?rest4a
    case hy4a =>
      intro w' hSw
      obtain ⟨-, r1⟩ := hSw
      go_simp <;> with_reducible rfl
    try simp only [Act.put, List.setIfInBounds_toArray, List.set_cons_zero, List.set_cons_succ]
    refine take_yes (i := 5) (v := _) rfl (by kernel_rfl) (by kernel_rfl) (by kernel_rfl) (fun _ _ _ h => h) (by rfl) (fun w' hSw => exec_load_mid_cm (.tmp 41) rfl rfl hSw.1) hHeld ?rest5a
    try simp only [Act.put, List.setIfInBounds_toArray, List.set_cons_zero, List.set_cons_succ]
    refine take_yes (i := 6) (v := ?v6a) rfl (by kernel_rfl) (by kernel_rfl) (by kernel_rfl) (fun _ _ _ h => h) (by rfl) ?hy6a hHeld ?rest6a
    case hy6a =>
      intro w' hSw
      obtain ⟨-, r1⟩ := hSw
      go_simp <;> with_reducible rfl
    try simp only [Act.put, List.setIfInBounds_toArray, List.set_cons_zero, List.set_cons_succ]
    refine take_yes (i := 7) (v := ?v7a) rfl (by kernel_rfl) (by kernel_rfl) (by kernel_rfl) (fun _ _ _ h => h) (by rfl) ?hy7a hHeld ?rest7a
    case hy7a =>
      intro w' hSw
      obtain ⟨-, r1⟩ := hSw
      go_simp <;> with_reducible rfl
    try simp only [Act.put, List.setIfInBounds_toArray, List.set_cons_zero, List.set_cons_succ]
    refine take_yes (i := 8) (v := ?v8a) rfl (by kernel_rfl) (by kernel_rfl) (by kernel_rfl) (fun _ _ _ h => h) (by rfl) ?hy8a hHeld ?rest8a
    case hy8a =>
      intro w' hSw
      obtain ⟨-, r1⟩ := hSw
      go_simp <;> with_reducible rfl
    try simp only [Act.put, List.setIfInBounds_toArray, List.set_cons_zero, List.set_cons_succ]
    refine take_yes (i := 9) (v := ?v9a) rfl (by kernel_rfl) (by kernel_rfl) (by kernel_rfl) (fun _ _ _ h => h) (by rfl) ?hy9a hHeld ?rest9a
    case hy9a =>
      intro w' hSw
      obtain ⟨-, r1⟩ := hSw
      go_simp <;> with_reducible rfl
    try simp only [Act.put, List.setIfInBounds_toArray, List.set_cons_zero, List.set_cons_succ]
    refine take_yes (i := 10) (v := ?v10a) rfl (by kernel_rfl) (by kernel_rfl) (by kernel_rfl) (fun _ _ _ h => h) (by rfl) ?hy10a hHeld ?rest10a
    case hy10a =>
      intro w' hSw
      obtain ⟨-, r1⟩ := hSw
      go_simp <;> with_reducible rfl
    try simp only [Act.put, List.setIfInBounds_toArray, List.set_cons_zero, List.set_cons_succ]
    refine take_yes (i := 12) (v := ?v12a) rfl (by kernel_rfl) (by kernel_rfl) (by kernel_rfl) (fun _ _ _ h => h) (by rfl) ?hy12a hHeld ?rest12a
    case hy12a =>
      intro w' hSw
      obtain ⟨-, r1⟩ := hSw
      go_simp <;> with_reducible rfl
    try simp only [Act.put, List.setIfInBounds_toArray, List.set_cons_zero, List.set_cons_succ]
    refine take_yes (i := 13) (v := ?v13a) rfl (by kernel_rfl) (by kernel_rfl) (by kernel_rfl) (fun _ _ _ h => h) (by rfl) ?hy13a hHeld ?rest13a
    case hy13a =>
      intro w' hSw
      obtain ⟨-, r1⟩ := hSw
      go_simp <;> with_reducible rfl
    try simp only [Act.put, List.setIfInBounds_toArray, List.set_cons_zero, List.set_cons_succ]
    refine take_yes (i := 14) (v := ?v14a) rfl (by kernel_rfl) (by kernel_rfl) (by kernel_rfl) (fun _ _ _ h => h) (by rfl) ?hy14a hHeld ?rest14a
    case hy14a =>
      intro w' hSw
      obtain ⟨-, r1⟩ := hSw
      go_simp <;> with_reducible rfl
    try simp only [Act.put, List.setIfInBounds_toArray, List.set_cons_zero, List.set_cons_succ]
    refine take_yes (i := 15) (v := ?v15a) rfl (by kernel_rfl) (by kernel_rfl) (by kernel_rfl) (fun _ _ _ h => h) (by rfl) ?hy15a hHeld ?rest15a
    case hy15a =>
      intro w' hSw
      obtain ⟨-, r1⟩ := hSw
      go_simp <;> with_reducible rfl
    try simp only [Act.put, List.setIfInBounds_toArray, List.set_cons_zero, List.set_cons_succ]
    refine take_yes (i := 16) (v := ?v16a) rfl (by kernel_rfl) (by kernel_rfl) (by kernel_rfl) (fun _ _ _ h => h) (by rfl) ?hy16a hHeld ?rest16a
    case hy16a =>
      intro w' hSw
      obtain ⟨-, r1⟩ := hSw
      go_simp <;> with_reducible rfl
    try simp only [Act.put, List.setIfInBounds_toArray, List.set_cons_zero, List.set_cons_succ]
    refine take_yes (i := 17) (v := _) rfl (by kernel_rfl) (by kernel_rfl) (by kernel_rfl) (fun _ _ _ h => h) (by rfl) (fun w' hSw => exec_load_mid_cm (.tmp 53) rfl rfl hSw.1) hHeld ?rest17a
    try simp only [Act.put, List.setIfInBounds_toArray, List.set_cons_zero, List.set_cons_succ]
    refine take_yes (i := 18) (v := ?v18a) rfl (by kernel_rfl) (by kernel_rfl) (by kernel_rfl) (fun _ _ _ h => h) (by rfl) ?hy18a hHeld ?rest18a
    case hy18a =>
      intro w' hSw
      obtain ⟨-, r1⟩ := hSw
      go_simp <;> with_reducible rfl
    try simp only [Act.put, List.setIfInBounds_toArray, List.set_cons_zero, List.set_cons_succ]
    refine take_yes (i := 19) (v := ?v19a) rfl (by kernel_rfl) (by kernel_rfl) (by kernel_rfl) (fun _ _ _ h => h) (by rfl) ?hy19a hHeld ?rest19a
    case hy19a =>
      intro w' hSw
      obtain ⟨-, r1⟩ := hSw
      go_simp <;> with_reducible rfl
    try simp only [Act.put, List.setIfInBounds_toArray, List.set_cons_zero, List.set_cons_succ]
    refine take_yes (i := 20) (v := ?v20a) rfl (by kernel_rfl) (by kernel_rfl) (by kernel_rfl) (fun _ _ _ h => h) (by rfl) ?hy20a hHeld ?rest20a
    case hy20a =>
      intro w' hSw
      obtain ⟨-, r1⟩ := hSw
      go_simp <;> with_reducible rfl
    try simp only [Act.put, List.setIfInBounds_toArray, List.set_cons_zero, List.set_cons_succ]
    refine take_yes (i := 21) (v := ?v21a) rfl (by kernel_rfl) (by kernel_rfl) (by kernel_rfl) (fun _ _ _ h => h) (by rfl) ?hy21a hHeld ?rest21a
    case hy21a =>
      intro w' hSw
      obtain ⟨-, r1⟩ := hSw
      go_simp <;> with_reducible rfl
    try simp only [Act.put, List.setIfInBounds_toArray, List.set_cons_zero, List.set_cons_succ]
    refine take_yes (i := 22) (v := ?v22a) rfl (by kernel_rfl) (by kernel_rfl) (by kernel_rfl) (fun _ _ _ h => h) (by rfl) ?hy22a hHeld ?rest22a
    case hy22a =>
      intro w' hSw
      obtain ⟨-, r1⟩ := hSw
      go_simp <;> with_reducible rfl
    try simp only [Act.put, List.setIfInBounds_toArray, List.set_cons_zero, List.set_cons_succ]
    refine wpAnyH_ready (rs := [11]) (by kernel_rfl) (by simp) (cons_at (i := 11) rfl (fun K11a hK11a => ?_) AllReadyH.nil)
    go_simp
    go_at_call 10
    with_reducible refine (do_at (HM4.out.later (by first | exact Below.refl _ _ | exact (Below.refl _ _).drew)).bk HCI.out hE hM).mono ?_
    rintro x W5 ⟨rfl, hm5, hb5⟩
    have HM5 := hid hm5
    have D5 := hid (show PB w4.drew g mb pb rb L a10 a11 a30 a31 a32 a33 from HM4.out.drew)
    have HC5 := hid ((HC4.out.later (by first | exact Below.refl _ _ | exact (Below.refl _ _).drew)).but hb5 (by omega))
    have HF5 := hid (D5.out.rf.but hb5 (by omega))
    have KP5 := hid (hb5.at D5.out.pt (by omega))
    have KR5 := hid (hb5.at D5.out.rc (by omega))
    have hBJ := hid (But.below hB4.drew hb5 hgB)
    obtain ⟨hr5, hc5, -⟩ := HCS.out W5 hBJ.out
    clear hb5 hm5 D5 HC4 HM4 hB4 hHeld
    go_wp2_with fail
    refine hK11a.out _ _ ⟨hr5, hc5⟩ (fun hHeld => ?_)
    clear hK11a K11a
    try simp only [Act.put, List.setIfInBounds_toArray, List.set_cons_zero, List.set_cons_succ]
    refine wpAnyH_ready (rs := [23]) (by kernel_rfl) (by simp) (cons_at (i := 23) rfl (fun K23a hK23a => ?_) AllReadyH.nil)
    go_simp
    go_at_call 11
    with_reducible refine (refdo_at HF5.out HCI.out hE hM).mono ?_
    rintro x W6 ⟨rfl, hm6, hb6⟩
    have HM6 := hid (show PB W6 g mb pb rb M a10 a11 a30 a31 a32 a33 from ⟨HM5.out.but hb6 (by omega), hm6, hb6.at KP5.out (by omega), hb6.at KR5.out (by omega)⟩)
    have HC6 := hid (HC5.out.but hb6 (by omega))
    have hBK := hid (But.below hBJ.out hb6 (by omega))
    obtain ⟨hr6, hc6, -⟩ := HCS.out W6 hBK.out
    clear hb6 hm6 HM5 HC5 HF5 KP5 KR5 hBJ hHeld hr5 hc5
    go_wp2_with fail
    refine hK23a.out _ _ ⟨hr6, hc6⟩ (fun hHeld => ?_)
    clear hK23a K23a
    try simp only [Act.put, List.setIfInBounds_toArray, List.set_cons_zero, List.set_cons_succ]
    refine take_yes (i := 24) (v := ?v24a) rfl (by kernel_rfl) (by kernel_rfl) (by kernel_rfl) (fun _ _ _ h => h) (by rfl) ?hy24a hHeld ?rest24a
    case hy24a =>
      intro w' hSw
      obtain ⟨-, r1⟩ := hSw
      go_simp <;> with_reducible rfl
    try simp only [Act.put, List.setIfInBounds_toArray, List.set_cons_zero, List.set_cons_succ]
    refine wpAnyH_done (by kernel_rfl) ?_ _
    clear hHeld hr4 hc4 hEE
    go_wp2_with fail
    refine (watch_do (c := cmW 6 0 999999 0 0 0 0) HC6.out (cmW_sz _ _ _ _ _ _ _) 5).mono ?_
    rintro x W7 ⟨rfl, -, hb7⟩
    have HM7 := hid (show PB W7 g mb pb rb M a10 a11 a30 a31 a32 a33 from ⟨HM6.out.bk.but hb7 (by omega), HM6.out.rf.but hb7 (by omega), hb7.at HM6.out.pt (by omega), hb7.at HM6.out.rc (by omega)⟩)
    have hB7 := But.below hBK.out hb7 (show w.heap.size ≤ gc by omega)
    clear hb7 HM6 HC6 hBK
    go_upto_region 16 with fail
    obtain ⟨W8, hW8⟩ : ∃ W8, W7.alloc (wtO false 0 0 0 0 0 0) = W8 := ⟨_, rfl⟩
    have hb8 : Below W7.heap.size W7 W8 := by rw [← hW8]; exact below1 _ _
    have hw8 := hid (show W8.heap[W7.heap.size]? = some (wtO false 0 0 0 0 0 0) by rw [← hW8]; exact new_at _ _ _ rfl)
    have HM8 := hid (HM7.out.later hb8)
    have hB8 := below_on hB7 hb8
    obtain ⟨wb, hwb⟩ : ∃ wb, W7.heap.size = wb := ⟨_, rfl⟩
    have l5 : mb < wb := by rw [← hwb]; exact HM7.out.rf.lt
    have l6 : w.heap.size ≤ wb := by rw [← hwb]; exact hB7.size
    rw [hwb] at hw8
    try rw [hW8]
    try rw [hwb]
    clear hW8 hwb hb8 hB7 HM7
    obtain ⟨o, ho⟩ : ∃ o, Hid (ofW M a2 = o) := ⟨_, rfl⟩
    obtain ⟨qs, hqs⟩ : ∃ q, Hid (seesB M a2 a10 a11 = q) := ⟨_, rfl⟩
    have hqn : (qs != qs) = false := by simp
    have hq1 := equal_bk HM8.out.bk.len
    have hq2 := equal_wt_at (eqW_self o)
    by_cases hcl : isCl a2 = true
    · obtain ⟨k, rfl, hk⟩ := cl_nat hcl
      have ho2 : M[k]? = some o := by
        obtain ⟨p, hp⟩ := HM8.out.bk.get hk
        rw [hp, ← ho.out]; unfold ofW; rw [if_pos hcl, atW_nat hp]
      obtain ⟨c0, c1, c2, c3, c4, c5, c6⟩ := HM8.out.rf.cell ho2
      have e8 := (cells_at hw8.out).1
      have f8 := (cells_at hw8.out).2
      have d1 : decide (0 ≤ (k : Int)) = true := by simp
      have d2 : decide ((k : Int) < 4) = true := by simp; omega
      have hk' : (k : Int) < 4 := by omega
      clear ho2 hcl
      go_upto_region 18 with fail
      obtain ⟨W9, hW9⟩ : ∃ W9, ((((((W8.setCell ⟨wb, 0, none⟩ (.bool o.on)).setCell ⟨wb, 1, none⟩ (.int .i64 o.s)).setCell ⟨wb, 2, none⟩ (.int .i64 o.st)).setCell ⟨wb, 3, none⟩ (.int .i64 o.r.x0)).setCell ⟨wb, 4, none⟩ (.int .i64 o.r.y0)).setCell ⟨wb, 5, none⟩ (.int .i64 o.r.x1)).setCell ⟨wb, 6, none⟩ (.int .i64 o.r.y1) = W9 := ⟨_, rfl⟩
      have hw9 := hid (show W9.heap[wb]? = some o.o by rw [← hW9]; exact wt_put hw8.out _ _ _ _ _ _ _)
      have hx9 : But wb W8 W9 := by rw [← hW9]; exact But.set7 (But.refl wb W8) _ _ _ _ _ _ _
      have HM9 := hid (show PB W9 g mb pb rb M a10 a11 a30 a31 a32 a33 from ⟨HM8.out.bk.but hx9 (by omega), HM8.out.rf.but hx9 (by omega), hx9.at HM8.out.pt (by omega), hx9.at HM8.out.rc (by omega)⟩)
      have hB9 := But.below hB8 hx9 l6
      try rw [hW9]
      clear hW9 hx9 hw8 HM8 hB8 e8 f8 c0 c1 c2 c3 c4 c5 c6 d1 d2 hk'
      have y1 := HM9.out.rf
      have y2 : W9.cell? ⟨pb, 0, none⟩ = some (.int .i64 a10) := (cells_at HM9.out.pt).1 0
      have y3 : W9.cell? ⟨pb, 1, none⟩ = some (.int .i64 a11) := (cells_at HM9.out.pt).1 1
      have y4 : cells7 W9 wb 0 o := wt_cells hw9.out
      refine wp_region_held_drew (S := fun w' => WB w' mb 35 M ∧ w'.cell? ⟨pb, 0, none⟩ = some (.int .i64 a10) ∧ w'.cell? ⟨pb, 1, none⟩ = some (.int .i64 a11) ∧ cells7 w' wb 0 o ∧ Below W9.heap.size W9 w') (by kernel_rfl) ⟨y1.drew, y2, y3, y4, (Below.refl _ _).drew⟩ (fun hHeld => ?_)
      refine take_yes (i := 0) (v := ?v0b) rfl (by kernel_rfl) (by kernel_rfl) (by kernel_rfl) (fun _ _ _ h => h) (by rfl) ?hy0b hHeld ?rest0b
      case hy0b =>
        intro w' hSw
        obtain ⟨-, r1, r2, ⟨u0, u1, u2, u3, u4, u5, u6⟩, -⟩ := hSw
        go_simp <;> with_reducible rfl
      try simp only [Act.put, List.setIfInBounds_toArray, List.set_cons_zero, List.set_cons_succ]
      refine take_yes (i := 2) (v := ?v2b) rfl (by kernel_rfl) (by kernel_rfl) (by kernel_rfl) (fun _ _ _ h => h) (by rfl) ?hy2b hHeld ?rest2b
      case hy2b =>
        intro w' hSw
        obtain ⟨-, r1, r2, ⟨u0, u1, u2, u3, u4, u5, u6⟩, -⟩ := hSw
        go_simp <;> with_reducible rfl
      try simp only [Act.put, List.setIfInBounds_toArray, List.set_cons_zero, List.set_cons_succ]
      refine take_yes (i := 3) (v := ?v3b) rfl (by kernel_rfl) (by kernel_rfl) (by kernel_rfl) (fun _ _ _ h => h) (by rfl) ?hy3b hHeld ?rest3b
      case hy3b =>
        intro w' hSw
        obtain ⟨-, r1, r2, ⟨u0, u1, u2, u3, u4, u5, u6⟩, -⟩ := hSw
        go_simp <;> with_reducible rfl
      try simp only [Act.put, List.setIfInBounds_toArray, List.set_cons_zero, List.set_cons_succ]
      refine take_yes (i := 4) (v := ?v4b) rfl (by kernel_rfl) (by kernel_rfl) (by kernel_rfl) (fun _ _ _ h => h) (by rfl) ?hy4b hHeld ?rest4b
      case hy4b =>
        intro w' hSw
        obtain ⟨-, r1, r2, ⟨u0, u1, u2, u3, u4, u5, u6⟩, -⟩ := hSw
        go_simp <;> with_reducible rfl
      try simp only [Act.put, List.setIfInBounds_toArray, List.set_cons_zero, List.set_cons_succ]
      refine take_yes (i := 5) (v := _) rfl (by kernel_rfl) (by kernel_rfl) (by kernel_rfl) (fun _ _ _ h => h) (by rfl) (fun w' hSw => exec_load_ar (.tmp 82) rfl rfl hSw.1) hHeld ?rest5b
      try simp only [Act.put, List.setIfInBounds_toArray, List.set_cons_zero, List.set_cons_succ]
      refine wpAnyH_ready (rs := [1]) (by kernel_rfl) (by simp) (cons_at (i := 1) rfl (fun K1b hK1b => ?_) AllReadyH.nil)
      go_simp
      go_at_call 12
      with_reducible refine (watch_all (HM9.out.later (by first | exact Below.refl _ _ | exact (Below.refl _ _).drew)).bk).mono ?_
      rintro x X10 ⟨rfl, hb10⟩
      obtain ⟨z1, z2, z3, z4, z5⟩ := hHeld
      have v5 := z5.trans (hb10.mono z5.size)
      have v1 := z1.later hb10
      have v2 := cell_below hb10 z2
      have v3 := cell_below hb10 z3
      have v4 := cells7_below z4 hb10
      clear hb10 z1 z2 z3 z4 z5
      go_wp2_with fail
      refine hK1b.out _ _ ⟨v1, v2, v3, v4, v5⟩ (fun hHeld => ?_)
      clear hK1b K1b
      try simp only [Act.put, List.setIfInBounds_toArray, List.set_cons_zero, List.set_cons_succ]
      refine take_yes (i := 6) (v := ?v6b) rfl (by kernel_rfl) (by kernel_rfl) (by kernel_rfl) (fun _ _ _ h => h) (by rfl) ?hy6b hHeld ?rest6b
      case hy6b =>
        intro w' hSw
        obtain ⟨-, r1, r2, ⟨u0, u1, u2, u3, u4, u5, u6⟩, -⟩ := hSw
        go_simp <;> with_reducible rfl
      try simp only [Act.put, List.setIfInBounds_toArray, List.set_cons_zero, List.set_cons_succ]
      refine take_yes (i := 7) (v := ?v7b) rfl (by kernel_rfl) (by kernel_rfl) (by kernel_rfl) (fun _ _ _ h => h) (by rfl) ?hy7b hHeld ?rest7b
      case hy7b =>
        intro w' hSw
        obtain ⟨-, r1, r2, ⟨u0, u1, u2, u3, u4, u5, u6⟩, -⟩ := hSw
        go_simp <;> with_reducible rfl
      try simp only [Act.put, List.setIfInBounds_toArray, List.set_cons_zero, List.set_cons_succ]
      refine take_yes (i := 8) (v := ?v8b) rfl (by kernel_rfl) (by kernel_rfl) (by kernel_rfl) (fun _ _ _ h => h) (by rfl) ?hy8b hHeld ?rest8b
      case hy8b =>
        intro w' hSw
        obtain ⟨-, r1, r2, ⟨u0, u1, u2, u3, u4, u5, u6⟩, -⟩ := hSw
        go_simp <;> with_reducible rfl
      try simp only [Act.put, List.setIfInBounds_toArray, List.set_cons_zero, List.set_cons_succ]
      refine take_yes (i := 9) (v := ?v9b) rfl (by kernel_rfl) (by kernel_rfl) (by kernel_rfl) (fun _ _ _ h => h) (by rfl) ?hy9b hHeld ?rest9b
      case hy9b =>
        intro w' hSw
        obtain ⟨-, r1, r2, ⟨u0, u1, u2, u3, u4, u5, u6⟩, -⟩ := hSw
        go_simp <;> with_reducible rfl
      try simp only [Act.put, List.setIfInBounds_toArray, List.set_cons_zero, List.set_cons_succ]
      refine take_yes (i := 10) (v := ?v10b) rfl (by kernel_rfl) (by kernel_rfl) (by kernel_rfl) (fun _ _ _ h => h) (by rfl) ?hy10b hHeld ?rest10b
      case hy10b =>
        intro w' hSw
        obtain ⟨-, r1, r2, ⟨u0, u1, u2, u3, u4, u5, u6⟩, -⟩ := hSw
        go_simp <;> with_reducible rfl
      try simp only [Act.put, List.setIfInBounds_toArray, List.set_cons_zero, List.set_cons_succ]
      refine take_yes (i := 12) (v := ?v12b) rfl (by kernel_rfl) (by kernel_rfl) (by kernel_rfl) (fun _ _ _ h => h) (by rfl) ?hy12b hHeld ?rest12b
      case hy12b =>
        intro w' hSw
        obtain ⟨-, r1, r2, ⟨u0, u1, u2, u3, u4, u5, u6⟩, -⟩ := hSw
        go_simp <;> with_reducible rfl
      try simp only [Act.put, List.setIfInBounds_toArray, List.set_cons_zero, List.set_cons_succ]
      refine take_yes (i := 13) (v := ?v13b) rfl (by kernel_rfl) (by kernel_rfl) (by kernel_rfl) (fun _ _ _ h => h) (by rfl) ?hy13b hHeld ?rest13b
      case hy13b =>
        intro w' hSw
        obtain ⟨-, r1, r2, ⟨u0, u1, u2, u3, u4, u5, u6⟩, -⟩ := hSw
        go_simp <;> with_reducible rfl
      try simp only [Act.put, List.setIfInBounds_toArray, List.set_cons_zero, List.set_cons_succ]
      refine take_yes (i := 14) (v := ?v14b) rfl (by kernel_rfl) (by kernel_rfl) (by kernel_rfl) (fun _ _ _ h => h) (by rfl) ?hy14b hHeld ?rest14b
      case hy14b =>
        intro w' hSw
        obtain ⟨-, r1, r2, ⟨u0, u1, u2, u3, u4, u5, u6⟩, -⟩ := hSw
        go_simp <;> with_reducible rfl
      try simp only [Act.put, List.setIfInBounds_toArray, List.set_cons_zero, List.set_cons_succ]
      refine wpAnyH_ready (rs := [11]) (by kernel_rfl) (by simp) (cons_at (i := 11) rfl (fun K11b hK11b => ?_) AllReadyH.nil)
      go_simp
      go_at_call 13
      with_reducible refine (watch_sees_at (HM9.out.later hHeld.2.2.2.2).bk hqs).mono ?_
      rintro x X11 ⟨rfl, hb11⟩
      obtain ⟨z1, z2, z3, z4, z5⟩ := hHeld
      have v5 := z5.trans (hb11.mono z5.size)
      have v1 := z1.later hb11
      have v2 := cell_below hb11 z2
      have v3 := cell_below hb11 z3
      have v4 := cells7_below z4 hb11
      clear hb11 z1 z2 z3 z4 z5
      go_wp2_with fail
      refine hK11b.out _ _ ⟨v1, v2, v3, v4, v5⟩ (fun hHeld => ?_)
      clear hK11b K11b
      try simp only [Act.put, List.setIfInBounds_toArray, List.set_cons_zero, List.set_cons_succ]
      refine wpAnyH_ready (rs := [15]) (by kernel_rfl) (by simp) (cons_at (i := 15) rfl (fun K15b hK15b => ?_) AllReadyH.nil)
      go_simp
      go_at_call 14
      with_reducible refine (ref_sees_at (HM9.out.later hHeld.2.2.2.2).rf hqs).mono ?_
      rintro x X12 ⟨rfl, hb12⟩
      obtain ⟨z1, z2, z3, z4, z5⟩ := hHeld
      have v5 := z5.trans (hb12.mono z5.size)
      have v1 := z1.later hb12
      have v2 := cell_below hb12 z2
      have v3 := cell_below hb12 z3
      have v4 := cells7_below z4 hb12
      clear hb12 z1 z2 z3 z4 z5
      go_wp2_with fail
      refine hK15b.out _ _ ⟨v1, v2, v3, v4, v5⟩ (fun hHeld => ?_)
      clear hK15b K15b
      try simp only [Act.put, List.setIfInBounds_toArray, List.set_cons_zero, List.set_cons_succ]
      refine take_yes (i := 16) (v := ?v16b) rfl (by kernel_rfl) (by kernel_rfl) (by kernel_rfl) (fun _ _ _ h => h) (by rfl) ?hy16b hHeld ?rest16b
      case hy16b =>
        intro w' hSw
        obtain ⟨-, r1, r2, ⟨u0, u1, u2, u3, u4, u5, u6⟩, -⟩ := hSw
        go_simp <;> with_reducible rfl
      try simp only [Act.put, List.setIfInBounds_toArray, List.set_cons_zero, List.set_cons_succ]
      refine take_yes (i := 17) (v := ?v17b) rfl (by kernel_rfl) (by kernel_rfl) (by kernel_rfl) (fun _ _ _ h => h) (by rfl) ?hy17b hHeld ?rest17b
      case hy17b =>
        intro w' hSw
        obtain ⟨-, r1, r2, ⟨u0, u1, u2, u3, u4, u5, u6⟩, -⟩ := hSw
        go_simp <;> with_reducible rfl
      try simp only [Act.put, List.setIfInBounds_toArray, List.set_cons_zero, List.set_cons_succ]
      refine take_yes (i := 18) (v := ?v18b) rfl (by kernel_rfl) (by kernel_rfl) (by kernel_rfl) (fun _ _ _ h => h) (by rfl) ?hy18b hHeld ?rest18b
      case hy18b =>
        intro w' hSw
        obtain ⟨-, r1, r2, ⟨u0, u1, u2, u3, u4, u5, u6⟩, -⟩ := hSw
        go_simp <;> with_reducible rfl
      try simp only [Act.put, List.setIfInBounds_toArray, List.set_cons_zero, List.set_cons_succ]
      refine take_yes (i := 19) (v := ?v19b) rfl (by kernel_rfl) (by kernel_rfl) (by kernel_rfl) (fun _ _ _ h => h) (by rfl) ?hy19b hHeld ?rest19b
      case hy19b =>
        intro w' hSw
        obtain ⟨-, r1, r2, ⟨u0, u1, u2, u3, u4, u5, u6⟩, -⟩ := hSw
        go_simp <;> with_reducible rfl
      try simp only [Act.put, List.setIfInBounds_toArray, List.set_cons_zero, List.set_cons_succ]
      refine take_yes (i := 20) (v := ?v20b) rfl (by kernel_rfl) (by kernel_rfl) (by kernel_rfl) (fun _ _ _ h => h) (by rfl) ?hy20b hHeld ?rest20b
      case hy20b =>
        intro w' hSw
        obtain ⟨-, r1, r2, ⟨u0, u1, u2, u3, u4, u5, u6⟩, -⟩ := hSw
        go_simp <;> with_reducible rfl
      try simp only [Act.put, List.setIfInBounds_toArray, List.set_cons_zero, List.set_cons_succ]
      refine take_yes (i := 22) (v := ?v22b) rfl (by kernel_rfl) (by kernel_rfl) (by kernel_rfl) (fun _ _ _ h => h) (by rfl) ?hy22b hHeld ?rest22b
      case hy22b =>
        intro w' hSw
        obtain ⟨-, r1, r2, ⟨u0, u1, u2, u3, u4, u5, u6⟩, -⟩ := hSw
        go_simp <;> with_reducible rfl
      try simp only [Act.put, List.setIfInBounds_toArray, List.set_cons_zero, List.set_cons_succ]
      refine wpAnyH_ready (rs := [21]) (by kernel_rfl) (by simp) (cons_at (i := 21) rfl (fun K21b hK21b => ?_) AllReadyH.nil)
      go_simp
      go_at_call 15
      with_reducible refine (watch_of_at (HM9.out.later hHeld.2.2.2.2).bk ho).mono ?_
      rintro x X13 ⟨rfl, hb13⟩
      obtain ⟨z1, z2, z3, z4, z5⟩ := hHeld
      have v5 := z5.trans (hb13.mono z5.size)
      have v1 := z1.later hb13
      have v2 := cell_below hb13 z2
      have v3 := cell_below hb13 z3
      have v4 := cells7_below z4 hb13
      clear hb13 z1 z2 z3 z4 z5
      go_wp2_with fail
      refine hK21b.out _ _ ⟨v1, v2, v3, v4, v5⟩ (fun hHeld => ?_)
      clear hK21b K21b
      try simp only [Act.put, List.setIfInBounds_toArray, List.set_cons_zero, List.set_cons_succ]
      refine take_yes (i := 23) (v := ?v23b) rfl (by kernel_rfl) (by kernel_rfl) (by kernel_rfl) (fun _ _ _ h => h) (by rfl) ?hy23b hHeld ?rest23b
      case hy23b =>
        intro w' hSw
        obtain ⟨-, r1, r2, ⟨u0, u1, u2, u3, u4, u5, u6⟩, -⟩ := hSw
        go_simp <;> with_reducible rfl
      try simp only [Act.put, List.setIfInBounds_toArray, List.set_cons_zero, List.set_cons_succ]
      refine take_yes (i := 24) (v := ?v24b) rfl (by kernel_rfl) (by kernel_rfl) (by kernel_rfl) (fun _ _ _ h => h) (by rfl) ?hy24b hHeld ?rest24b
      case hy24b =>
        intro w' hSw
        obtain ⟨-, r1, r2, ⟨u0, u1, u2, u3, u4, u5, u6⟩, -⟩ := hSw
        go_simp <;> with_reducible rfl
      try simp only [Act.put, List.setIfInBounds_toArray, List.set_cons_zero, List.set_cons_succ]
      refine wpAnyH_done (by kernel_rfl) ?_ _
      obtain ⟨-, -, -, -, hb11⟩ := hHeld
      clear y1 y2 y3 y4
      go_wp2_with fail
      go_roundw
      case rel => exact ⟨i + 1, M, by omega, by go_num, HM9.out.later hb11, below_on hB9 hb11⟩
      case measure => simp [intOf]; omega
    · obtain rfl : noW = o := by rw [← ho.out]; unfold ofW; rw [if_neg hcl]
      have hcl' : decide (0 ≤ a2) = false ∨ decide (0 ≤ a2) = true ∧ decide (a2 < 4) = false := by simp [isCl] at hcl ⊢; omega
      clear hcl
      have hw9 := hid (show W8.heap[wb]? = some noW.o from hw8.out)
      have HM9 := hid HM8.out
      have hB9 := hB8
      rcases hcl' with d1 | ⟨d1, d2⟩
      · clear hw8 HM8 hB8
        go_upto_region 18 with fail
        clear d1
        have y1 := HM9.out.rf
        have y2 : W8.cell? ⟨pb, 0, none⟩ = some (.int .i64 a10) := (cells_at HM9.out.pt).1 0
        have y3 : W8.cell? ⟨pb, 1, none⟩ = some (.int .i64 a11) := (cells_at HM9.out.pt).1 1
        have y4 : cells7 W8 wb 0 noW := wt_cells hw9.out
        refine wp_region_held_drew (S := fun w' => WB w' mb 35 M ∧ w'.cell? ⟨pb, 0, none⟩ = some (.int .i64 a10) ∧ w'.cell? ⟨pb, 1, none⟩ = some (.int .i64 a11) ∧ cells7 w' wb 0 noW ∧ Below W8.heap.size W8 w') (by kernel_rfl) ⟨y1.drew, y2, y3, y4, (Below.refl _ _).drew⟩ (fun hHeld => ?_)
        refine take_yes (i := 0) (v := ?v0c) rfl (by kernel_rfl) (by kernel_rfl) (by kernel_rfl) (fun _ _ _ h => h) (by rfl) ?hy0c hHeld ?rest0c
        case hy0c =>
          intro w' hSw
          obtain ⟨-, r1, r2, ⟨u0, u1, u2, u3, u4, u5, u6⟩, -⟩ := hSw
          go_simp <;> with_reducible rfl
        try simp only [Act.put, List.setIfInBounds_toArray, List.set_cons_zero, List.set_cons_succ]
        refine take_yes (i := 2) (v := ?v2c) rfl (by kernel_rfl) (by kernel_rfl) (by kernel_rfl) (fun _ _ _ h => h) (by rfl) ?hy2c hHeld ?rest2c
        case hy2c =>
          intro w' hSw
          obtain ⟨-, r1, r2, ⟨u0, u1, u2, u3, u4, u5, u6⟩, -⟩ := hSw
          go_simp <;> with_reducible rfl
        try simp only [Act.put, List.setIfInBounds_toArray, List.set_cons_zero, List.set_cons_succ]
        refine take_yes (i := 3) (v := ?v3c) rfl (by kernel_rfl) (by kernel_rfl) (by kernel_rfl) (fun _ _ _ h => h) (by rfl) ?hy3c hHeld ?rest3c
        case hy3c =>
          intro w' hSw
          obtain ⟨-, r1, r2, ⟨u0, u1, u2, u3, u4, u5, u6⟩, -⟩ := hSw
          go_simp <;> with_reducible rfl
        try simp only [Act.put, List.setIfInBounds_toArray, List.set_cons_zero, List.set_cons_succ]
        refine take_yes (i := 4) (v := ?v4c) rfl (by kernel_rfl) (by kernel_rfl) (by kernel_rfl) (fun _ _ _ h => h) (by rfl) ?hy4c hHeld ?rest4c
        case hy4c =>
          intro w' hSw
          obtain ⟨-, r1, r2, ⟨u0, u1, u2, u3, u4, u5, u6⟩, -⟩ := hSw
          go_simp <;> with_reducible rfl
        try simp only [Act.put, List.setIfInBounds_toArray, List.set_cons_zero, List.set_cons_succ]
        refine take_yes (i := 5) (v := _) rfl (by kernel_rfl) (by kernel_rfl) (by kernel_rfl) (fun _ _ _ h => h) (by rfl) (fun w' hSw => exec_load_ar (.tmp 82) rfl rfl hSw.1) hHeld ?rest5c
        try simp only [Act.put, List.setIfInBounds_toArray, List.set_cons_zero, List.set_cons_succ]
        refine wpAnyH_ready (rs := [1]) (by kernel_rfl) (by simp) (cons_at (i := 1) rfl (fun K1c hK1c => ?_) AllReadyH.nil)
        go_simp
        go_at_call 12
        with_reducible refine (watch_all (HM9.out.later (by first | exact Below.refl _ _ | exact (Below.refl _ _).drew)).bk).mono ?_
        rintro x X10 ⟨rfl, hb10⟩
        obtain ⟨z1, z2, z3, z4, z5⟩ := hHeld
        have v5 := z5.trans (hb10.mono z5.size)
        have v1 := z1.later hb10
        have v2 := cell_below hb10 z2
        have v3 := cell_below hb10 z3
        have v4 := cells7_below z4 hb10
        clear hb10 z1 z2 z3 z4 z5
        go_wp2_with fail
        refine hK1c.out _ _ ⟨v1, v2, v3, v4, v5⟩ (fun hHeld => ?_)
        clear hK1c K1c
        try simp only [Act.put, List.setIfInBounds_toArray, List.set_cons_zero, List.set_cons_succ]
        refine take_yes (i := 6) (v := ?v6c) rfl (by kernel_rfl) (by kernel_rfl) (by kernel_rfl) (fun _ _ _ h => h) (by rfl) ?hy6c hHeld ?rest6c
        case hy6c =>
          intro w' hSw
          obtain ⟨-, r1, r2, ⟨u0, u1, u2, u3, u4, u5, u6⟩, -⟩ := hSw
          go_simp <;> with_reducible rfl
        try simp only [Act.put, List.setIfInBounds_toArray, List.set_cons_zero, List.set_cons_succ]
        refine take_yes (i := 7) (v := ?v7c) rfl (by kernel_rfl) (by kernel_rfl) (by kernel_rfl) (fun _ _ _ h => h) (by rfl) ?hy7c hHeld ?rest7c
        case hy7c =>
          intro w' hSw
          obtain ⟨-, r1, r2, ⟨u0, u1, u2, u3, u4, u5, u6⟩, -⟩ := hSw
          go_simp <;> with_reducible rfl
        try simp only [Act.put, List.setIfInBounds_toArray, List.set_cons_zero, List.set_cons_succ]
        refine take_yes (i := 8) (v := ?v8c) rfl (by kernel_rfl) (by kernel_rfl) (by kernel_rfl) (fun _ _ _ h => h) (by rfl) ?hy8c hHeld ?rest8c
        case hy8c =>
          intro w' hSw
          obtain ⟨-, r1, r2, ⟨u0, u1, u2, u3, u4, u5, u6⟩, -⟩ := hSw
          go_simp <;> with_reducible rfl
        try simp only [Act.put, List.setIfInBounds_toArray, List.set_cons_zero, List.set_cons_succ]
        refine take_yes (i := 9) (v := ?v9c) rfl (by kernel_rfl) (by kernel_rfl) (by kernel_rfl) (fun _ _ _ h => h) (by rfl) ?hy9c hHeld ?rest9c
        case hy9c =>
          intro w' hSw
          obtain ⟨-, r1, r2, ⟨u0, u1, u2, u3, u4, u5, u6⟩, -⟩ := hSw
          go_simp <;> with_reducible rfl
        try simp only [Act.put, List.setIfInBounds_toArray, List.set_cons_zero, List.set_cons_succ]
        refine take_yes (i := 10) (v := ?v10c) rfl (by kernel_rfl) (by kernel_rfl) (by kernel_rfl) (fun _ _ _ h => h) (by rfl) ?hy10c hHeld ?rest10c
        case hy10c =>
          intro w' hSw
          obtain ⟨-, r1, r2, ⟨u0, u1, u2, u3, u4, u5, u6⟩, -⟩ := hSw
          go_simp <;> with_reducible rfl
        try simp only [Act.put, List.setIfInBounds_toArray, List.set_cons_zero, List.set_cons_succ]
        refine take_yes (i := 12) (v := ?v12c) rfl (by kernel_rfl) (by kernel_rfl) (by kernel_rfl) (fun _ _ _ h => h) (by rfl) ?hy12c hHeld ?rest12c
        case hy12c =>
          intro w' hSw
          obtain ⟨-, r1, r2, ⟨u0, u1, u2, u3, u4, u5, u6⟩, -⟩ := hSw
          go_simp <;> with_reducible rfl
        try simp only [Act.put, List.setIfInBounds_toArray, List.set_cons_zero, List.set_cons_succ]
        refine take_yes (i := 13) (v := ?v13c) rfl (by kernel_rfl) (by kernel_rfl) (by kernel_rfl) (fun _ _ _ h => h) (by rfl) ?hy13c hHeld ?rest13c
        case hy13c =>
          intro w' hSw
          obtain ⟨-, r1, r2, ⟨u0, u1, u2, u3, u4, u5, u6⟩, -⟩ := hSw
          go_simp <;> with_reducible rfl
        try simp only [Act.put, List.setIfInBounds_toArray, List.set_cons_zero, List.set_cons_succ]
        refine take_yes (i := 14) (v := ?v14c) rfl (by kernel_rfl) (by kernel_rfl) (by kernel_rfl) (fun _ _ _ h => h) (by rfl) ?hy14c hHeld ?rest14c
        case hy14c =>
          intro w' hSw
          obtain ⟨-, r1, r2, ⟨u0, u1, u2, u3, u4, u5, u6⟩, -⟩ := hSw
          go_simp <;> with_reducible rfl
        try simp only [Act.put, List.setIfInBounds_toArray, List.set_cons_zero, List.set_cons_succ]
        refine wpAnyH_ready (rs := [11]) (by kernel_rfl) (by simp) (cons_at (i := 11) rfl (fun K11c hK11c => ?_) AllReadyH.nil)
        go_simp
        go_at_call 13
        with_reducible refine (watch_sees_at (HM9.out.later hHeld.2.2.2.2).bk hqs).mono ?_
        rintro x X11 ⟨rfl, hb11⟩
        obtain ⟨z1, z2, z3, z4, z5⟩ := hHeld
        have v5 := z5.trans (hb11.mono z5.size)
        have v1 := z1.later hb11
        have v2 := cell_below hb11 z2
        have v3 := cell_below hb11 z3
        have v4 := cells7_below z4 hb11
        clear hb11 z1 z2 z3 z4 z5
        go_wp2_with fail
        refine hK11c.out _ _ ⟨v1, v2, v3, v4, v5⟩ (fun hHeld => ?_)
        clear hK11c K11c
        try simp only [Act.put, List.setIfInBounds_toArray, List.set_cons_zero, List.set_cons_succ]
        refine wpAnyH_ready (rs := [15]) (by kernel_rfl) (by simp) (cons_at (i := 15) rfl (fun K15c hK15c => ?_) AllReadyH.nil)
        go_simp
        go_at_call 14
        with_reducible refine (ref_sees_at (HM9.out.later hHeld.2.2.2.2).rf hqs).mono ?_
        rintro x X12 ⟨rfl, hb12⟩
        obtain ⟨z1, z2, z3, z4, z5⟩ := hHeld
        have v5 := z5.trans (hb12.mono z5.size)
        have v1 := z1.later hb12
        have v2 := cell_below hb12 z2
        have v3 := cell_below hb12 z3
        have v4 := cells7_below z4 hb12
        clear hb12 z1 z2 z3 z4 z5
        go_wp2_with fail
        refine hK15c.out _ _ ⟨v1, v2, v3, v4, v5⟩ (fun hHeld => ?_)
        clear hK15c K15c
        try simp only [Act.put, List.setIfInBounds_toArray, List.set_cons_zero, List.set_cons_succ]
        refine take_yes (i := 16) (v := ?v16c) rfl (by kernel_rfl) (by kernel_rfl) (by kernel_rfl) (fun _ _ _ h => h) (by rfl) ?hy16c hHeld ?rest16c
        case hy16c =>
          intro w' hSw
          obtain ⟨-, r1, r2, ⟨u0, u1, u2, u3, u4, u5, u6⟩, -⟩ := hSw
          go_simp <;> with_reducible rfl
        try simp only [Act.put, List.setIfInBounds_toArray, List.set_cons_zero, List.set_cons_succ]
        refine take_yes (i := 17) (v := ?v17c) rfl (by kernel_rfl) (by kernel_rfl) (by kernel_rfl) (fun _ _ _ h => h) (by rfl) ?hy17c hHeld ?rest17c
        case hy17c =>
          intro w' hSw
          obtain ⟨-, r1, r2, ⟨u0, u1, u2, u3, u4, u5, u6⟩, -⟩ := hSw
          go_simp <;> with_reducible rfl
        try simp only [Act.put, List.setIfInBounds_toArray, List.set_cons_zero, List.set_cons_succ]
        refine take_yes (i := 18) (v := ?v18c) rfl (by kernel_rfl) (by kernel_rfl) (by kernel_rfl) (fun _ _ _ h => h) (by rfl) ?hy18c hHeld ?rest18c
        case hy18c =>
          intro w' hSw
          obtain ⟨-, r1, r2, ⟨u0, u1, u2, u3, u4, u5, u6⟩, -⟩ := hSw
          go_simp <;> with_reducible rfl
        try simp only [Act.put, List.setIfInBounds_toArray, List.set_cons_zero, List.set_cons_succ]
        refine take_yes (i := 19) (v := ?v19c) rfl (by kernel_rfl) (by kernel_rfl) (by kernel_rfl) (fun _ _ _ h => h) (by rfl) ?hy19c hHeld ?rest19c
        case hy19c =>
          intro w' hSw
          obtain ⟨-, r1, r2, ⟨u0, u1, u2, u3, u4, u5, u6⟩, -⟩ := hSw
          go_simp <;> with_reducible rfl
        try simp only [Act.put, List.setIfInBounds_toArray, List.set_cons_zero, List.set_cons_succ]
        refine take_yes (i := 20) (v := ?v20c) rfl (by kernel_rfl) (by kernel_rfl) (by kernel_rfl) (fun _ _ _ h => h) (by rfl) ?hy20c hHeld ?rest20c
        case hy20c =>
          intro w' hSw
          obtain ⟨-, r1, r2, ⟨u0, u1, u2, u3, u4, u5, u6⟩, -⟩ := hSw
          go_simp <;> with_reducible rfl
        try simp only [Act.put, List.setIfInBounds_toArray, List.set_cons_zero, List.set_cons_succ]
        refine take_yes (i := 22) (v := ?v22c) rfl (by kernel_rfl) (by kernel_rfl) (by kernel_rfl) (fun _ _ _ h => h) (by rfl) ?hy22c hHeld ?rest22c
        case hy22c =>
          intro w' hSw
          obtain ⟨-, r1, r2, ⟨u0, u1, u2, u3, u4, u5, u6⟩, -⟩ := hSw
          go_simp <;> with_reducible rfl
        try simp only [Act.put, List.setIfInBounds_toArray, List.set_cons_zero, List.set_cons_succ]
        refine wpAnyH_ready (rs := [21]) (by kernel_rfl) (by simp) (cons_at (i := 21) rfl (fun K21c hK21c => ?_) AllReadyH.nil)
        go_simp
        go_at_call 15
        with_reducible refine (watch_of_at (HM9.out.later hHeld.2.2.2.2).bk ho).mono ?_
        rintro x X13 ⟨rfl, hb13⟩
        obtain ⟨z1, z2, z3, z4, z5⟩ := hHeld
        have v5 := z5.trans (hb13.mono z5.size)
        have v1 := z1.later hb13
        have v2 := cell_below hb13 z2
        have v3 := cell_below hb13 z3
        have v4 := cells7_below z4 hb13
        clear hb13 z1 z2 z3 z4 z5
        go_wp2_with fail
        refine hK21c.out _ _ ⟨v1, v2, v3, v4, v5⟩ (fun hHeld => ?_)
        clear hK21c K21c
        try simp only [Act.put, List.setIfInBounds_toArray, List.set_cons_zero, List.set_cons_succ]
        refine take_yes (i := 23) (v := ?v23c) rfl (by kernel_rfl) (by kernel_rfl) (by kernel_rfl) (fun _ _ _ h => h) (by rfl) ?hy23c hHeld ?rest23c
        case hy23c =>
          intro w' hSw
          obtain ⟨-, r1, r2, ⟨u0, u1, u2, u3, u4, u5, u6⟩, -⟩ := hSw
          go_simp <;> with_reducible rfl
        try simp only [Act.put, List.setIfInBounds_toArray, List.set_cons_zero, List.set_cons_succ]
        refine take_yes (i := 24) (v := ?v24c) rfl (by kernel_rfl) (by kernel_rfl) (by kernel_rfl) (fun _ _ _ h => h) (by rfl) ?hy24c hHeld ?rest24c
        case hy24c =>
          intro w' hSw
          obtain ⟨-, r1, r2, ⟨u0, u1, u2, u3, u4, u5, u6⟩, -⟩ := hSw
          go_simp <;> with_reducible rfl
        try simp only [Act.put, List.setIfInBounds_toArray, List.set_cons_zero, List.set_cons_succ]
        refine wpAnyH_done (by kernel_rfl) ?_ _
        obtain ⟨-, -, -, -, hb11⟩ := hHeld
        clear y1 y2 y3 y4
        go_wp2_with fail
        go_roundw
        case rel => exact ⟨i + 1, M, by omega, by go_num, HM9.out.later hb11, below_on hB9 hb11⟩
        case measure => simp [intOf]; omega
      · clear hw8 HM8 hB8
        go_upto_region 18 with fail
        clear d1 d2
        have y1 := HM9.out.rf
        have y2 : W8.cell? ⟨pb, 0, none⟩ = some (.int .i64 a10) := (cells_at HM9.out.pt).1 0
        have y3 : W8.cell? ⟨pb, 1, none⟩ = some (.int .i64 a11) := (cells_at HM9.out.pt).1 1
        have y4 : cells7 W8 wb 0 noW := wt_cells hw9.out
        refine wp_region_held_drew (S := fun w' => WB w' mb 35 M ∧ w'.cell? ⟨pb, 0, none⟩ = some (.int .i64 a10) ∧ w'.cell? ⟨pb, 1, none⟩ = some (.int .i64 a11) ∧ cells7 w' wb 0 noW ∧ Below W8.heap.size W8 w') (by kernel_rfl) ⟨y1.drew, y2, y3, y4, (Below.refl _ _).drew⟩ (fun hHeld => ?_)
        refine take_yes (i := 0) (v := ?v0d) rfl (by kernel_rfl) (by kernel_rfl) (by kernel_rfl) (fun _ _ _ h => h) (by rfl) ?hy0d hHeld ?rest0d
        case hy0d =>
          intro w' hSw
          obtain ⟨-, r1, r2, ⟨u0, u1, u2, u3, u4, u5, u6⟩, -⟩ := hSw
          go_simp <;> with_reducible rfl
        try simp only [Act.put, List.setIfInBounds_toArray, List.set_cons_zero, List.set_cons_succ]
        refine take_yes (i := 2) (v := ?v2d) rfl (by kernel_rfl) (by kernel_rfl) (by kernel_rfl) (fun _ _ _ h => h) (by rfl) ?hy2d hHeld ?rest2d
        case hy2d =>
          intro w' hSw
          obtain ⟨-, r1, r2, ⟨u0, u1, u2, u3, u4, u5, u6⟩, -⟩ := hSw
          go_simp <;> with_reducible rfl
        try simp only [Act.put, List.setIfInBounds_toArray, List.set_cons_zero, List.set_cons_succ]
        refine take_yes (i := 3) (v := ?v3d) rfl (by kernel_rfl) (by kernel_rfl) (by kernel_rfl) (fun _ _ _ h => h) (by rfl) ?hy3d hHeld ?rest3d
        case hy3d =>
          intro w' hSw
          obtain ⟨-, r1, r2, ⟨u0, u1, u2, u3, u4, u5, u6⟩, -⟩ := hSw
          go_simp <;> with_reducible rfl
        try simp only [Act.put, List.setIfInBounds_toArray, List.set_cons_zero, List.set_cons_succ]
        refine take_yes (i := 4) (v := ?v4d) rfl (by kernel_rfl) (by kernel_rfl) (by kernel_rfl) (fun _ _ _ h => h) (by rfl) ?hy4d hHeld ?rest4d
        case hy4d =>
          intro w' hSw
          obtain ⟨-, r1, r2, ⟨u0, u1, u2, u3, u4, u5, u6⟩, -⟩ := hSw
          go_simp <;> with_reducible rfl
        try simp only [Act.put, List.setIfInBounds_toArray, List.set_cons_zero, List.set_cons_succ]
        refine take_yes (i := 5) (v := _) rfl (by kernel_rfl) (by kernel_rfl) (by kernel_rfl) (fun _ _ _ h => h) (by rfl) (fun w' hSw => exec_load_ar (.tmp 82) rfl rfl hSw.1) hHeld ?rest5d
        try simp only [Act.put, List.setIfInBounds_toArray, List.set_cons_zero, List.set_cons_succ]
        refine wpAnyH_ready (rs := [1]) (by kernel_rfl) (by simp) (cons_at (i := 1) rfl (fun K1d hK1d => ?_) AllReadyH.nil)
        go_simp
        go_at_call 12
        with_reducible refine (watch_all (HM9.out.later (by first | exact Below.refl _ _ | exact (Below.refl _ _).drew)).bk).mono ?_
        rintro x X10 ⟨rfl, hb10⟩
        obtain ⟨z1, z2, z3, z4, z5⟩ := hHeld
        have v5 := z5.trans (hb10.mono z5.size)
        have v1 := z1.later hb10
        have v2 := cell_below hb10 z2
        have v3 := cell_below hb10 z3
        have v4 := cells7_below z4 hb10
        clear hb10 z1 z2 z3 z4 z5
        go_wp2_with fail
        refine hK1d.out _ _ ⟨v1, v2, v3, v4, v5⟩ (fun hHeld => ?_)
        clear hK1d K1d
        try simp only [Act.put, List.setIfInBounds_toArray, List.set_cons_zero, List.set_cons_succ]
        refine take_yes (i := 6) (v := ?v6d) rfl (by kernel_rfl) (by kernel_rfl) (by kernel_rfl) (fun _ _ _ h => h) (by rfl) ?hy6d hHeld ?rest6d
        case hy6d =>
          intro w' hSw
          obtain ⟨-, r1, r2, ⟨u0, u1, u2, u3, u4, u5, u6⟩, -⟩ := hSw
          go_simp <;> with_reducible rfl
        try simp only [Act.put, List.setIfInBounds_toArray, List.set_cons_zero, List.set_cons_succ]
        refine take_yes (i := 7) (v := ?v7d) rfl (by kernel_rfl) (by kernel_rfl) (by kernel_rfl) (fun _ _ _ h => h) (by rfl) ?hy7d hHeld ?rest7d
        case hy7d =>
          intro w' hSw
          obtain ⟨-, r1, r2, ⟨u0, u1, u2, u3, u4, u5, u6⟩, -⟩ := hSw
          go_simp <;> with_reducible rfl
        try simp only [Act.put, List.setIfInBounds_toArray, List.set_cons_zero, List.set_cons_succ]
        refine take_yes (i := 8) (v := ?v8d) rfl (by kernel_rfl) (by kernel_rfl) (by kernel_rfl) (fun _ _ _ h => h) (by rfl) ?hy8d hHeld ?rest8d
        case hy8d =>
          intro w' hSw
          obtain ⟨-, r1, r2, ⟨u0, u1, u2, u3, u4, u5, u6⟩, -⟩ := hSw
          go_simp <;> with_reducible rfl
        try simp only [Act.put, List.setIfInBounds_toArray, List.set_cons_zero, List.set_cons_succ]
        refine take_yes (i := 9) (v := ?v9d) rfl (by kernel_rfl) (by kernel_rfl) (by kernel_rfl) (fun _ _ _ h => h) (by rfl) ?hy9d hHeld ?rest9d
        case hy9d =>
          intro w' hSw
          obtain ⟨-, r1, r2, ⟨u0, u1, u2, u3, u4, u5, u6⟩, -⟩ := hSw
          go_simp <;> with_reducible rfl
        try simp only [Act.put, List.setIfInBounds_toArray, List.set_cons_zero, List.set_cons_succ]
        refine take_yes (i := 10) (v := ?v10d) rfl (by kernel_rfl) (by kernel_rfl) (by kernel_rfl) (fun _ _ _ h => h) (by rfl) ?hy10d hHeld ?rest10d
        case hy10d =>
          intro w' hSw
          obtain ⟨-, r1, r2, ⟨u0, u1, u2, u3, u4, u5, u6⟩, -⟩ := hSw
          go_simp <;> with_reducible rfl
        try simp only [Act.put, List.setIfInBounds_toArray, List.set_cons_zero, List.set_cons_succ]
        refine take_yes (i := 12) (v := ?v12d) rfl (by kernel_rfl) (by kernel_rfl) (by kernel_rfl) (fun _ _ _ h => h) (by rfl) ?hy12d hHeld ?rest12d
        case hy12d =>
          intro w' hSw
          obtain ⟨-, r1, r2, ⟨u0, u1, u2, u3, u4, u5, u6⟩, -⟩ := hSw
          go_simp <;> with_reducible rfl
        try simp only [Act.put, List.setIfInBounds_toArray, List.set_cons_zero, List.set_cons_succ]
        refine take_yes (i := 13) (v := ?v13d) rfl (by kernel_rfl) (by kernel_rfl) (by kernel_rfl) (fun _ _ _ h => h) (by rfl) ?hy13d hHeld ?rest13d
        case hy13d =>
          intro w' hSw
          obtain ⟨-, r1, r2, ⟨u0, u1, u2, u3, u4, u5, u6⟩, -⟩ := hSw
          go_simp <;> with_reducible rfl
        try simp only [Act.put, List.setIfInBounds_toArray, List.set_cons_zero, List.set_cons_succ]
        refine take_yes (i := 14) (v := ?v14d) rfl (by kernel_rfl) (by kernel_rfl) (by kernel_rfl) (fun _ _ _ h => h) (by rfl) ?hy14d hHeld ?rest14d
        case hy14d =>
          intro w' hSw
          obtain ⟨-, r1, r2, ⟨u0, u1, u2, u3, u4, u5, u6⟩, -⟩ := hSw
          go_simp <;> with_reducible rfl
        try simp only [Act.put, List.setIfInBounds_toArray, List.set_cons_zero, List.set_cons_succ]
        refine wpAnyH_ready (rs := [11]) (by kernel_rfl) (by simp) (cons_at (i := 11) rfl (fun K11d hK11d => ?_) AllReadyH.nil)
        go_simp
        go_at_call 13
        with_reducible refine (watch_sees_at (HM9.out.later hHeld.2.2.2.2).bk hqs).mono ?_
        rintro x X11 ⟨rfl, hb11⟩
        obtain ⟨z1, z2, z3, z4, z5⟩ := hHeld
        have v5 := z5.trans (hb11.mono z5.size)
        have v1 := z1.later hb11
        have v2 := cell_below hb11 z2
        have v3 := cell_below hb11 z3
        have v4 := cells7_below z4 hb11
        clear hb11 z1 z2 z3 z4 z5
        go_wp2_with fail
        refine hK11d.out _ _ ⟨v1, v2, v3, v4, v5⟩ (fun hHeld => ?_)
        clear hK11d K11d
        try simp only [Act.put, List.setIfInBounds_toArray, List.set_cons_zero, List.set_cons_succ]
        refine wpAnyH_ready (rs := [15]) (by kernel_rfl) (by simp) (cons_at (i := 15) rfl (fun K15d hK15d => ?_) AllReadyH.nil)
        go_simp
        go_at_call 14
        with_reducible refine (ref_sees_at (HM9.out.later hHeld.2.2.2.2).rf hqs).mono ?_
        rintro x X12 ⟨rfl, hb12⟩
        obtain ⟨z1, z2, z3, z4, z5⟩ := hHeld
        have v5 := z5.trans (hb12.mono z5.size)
        have v1 := z1.later hb12
        have v2 := cell_below hb12 z2
        have v3 := cell_below hb12 z3
        have v4 := cells7_below z4 hb12
        clear hb12 z1 z2 z3 z4 z5
        go_wp2_with fail
        refine hK15d.out _ _ ⟨v1, v2, v3, v4, v5⟩ (fun hHeld => ?_)
        clear hK15d K15d
        try simp only [Act.put, List.setIfInBounds_toArray, List.set_cons_zero, List.set_cons_succ]
        refine take_yes (i := 16) (v := ?v16d) rfl (by kernel_rfl) (by kernel_rfl) (by kernel_rfl) (fun _ _ _ h => h) (by rfl) ?hy16d hHeld ?rest16d
        case hy16d =>
          intro w' hSw
          obtain ⟨-, r1, r2, ⟨u0, u1, u2, u3, u4, u5, u6⟩, -⟩ := hSw
          go_simp <;> with_reducible rfl
        try simp only [Act.put, List.setIfInBounds_toArray, List.set_cons_zero, List.set_cons_succ]
        refine take_yes (i := 17) (v := ?v17d) rfl (by kernel_rfl) (by kernel_rfl) (by kernel_rfl) (fun _ _ _ h => h) (by rfl) ?hy17d hHeld ?rest17d
        case hy17d =>
          intro w' hSw
          obtain ⟨-, r1, r2, ⟨u0, u1, u2, u3, u4, u5, u6⟩, -⟩ := hSw
          go_simp <;> with_reducible rfl
        try simp only [Act.put, List.setIfInBounds_toArray, List.set_cons_zero, List.set_cons_succ]
        refine take_yes (i := 18) (v := ?v18d) rfl (by kernel_rfl) (by kernel_rfl) (by kernel_rfl) (fun _ _ _ h => h) (by rfl) ?hy18d hHeld ?rest18d
        case hy18d =>
          intro w' hSw
          obtain ⟨-, r1, r2, ⟨u0, u1, u2, u3, u4, u5, u6⟩, -⟩ := hSw
          go_simp <;> with_reducible rfl
        try simp only [Act.put, List.setIfInBounds_toArray, List.set_cons_zero, List.set_cons_succ]
        refine take_yes (i := 19) (v := ?v19d) rfl (by kernel_rfl) (by kernel_rfl) (by kernel_rfl) (fun _ _ _ h => h) (by rfl) ?hy19d hHeld ?rest19d
        case hy19d =>
          intro w' hSw
          obtain ⟨-, r1, r2, ⟨u0, u1, u2, u3, u4, u5, u6⟩, -⟩ := hSw
          go_simp <;> with_reducible rfl
        try simp only [Act.put, List.setIfInBounds_toArray, List.set_cons_zero, List.set_cons_succ]
        refine take_yes (i := 20) (v := ?v20d) rfl (by kernel_rfl) (by kernel_rfl) (by kernel_rfl) (fun _ _ _ h => h) (by rfl) ?hy20d hHeld ?rest20d
        case hy20d =>
          intro w' hSw
          obtain ⟨-, r1, r2, ⟨u0, u1, u2, u3, u4, u5, u6⟩, -⟩ := hSw
          go_simp <;> with_reducible rfl
        try simp only [Act.put, List.setIfInBounds_toArray, List.set_cons_zero, List.set_cons_succ]
        refine take_yes (i := 22) (v := ?v22d) rfl (by kernel_rfl) (by kernel_rfl) (by kernel_rfl) (fun _ _ _ h => h) (by rfl) ?hy22d hHeld ?rest22d
        case hy22d =>
          intro w' hSw
          obtain ⟨-, r1, r2, ⟨u0, u1, u2, u3, u4, u5, u6⟩, -⟩ := hSw
          go_simp <;> with_reducible rfl
        try simp only [Act.put, List.setIfInBounds_toArray, List.set_cons_zero, List.set_cons_succ]
        refine wpAnyH_ready (rs := [21]) (by kernel_rfl) (by simp) (cons_at (i := 21) rfl (fun K21d hK21d => ?_) AllReadyH.nil)
        go_simp
        go_at_call 15
        with_reducible refine (watch_of_at (HM9.out.later hHeld.2.2.2.2).bk ho).mono ?_
        rintro x X13 ⟨rfl, hb13⟩
        obtain ⟨z1, z2, z3, z4, z5⟩ := hHeld
        have v5 := z5.trans (hb13.mono z5.size)
        have v1 := z1.later hb13
        have v2 := cell_below hb13 z2
        have v3 := cell_below hb13 z3
        have v4 := cells7_below z4 hb13
        clear hb13 z1 z2 z3 z4 z5
        go_wp2_with fail
        refine hK21d.out _ _ ⟨v1, v2, v3, v4, v5⟩ (fun hHeld => ?_)
        clear hK21d K21d
        try simp only [Act.put, List.setIfInBounds_toArray, List.set_cons_zero, List.set_cons_succ]
        refine take_yes (i := 23) (v := ?v23d) rfl (by kernel_rfl) (by kernel_rfl) (by kernel_rfl) (fun _ _ _ h => h) (by rfl) ?hy23d hHeld ?rest23d
        case hy23d =>
          intro w' hSw
          obtain ⟨-, r1, r2, ⟨u0, u1, u2, u3, u4, u5, u6⟩, -⟩ := hSw
          go_simp <;> with_reducible rfl
        try simp only [Act.put, List.setIfInBounds_toArray, List.set_cons_zero, List.set_cons_succ]
        refine take_yes (i := 24) (v := ?v24d) rfl (by kernel_rfl) (by kernel_rfl) (by kernel_rfl) (fun _ _ _ h => h) (by rfl) ?hy24d hHeld ?rest24d
        case hy24d =>
          intro w' hSw
          obtain ⟨-, r1, r2, ⟨u0, u1, u2, u3, u4, u5, u6⟩, -⟩ := hSw
          go_simp <;> with_reducible rfl
        try simp only [Act.put, List.setIfInBounds_toArray, List.set_cons_zero, List.set_cons_succ]
        refine wpAnyH_done (by kernel_rfl) ?_ _
        obtain ⟨-, -, -, -, hb11⟩ := hHeld
        clear y1 y2 y3 y4
        go_wp2_with fail
        go_roundw
        case rel => exact ⟨i + 1, M, by omega, by go_num, HM9.out.later hb11, below_on hB9 hb11⟩
        case measure => simp [intOf]; omega

theorem watchPlays_own : ownKnob Try.prog.godebug = none := by kernel_rfl
theorem watchPlays_laidOut : laidOutB Try.prog = true := by kernel_rfl
set_option maxRecDepth 100000 in
theorem watchPlays_lifted (os : Os) (started : os.Started) (H : Type) (enc : TypeId × Value → H) :
    ReturnsInHanded {} Try.checked os 3 .any (Rows.watchPlaysSpec.pre6 enc Try.prog Try.f3 Rows.watchPlaysRow.domain false) (Rows.watchPlaysSpec.post enc Try.prog Try.f3 false true false false) := by
  refine returnsInHanded_of_change (C := Try.checked) watchPlays_own started (by kernel_rfl) Try.func3
    (ChangeSpec.witness6 (enc := enc) (C := Try.checked) false ⟨#[], #[.slice none 0 0, .agg #[.int .i64 0, .int .i64 0], .int .i64 0, .agg #[.int .i64 0, .int .i64 0, .int .i64 0, .int .i64 0]], []⟩ 8 (by kernel_rfl) (by kernel_rfl) (by kernel_rfl) (by kernel_rfl)) ?_
  intro W base args ds gs before hval0 hW hcnd _
  have hval : ∀ (j : Nat) t v, Try.f3.params[j]? = some t → args[j]? = some v → Value.okWide Try.prog W .any base t v := hval0
  have hW' := hW
  obtain ⟨p, q, hA0, hV, rfl, hfz, hnd⟩ := hW
  have hA : DataW.TrodAll enc Try.prog W 0 (fun _ => true) true Try.f3.params.toList args.toList ds p := hA0
  rw [Try.params3] at hA hval
  obtain ⟨v0, vs0, d0, ds0, p0, q0, hargs, rfl, rfl, h0, r0⟩ := trodAll_cons hA
  obtain ⟨v1, vs1, d1, ds1, p1, q1, rfl, rfl, rfl, h1, r1⟩ := trodAll_cons r0
  obtain ⟨v2, vs2, d2, ds2, p2, q2, rfl, rfl, rfl, h2, r2⟩ := trodAll_cons r1
  obtain ⟨v3, vs3, d3, ds3, p3, q3, rfl, rfl, rfl, h3, r3⟩ := trodAll_cons r2
  obtain ⟨rfl, rfl, rfl⟩ := trodAll_nil r3
  obtain rfl : args = #[v0, v1, v2, v3] := by cases args; simp_all
  obtain ⟨rfl, rfl⟩ := trodVars_none hV
  have k0 := h0
  have lt0 : ∀ x ∈ p0, x.block < W.heap.size := by obtain ⟨m, hm⟩ := k0; exact DataW.trod_lt m _ _ _ hm
  have k1 := h1
  have lt1 : ∀ x ∈ p1, x.block < W.heap.size := by obtain ⟨m, hm⟩ := k1; exact DataW.trod_lt m _ _ _ hm
  have k2 := h2
  have lt2 : ∀ x ∈ p2, x.block < W.heap.size := by obtain ⟨m, hm⟩ := k2; exact DataW.trod_lt m _ _ _ hm
  have k3 := h3
  have lt3 : ∀ x ∈ p3, x.block < W.heap.size := by obtain ⟨m, hm⟩ := k3; exact DataW.trod_lt m _ _ _ hm
  obtain ⟨a0, cap0, L0, rfl, i0, r0', c0, m0⟩ := open_sbs (hval 0 22 v0 rfl rfl) h0
  obtain ⟨c10, c11, y10, y11, n1, rfl, rfl, rfl, t10, t11⟩ := Go.Joins.open_agg2 Try.underlying24 (by kernel_rfl) (by kernel_rfl) (hval 1 24 v1 rfl rfl) h1
  obtain ⟨a10, e10, -, w10⟩ := DataW.trod_int Try.underlying3 t10
  obtain rfl : c10 = .int .i64 a10 := by simpa using e10
  obtain ⟨a11, e11, -, w11⟩ := DataW.trod_int Try.underlying3 t11
  obtain rfl : c11 = .int .i64 a11 := by simpa using e11
  obtain ⟨a2, rfl, rfl, rfl, w2⟩ := open_int Try.underlying3 (hval 2 3 v2 rfl rfl) h2
  obtain ⟨c30, c31, c32, c33, y30, y31, y32, y33, n3, rfl, rfl, rfl, t30, t31, t32, t33⟩ := Go.Joins.open_agg4 Try.underlying26 (by kernel_rfl) (by kernel_rfl) (hval 3 26 v3 rfl rfl) h3
  obtain ⟨a30, e30, -, w30⟩ := DataW.trod_int Try.underlying3 t30
  obtain rfl : c30 = .int .i64 a30 := by simpa using e30
  obtain ⟨a31, e31, -, w31⟩ := DataW.trod_int Try.underlying3 t31
  obtain rfl : c31 = .int .i64 a31 := by simpa using e31
  obtain ⟨a32, e32, -, w32⟩ := DataW.trod_int Try.underlying3 t32
  obtain rfl : c32 = .int .i64 a32 := by simpa using e32
  obtain ⟨a33, e33, -, w33⟩ := DataW.trod_int Try.underlying3 t33
  obtain rfl : c33 = .int .i64 a33 := by simpa using e33
  clear hA0 hval0
  refine (watchPlays_walk W a0 cap0 L0 i0 r0' c0 m0 a10 a11 a2 w2 a30 a31 a32 a33).mono fun e W' ⟨he, bel⟩ => ?_
  subst he
  exact ⟨_, rfl, _, _, _, [], _, [], hW', trodAll_mk1 (shut_bool Try.underlying4 _), (trodAll_cons_mk (Below.trod watchPlays_laidOut (by kernel_rfl) (of_decide_eq_true (by kernel_rfl)) k0 bel lt0) (trodAll_cons_mk (Below.trod watchPlays_laidOut (by kernel_rfl) (of_decide_eq_true (by kernel_rfl)) k1 bel lt1) (trodAll_cons_mk (Below.trod watchPlays_laidOut (by kernel_rfl) (of_decide_eq_true (by kernel_rfl)) k2 bel lt2) (trodAll_cons_mk (Below.trod watchPlays_laidOut (by kernel_rfl) (of_decide_eq_true (by kernel_rfl)) k3 bel lt3) trodAll_mk0)))), rfl, bel.frame _, fun h => by cases h⟩

theorem watchPlays_over : Rows.watchPlaysRow.holds Try.pinned (OpenSpec.ofChange Rows.watchPlaysSpec) :=
  OpenClaim.holds_of_wide 3 Try.f3 rfl rfl rfl rfl rfl rfl rfl ⟨rfl, rfl, rfl, rfl, rfl⟩ rfl rfl rfl rfl rfl (by kernel_rfl) Try.func3 (by kernel_rfl)
    (of_decide_eq_true (by kernel_rfl)) (by unfold Func.isWrapper; first | (rw [if_pos (by decide +kernel)]; kernel_rfl) | (rw [if_neg (by decide +kernel)]; exact ⟨rfl, rfl⟩))
    (fun os started H enc _ => watchPlays_lifted os started H enc)

theorem watchPlays_holds : Rows.WatchPlaysSaid := watchPlays_over
#print axioms watchPlays_holds
end Go.Proofs.Ythgnmpgdlemdlaa
