/- WatchSessions holds for every row of at most 60 steps and every point; of longer rows it answers true by itself. -/
import Derived.Test.YthgnmpgdlemdlaaWaT
import Derived.ProofKit
import Derived.OpenShut
import Derived.ShutString
import Derived.ChangeOld
import Derived.Below
import Derived.SizedLaws
namespace Go.Proofs.Ythgnmpgdlemdlaa
open Go.ChangeShapes Go.WideShapes Go.ChangeAt Go.RowKit
open Go.ChangeMaps (open_string shut_string)
set_option linter.unusedVariables false

/-- what a Do leaves of one client's watch -/
theorem do_kept {L : List Wt} {c : Cm} {b : Int} {k : Nat} {o p : Wt} (ho : L[k]? = some o) (hp : (wdoL L c b)[k]? = some p) (h : ¬ wdoE L c = 0 ∨ ¬ (k : Int) = c.cl) : p = o := by
  unfold wdoL at hp
  by_cases he : wdoE L c = 0
  · rw [if_pos he] at hp
    have hk : ¬ (k : Int) = c.cl := h.resolve_left (fun h => h he)
    have hF : formB c = true := by
      cases hF : formB c
      · rw [wdoE_form hF] at he; cases he
      · rfl
    obtain ⟨n, hn, -⟩ := cl_nat (form_cl hF)
    rw [List.getElem?_set_ne (by rw [hn] at hk ⊢; simp; omega), ho] at hp
    exact (Option.some.inj hp).symm
  · rw [if_neg he, ho] at hp
    exact (Option.some.inj hp).symm
theorem do_cases {L : List Wt} {c : Cm} {b : Int} {k : Nat} {o p : Wt} (ho : L[k]? = some o) (hp : (wdoL L c b)[k]? = some p) : p = o ∨ p = nextW o c b ∧ mayB o c = true := by
  by_cases h : ¬ wdoE L c = 0 ∨ ¬ (k : Int) = c.cl
  · exact .inl (do_kept ho hp h)
  · obtain ⟨he, hk⟩ : wdoE L c = 0 ∧ (k : Int) = c.cl := by
      constructor
      · exact Classical.not_not.1 (fun h' => h (.inl h'))
      · exact Classical.not_not.1 (fun h' => h (.inr h'))
    have hF : formB c = true := by
      cases hF : formB c
      · rw [wdoE_form hF] at he; cases he
      · rfl
    have hm : mayB o c = true := by
      cases hm : mayB o c
      · rw [wdoE_may hF (by rw [← hk, atW_nat ho]; exact hm)] at he; cases he
      · rfl
    rw [wdoL_ok he hk.symm ho, List.getElem?_set_self (List.getElem?_eq_some_iff.1 ho).1] at hp
    exact .inr ⟨(Option.some.inj hp).symm, hm⟩
theorem may_join {o : Wt} {c : Cm} (h : mayB o c = true) (hk : c.kd = 6) : o.s < c.se := by
  unfold mayB at h
  rw [if_pos hk] at h
  simpa using h
theorem may_else {o : Wt} {c : Cm} (h : mayB o c = true) (hk : ¬ c.kd = 6) : o.on = true ∧ o.s = c.se := by
  unfold mayB at h
  rw [if_neg hk] at h
  simpa using h
theorem do_rises {L : List Wt} {c : Cm} {b : Int} {k : Nat} {o p : Wt} (ho : L[k]? = some o) (hp : (wdoL L c b)[k]? = some p) : o.s ≤ p.s := by
  rcases do_cases ho hp with rfl | ⟨rfl, hm⟩
  · exact Int.le_refl _
  · by_cases h6 : c.kd = 6
    · rw [next_join h6]; have := may_join hm h6; show o.s ≤ c.se; omega
    · unfold nextW; rw [if_neg h6]; split <;> exact Int.le_refl _
theorem do_anew {L : List Wt} {c : Cm} {b : Int} {k : Nat} {o p : Wt} (ho : L[k]? = some o) (hp : (wdoL L c b)[k]? = some p) (h1 : p.on = true) (h2 : o.on = false) : ¬ p.s = o.s := by
  rcases do_cases ho hp with rfl | ⟨rfl, hm⟩
  · rw [h1] at h2; cases h2
  · by_cases h6 : c.kd = 6
    · rw [next_join h6]; have := may_join hm h6; show ¬ c.se = o.s; omega
    · have := (may_else hm h6).1
      rw [h2] at this; cases this
theorem sees_off {L : List Wt} {k : Nat} {p : Wt} (hk : k < 4) (hp : L[k]? = some p) (h : p.on = false) (x y : Int) : seesB L (k : Int) x y = false := by
  unfold seesB ofW
  rw [if_pos (by simp [isCl]; omega), atW_nat hp, h]
  rfl
set_option maxRecDepth 100000 in
set_option maxHeartbeats 8000000 in
theorem watchSessions_walk (w : World) (a0 : Option Addr) (cap0 : Nat) (L0 : List Sb) (i0 : ∀ s ∈ L0, inB_ s) (r0 : RowG Sb.cs 23 w a0 L0) (c0 : L0.length ≤ cap0) (m0 : cap0 ≤ maxLen) (a10 a11 : Int) :
    Calls Try.prog 4 #[.slice a0 L0.length cap0, pt a10 a11] w fun e w' => e = .returned (.bool true) ∧ Below w.heap.size w w' := by
  obtain ⟨len, hlen⟩ : ∃ len, Hid (L0.length = len) := ⟨_, rfl⟩
  rw [hlen.out] at c0 ⊢
  have HR := hid r0
  have HI := hid i0
  obtain ⟨W, hW⟩ : ∃ W, w.alloc (ptO a10 a11) = W := ⟨_, rfl⟩
  have hB : Below w.heap.size w W := by rw [← hW]; exact below1 _ _
  have KP := hid (show W.heap[w.heap.size]? = some (ptO a10 a11) by rw [← hW]; exact new_at _ _ _ rfl)
  have C0 := known14 W
  clear r0 c0 m0 i0
  go_enter Try.func4, Try.ntmps4
  go_upto_region 1 with fail
  try rw [hW]
  clear hW
  obtain ⟨pb, hpb⟩ : ∃ pb, Hid (w.heap.size = pb) := ⟨_, rfl⟩
  have hpb' : w.heap.size ≤ pb := by rw [hpb.out]; omega
  rw [hpb.out] at KP
  try rw [hpb.out]
  go_wp2_with fail
  refine C0.mono ?_
  rintro x w1 ⟨rfl, hb1⟩
  have KP1 := hid (var_on hb1 KP.out (at_lt KP.out))
  have hB1 := below_on hB hb1
  clear C0 KP hB hb1
  by_cases h60 : len ≤ 60
  rotate_left
  · have h60' : (60 : Int) < (len : Int) := by omega
    go_wp2_with fail
    go_ret
    exact ⟨rfl, hB1⟩
  have h60' : ¬ (60 : Int) < (len : Int) := by omega
  go_wp2_with fail
  refine (watch_new w1).mono ?_
  rintro x w2 ⟨rfl, hm2, hb2⟩
  obtain ⟨g, hg⟩ : ∃ g, w1.heap.size = g := ⟨_, rfl⟩
  have hgp : pb < g := by rw [← hg]; exact at_lt KP1.out
  have hgB : w.heap.size ≤ g := by omega
  rw [hg] at hm2
  try rw [hg]
  have HM2 := hid hm2
  have KP2 := hid (var_on hb2 KP1.out (at_lt KP1.out))
  have hB2 := below_on hB1 hb2
  clear hm2 hb2 hB1 KP1 hg h60'
  go_wp2_with fail
  go_loopw [6, 7, 8, 9, 10] (fun s6 s7 s8 s9 s10 wr => ∃ (i : Nat) (L : List Wt), i ≤ len ∧ s6 = .int .i64 (i : Int) ∧ WB wr g 55 L ∧ wr.heap[pb]? = some (ptO a10 a11) ∧ Below w.heap.size w wr) (fun s6 _ _ _ _ _ => 61 - (intOf s6).toNat)
  case atStart => exact ⟨0, noL, by omega, rfl, HM2.out, KP2.out, hB2⟩
  case round =>
    obtain ⟨i, L, hi, rfl, hm, hp, hb⟩ := hrel
    have HM := hid hm
    have KP := hid hp
    clear HM2 KP2 hB2 hm hp
    by_cases hlt : i < len
    rotate_left
    · obtain rfl : i = len := by omega
      have hlt' : ¬ (i : Int) < (i : Int) := by omega
      go_wp2_with fail
      go_ret
      exact ⟨rfl, hb⟩
    have hlt' : (i : Int) < (len : Int) := by omega
    obtain ⟨a, ha⟩ := get_some L0 i (by rw [hlen.out]; exact hlt)
    obtain ⟨b, off, rfl, hbl, hcs⟩ := sbs_at HR.out ha
    have hci : inC a.c := HI.out a (List.mem_of_getElem? ha)
    obtain ⟨c, bt⟩ := a
    simp only at hcs hci
    have HCS := hid hcs
    have HCI := hid (in_sized hci)
    clear ha hcs hci
    have HC0 := hid (HCS.out wr hb).1
    obtain ⟨q, hq⟩ : ∃ q, Hid (fewC c = q) := ⟨_, rfl⟩
    have CF := few_cmd wr c HCI.out
    rw [hq.out] at CF
    go_wp2_with (with_reducible refine wpList_load_mid_cm rfl (.tmp 26) rfl rfl HC0.out ?_)
    refine CF.mono ?_
    rintro x w3 ⟨rfl, hb3⟩
    have HM3 := hid (HM.out.later hb3)
    have KP3 := hid (var_on hb3 KP.out (at_lt KP.out))
    have hB3 := below_on hb hb3
    clear CF hb hb3 HM KP HC0
    cases q
    · go_wp2_with fail
      go_ret
      exact ⟨rfl, hB3⟩
    go_wp2_with fail
    refine (watch_all HM3.out).mono ?_
    rintro x w4 ⟨rfl, hb4⟩
    have HM4 := hid (HM3.out.later hb4)
    have KP4 := hid (var_on hb4 KP3.out (at_lt KP3.out))
    have hB4 := below_on hB3 hb4
    clear hb4 hB3 HM3 KP3
    go_upto_region 12 with (with_reducible refine wpList_store_ar rfl (.tmp 7) (.tmp 31) rfl rfl rfl HM4.out.len (new_bk _ _) ?_)
    intro w5 ha5 hb5
    obtain ⟨ab, hab⟩ : ∃ ab, w4.heap.size = ab := ⟨_, rfl⟩
    have l1 : g < ab := by rw [← hab]; exact HM4.out.lt
    have l2 : pb < ab := by rw [← hab]; exact at_lt KP4.out
    have hb5' : Below w4.heap.size w4 w5 := hb5.new
    rw [hab] at ha5
    try rw [hab]
    have HA5 := hid ha5
    have HM5 := hid (HM4.out.later hb5')
    have KP5 := hid (var_on hb5' KP4.out (at_lt KP4.out))
    have hB5 := below_on hB4 hb5'
    clear ha5 hb5 hb5' hB4 HM4 KP4 hab
    obtain ⟨E, hE⟩ : ∃ E, Hid (wdoE L c = E) := ⟨_, rfl⟩
    obtain ⟨M, hM⟩ : ∃ M, Hid (wdoL L c bt = M) := ⟨_, rfl⟩
    obtain ⟨hr5, hc5, -⟩ := HCS.out w5 hB5
    try go_wp2_with fail
    refine wp_region_held_drew (S := fun w' => w'.rangeAt b (off + i * 23) c.cs ∧ w'.cell? ⟨b, off + i * 23 + 22, none⟩ = some (.int .i64 bt)) (by kernel_rfl) ⟨hr5, hc5⟩ (fun hHeld => ?_)
    refine take_yes (i := 0) (v := ?v0a) rfl (by kernel_rfl) (by kernel_rfl) (by kernel_rfl) (fun _ _ _ h => h) (by rfl) ?hy0a hHeld ?rest0a
    case hy0a =>
      intro w' hSw
      obtain ⟨-, r1⟩ := hSw
      go_simp <;> with_reducible rfl
    try simp only [Act.put, List.setIfInBounds_toArray, List.set_cons_zero, List.set_cons_succ]
    refine take_yes (i := 1) (v := ?v1a) rfl (by kernel_rfl) (by kernel_rfl) (by kernel_rfl) (fun _ _ _ h => h) (by rfl) ?hy1a hHeld ?rest1a
    case hy1a =>
      intro w' hSw
      obtain ⟨-, r1⟩ := hSw
      go_simp <;> with_reducible rfl
    try simp only [Act.put, List.setIfInBounds_toArray, List.set_cons_zero, List.set_cons_succ]
    refine take_yes (i := 2) (v := ?v2a) rfl (by kernel_rfl) (by kernel_rfl) (by kernel_rfl) (fun _ _ _ h => h) (by rfl) ?hy2a hHeld ?rest2a
    case hy2a =>
      intro w' hSw
      obtain ⟨-, r1⟩ := hSw
      go_simp <;> with_reducible rfl
    try simp only [Act.put, List.setIfInBounds_toArray, List.set_cons_zero, List.set_cons_succ]
    refine take_yes (i := 3) (v := ?v3a) rfl (by kernel_rfl) (by kernel_rfl) (by kernel_rfl) (fun _ _ _ h => h) (by rfl) ?hy3a hHeld ?rest3a
    case hy3a =>
      intro w' hSw
      obtain ⟨-, r1⟩ := hSw
      go_simp <;> with_reducible rfl
    try simp only [Act.put, List.setIfInBounds_toArray, List.set_cons_zero, List.set_cons_succ]
    refine take_yes (i := 4) (v := ?v4a) rfl (by kernel_rfl) (by kernel_rfl) (by kernel_rfl) (fun _ _ _ h => h) (by rfl) ?hy4a hHeld ?rest4a
    case hy4a =>
      intro w' hSw
      obtain ⟨-, r1⟩ := hSw
      go_simp <;> with_reducible rfl
    try simp only [Act.put, List.setIfInBounds_toArray, List.set_cons_zero, List.set_cons_succ]
    refine take_yes (i := 5) (v := _) rfl (by kernel_rfl) (by kernel_rfl) (by kernel_rfl) (fun _ _ _ h => h) (by rfl) (fun w' hSw => exec_load_mid_cm (.tmp 36) rfl rfl hSw.1) hHeld ?rest5a
    try simp only [Act.put, List.setIfInBounds_toArray, List.set_cons_zero, List.set_cons_succ]
    refine take_yes (i := 6) (v := ?v6a) rfl (by kernel_rfl) (by kernel_rfl) (by kernel_rfl) (fun _ _ _ h => h) (by rfl) ?hy6a hHeld ?rest6a
    case hy6a =>
      intro w' hSw
      obtain ⟨-, r1⟩ := hSw
      go_simp <;> with_reducible rfl
    try simp only [Act.put, List.setIfInBounds_toArray, List.set_cons_zero, List.set_cons_succ]
    refine take_yes (i := 7) (v := ?v7a) rfl (by kernel_rfl) (by kernel_rfl) (by kernel_rfl) (fun _ _ _ h => h) (by rfl) ?hy7a hHeld ?rest7a
    case hy7a =>
      intro w' hSw
      obtain ⟨-, r1⟩ := hSw
      go_simp <;> with_reducible rfl
    try simp only [Act.put, List.setIfInBounds_toArray, List.set_cons_zero, List.set_cons_succ]
    refine take_yes (i := 8) (v := ?v8a) rfl (by kernel_rfl) (by kernel_rfl) (by kernel_rfl) (fun _ _ _ h => h) (by rfl) ?hy8a hHeld ?rest8a
    case hy8a =>
      intro w' hSw
      obtain ⟨-, r1⟩ := hSw
      go_simp <;> with_reducible rfl
    try simp only [Act.put, List.setIfInBounds_toArray, List.set_cons_zero, List.set_cons_succ]
    refine take_yes (i := 9) (v := ?v9a) rfl (by kernel_rfl) (by kernel_rfl) (by kernel_rfl) (fun _ _ _ h => h) (by rfl) ?hy9a hHeld ?rest9a
    case hy9a =>
      intro w' hSw
      obtain ⟨-, r1⟩ := hSw
      go_simp <;> with_reducible rfl
    try simp only [Act.put, List.setIfInBounds_toArray, List.set_cons_zero, List.set_cons_succ]
    refine take_yes (i := 10) (v := ?v10a) rfl (by kernel_rfl) (by kernel_rfl) (by kernel_rfl) (fun _ _ _ h => h) (by rfl) ?hy10a hHeld ?rest10a
    case hy10a =>
      intro w' hSw
      obtain ⟨-, r1⟩ := hSw
      go_simp <;> with_reducible rfl
    try simp only [Act.put, List.setIfInBounds_toArray, List.set_cons_zero, List.set_cons_succ]
    refine wpAnyH_ready (rs := [11]) (by kernel_rfl) (by simp) (cons_at (i := 11) rfl (fun K11a hK11a => ?_) AllReadyH.nil)
    go_simp
    go_at_call 10
    with_reducible refine (do_at (HM5.out.later (by first | exact Below.refl _ _ | exact (Below.refl _ _).drew)) HCI.out hE hM).mono ?_
    rintro x W6 ⟨rfl, hm6, hb6⟩
    have HM6 := hid hm6
    have HA6 := hid ((HA5.out.later (by first | exact Below.refl _ _ | exact (Below.refl _ _).drew)).but hb6 (by omega))
    have KP6 := hid (hb6.at (show w5.drew.heap[pb]? = some (ptO a10 a11) from KP5.out) (by omega))
    have hBK := hid (But.below hB5.drew hb6 hgB)
    obtain ⟨hr6, hc6, -⟩ := HCS.out W6 hBK.out
    clear hm6 hb6 HM5 HA5 KP5 hB5 hHeld
    go_wp2_with fail
    refine hK11a.out _ _ ⟨hr6, hc6⟩ (fun hHeld => ?_)
    clear hK11a K11a
    try simp only [Act.put, List.setIfInBounds_toArray, List.set_cons_zero, List.set_cons_succ]
    refine take_yes (i := 12) (v := ?v12a) rfl (by kernel_rfl) (by kernel_rfl) (by kernel_rfl) (fun _ _ _ h => h) (by rfl) ?hy12a hHeld ?rest12a
    case hy12a =>
      intro w' hSw
      obtain ⟨-, r1⟩ := hSw
      go_simp <;> with_reducible rfl
    try simp only [Act.put, List.setIfInBounds_toArray, List.set_cons_zero, List.set_cons_succ]
    refine wpAnyH_done (by kernel_rfl) ?_ _
    obtain ⟨hr6, hc6⟩ := hHeld
    clear hr5 hc5 hr6 hc6
    go_wp2_with fail
    refine (watch_all HM6.out).mono ?_
    rintro x w7 ⟨rfl, hb7⟩
    have HM7 := hid (HM6.out.later hb7)
    have HA7 := hid (HA6.out.later hb7)
    have KP7 := hid (var_on hb7 KP6.out (at_lt KP6.out))
    have hB7 := below_on hBK.out hb7
    clear hb7 hBK HM6 HA6 KP6
    go_upto_region 14 with (with_reducible refine wpList_store_ar rfl (.tmp 9) (.tmp 45) rfl rfl rfl HM7.out.len (new_bk _ _) ?_)
    intro w8 hn8 hb8
    obtain ⟨nb, hnb⟩ : ∃ nb, w7.heap.size = nb := ⟨_, rfl⟩
    have hb8' : Below w7.heap.size w7 w8 := hb8.new
    rw [hnb] at hn8
    try rw [hnb]
    have HN8 := hid hn8
    have HA8 := hid (HA7.out.later hb8')
    have HM8 := hid (HM7.out.later hb8')
    have KP8 := hid (var_on hb8' KP7.out (at_lt KP7.out))
    have hB8 := below_on hB7 hb8'
    clear hn8 hb8 hb8' hB7 HM7 HA7 KP7 hnb
    go_wp2_with fail
    go_loopw [10] (fun s10 wq => ∃ k : Nat, k ≤ 4 ∧ s10 = .int .i64 (k : Int) ∧ Below w8.heap.size w8 wq) (fun s10 _ => 4 - (intOf s10).toNat)
    case atStart => exact ⟨0, by omega, rfl, Below.refl _ _⟩
    case round =>
      obtain ⟨k, hk, rfl, hbq⟩ := hrel
      by_cases hlk : k < 4
      rotate_left
      · obtain rfl : k = 4 := by omega
        have hlk' : ¬ ((4 : Nat) : Int) < 4 := by omega
        have HM9 := hid (HM8.out.later hbq)
        have KP9 := hid (var_on hbq KP8.out (at_lt KP8.out))
        have hB9 := below_on hB8 hbq
        go_wp2_with fail
        go_roundw
        case rel => exact ⟨i + 1, M, by omega, by go_num, HM9.out, KP9.out, hB9⟩
        case measure => simp [intOf]; omega
      have hlk' : (k : Int) < 4 := by omega
      obtain ⟨o, ho⟩ := HA8.out.get hlk
      obtain ⟨p, hp⟩ := HN8.out.get hlk
      have hp' : (wdoL L c bt)[k]? = some p := by rw [hM.out]; exact hp
      have f1 := hid (do_rises ho hp')
      have f2 := hid (do_anew ho hp')
      have f3 := hid (do_kept (k := k) ho hp')
      have f4 := hid (fun h => sees_off hlk hp h a10 a11)
      obtain ⟨u0, u1, u2, u3, u4, u5, u6⟩ := (HA8.out.later hbq).cell ho
      obtain ⟨v0, v1, v2, v3, v4, v5, v6⟩ := (HN8.out.later hbq).cell hp
      have HB9 := hid (below_on hB8 hbq)
      obtain ⟨-, -, hcl⟩ := HCS.out _ HB9.out
      have kp0 : wr.cell? ⟨pb, 0, none⟩ = some (.int .i64 a10) := (cells_at (var_on hbq KP8.out (at_lt KP8.out))).1 0
      have kp1 : wr.cell? ⟨pb, 1, none⟩ = some (.int .i64 a11) := (cells_at (var_on hbq KP8.out (at_lt KP8.out))).1 1
      clear ho hp hp'
      rw [hE.out] at f3
      have d2 : decide (p.s < o.s) = false := by have := f1.out; simp; omega
      by_cases he : E = 0
      rotate_left
      · have d0 : (E != 0) = true := by simpa using he
        obtain rfl : p = o := f3.out (.inl he)
        have hqq := equal_wt_at (eqW_self p)
        clear he f1 f2 f3
        obtain ⟨pon, ps, pst, p0, p1, p2, p3⟩ := p
        try simp only at hqq
        try simp only at d2
        try simp only at u0 u1 u2 u3 u4 u5 u6 v0 v1 v2 v3 v4 v5 v6
        cases pon
        · skip
          go_upto_region 17 with fail
          refine wp_region_held_drew (S := fun w' => cells7 w' ab (k * 7) ⟨false, ps, pst, ⟨p0, p1, p2, p3⟩⟩ ∧ cells7 w' nb (k * 7) ⟨false, ps, pst, ⟨p0, p1, p2, p3⟩⟩ ∧ w'.cell? ⟨b, off + i * 23 + 16, none⟩ = some (.int .i64 c.cl) ∧ w'.cell? ⟨pb, 0, none⟩ = some (.int .i64 a10) ∧ w'.cell? ⟨pb, 1, none⟩ = some (.int .i64 a11) ∧ Below wr.heap.size wr w') (by kernel_rfl) ⟨⟨u0, u1, u2, u3, u4, u5, u6⟩, ⟨v0, v1, v2, v3, v4, v5, v6⟩, hcl, kp0, kp1, (Below.refl _ _).drew⟩ (fun hHeld => ?_)
          refine take_yes (i := 0) (v := ?v0b) rfl (by kernel_rfl) (by kernel_rfl) (by kernel_rfl) (fun _ _ _ h => h) (by rfl) ?hy0b hHeld ?rest0b
          case hy0b =>
            intro w' hSw
            obtain ⟨⟨u0, u1, u2, u3, u4, u5, u6⟩, ⟨v0, v1, v2, v3, v4, v5, v6⟩, r0, r1, r2, -⟩ := hSw
            go_simp <;> with_reducible rfl
          try simp only [Act.put, List.setIfInBounds_toArray, List.set_cons_zero, List.set_cons_succ]
          refine take_yes (i := 1) (v := ?v1b) rfl (by kernel_rfl) (by kernel_rfl) (by kernel_rfl) (fun _ _ _ h => h) (by rfl) ?hy1b hHeld ?rest1b
          case hy1b =>
            intro w' hSw
            obtain ⟨⟨u0, u1, u2, u3, u4, u5, u6⟩, ⟨v0, v1, v2, v3, v4, v5, v6⟩, r0, r1, r2, -⟩ := hSw
            go_simp <;> with_reducible rfl
          try simp only [Act.put, List.setIfInBounds_toArray, List.set_cons_zero, List.set_cons_succ]
          refine take_yes (i := 2) (v := ?v2b) rfl (by kernel_rfl) (by kernel_rfl) (by kernel_rfl) (fun _ _ _ h => h) (by rfl) ?hy2b hHeld ?rest2b
          case hy2b =>
            intro w' hSw
            obtain ⟨⟨u0, u1, u2, u3, u4, u5, u6⟩, ⟨v0, v1, v2, v3, v4, v5, v6⟩, r0, r1, r2, -⟩ := hSw
            go_simp <;> with_reducible rfl
          try simp only [Act.put, List.setIfInBounds_toArray, List.set_cons_zero, List.set_cons_succ]
          refine take_no (i := 3) rfl (by kernel_rfl) (by kernel_rfl) (by kernel_rfl) (fun _ _ _ h => h) (by rfl) hHeld ?rest3b
          try simp only [Act.put, List.setIfInBounds_toArray, List.set_cons_zero, List.set_cons_succ]
          refine take_no (i := 4) rfl (by kernel_rfl) (by kernel_rfl) (by kernel_rfl) (fun _ _ _ h => h) (by rfl) hHeld ?rest4b
          try simp only [Act.put, List.setIfInBounds_toArray, List.set_cons_zero, List.set_cons_succ]
          refine take_no (i := 5) rfl (by kernel_rfl) (by kernel_rfl) (by kernel_rfl) (fun _ _ _ h => h) (by rfl) hHeld ?rest5b
          try simp only [Act.put, List.setIfInBounds_toArray, List.set_cons_zero, List.set_cons_succ]
          refine take_no (i := 6) rfl (by kernel_rfl) (by kernel_rfl) (by kernel_rfl) (fun _ _ _ h => h) (by rfl) hHeld ?rest6b
          try simp only [Act.put, List.setIfInBounds_toArray, List.set_cons_zero, List.set_cons_succ]
          refine take_no (i := 7) rfl (by kernel_rfl) (by kernel_rfl) (by kernel_rfl) (fun _ _ _ h => h) (by rfl) hHeld ?rest7b
          try simp only [Act.put, List.setIfInBounds_toArray, List.set_cons_zero, List.set_cons_succ]
          refine take_no (i := 8) rfl (by kernel_rfl) (by kernel_rfl) (by kernel_rfl) (fun _ _ _ h => h) (by rfl) hHeld ?rest8b
          try simp only [Act.put, List.setIfInBounds_toArray, List.set_cons_zero, List.set_cons_succ]
          refine take_no (i := 9) rfl (by kernel_rfl) (by kernel_rfl) (by kernel_rfl) (fun _ _ _ h => h) (by rfl) hHeld ?rest9b
          try simp only [Act.put, List.setIfInBounds_toArray, List.set_cons_zero, List.set_cons_succ]
          refine take_no (i := 10) rfl (by kernel_rfl) (by kernel_rfl) (by kernel_rfl) (fun _ _ _ h => h) (by rfl) hHeld ?rest10b
          try simp only [Act.put, List.setIfInBounds_toArray, List.set_cons_zero, List.set_cons_succ]
          refine take_yes (i := 11) (v := ?v11b) rfl (by kernel_rfl) (by kernel_rfl) (by kernel_rfl) (fun _ _ _ h => h) (by rfl) ?hy11b hHeld ?rest11b
          case hy11b =>
            intro w' hSw
            obtain ⟨⟨u0, u1, u2, u3, u4, u5, u6⟩, ⟨v0, v1, v2, v3, v4, v5, v6⟩, r0, r1, r2, -⟩ := hSw
            go_simp <;> with_reducible rfl
          try simp only [Act.put, List.setIfInBounds_toArray, List.set_cons_zero, List.set_cons_succ]
          refine take_yes (i := 12) (v := ?v12b) rfl (by kernel_rfl) (by kernel_rfl) (by kernel_rfl) (fun _ _ _ h => h) (by rfl) ?hy12b hHeld ?rest12b
          case hy12b =>
            intro w' hSw
            obtain ⟨⟨u0, u1, u2, u3, u4, u5, u6⟩, ⟨v0, v1, v2, v3, v4, v5, v6⟩, r0, r1, r2, -⟩ := hSw
            go_simp <;> with_reducible rfl
          try simp only [Act.put, List.setIfInBounds_toArray, List.set_cons_zero, List.set_cons_succ]
          refine take_yes (i := 13) (v := ?v13b) rfl (by kernel_rfl) (by kernel_rfl) (by kernel_rfl) (fun _ _ _ h => h) (by rfl) ?hy13b hHeld ?rest13b
          case hy13b =>
            intro w' hSw
            obtain ⟨⟨u0, u1, u2, u3, u4, u5, u6⟩, ⟨v0, v1, v2, v3, v4, v5, v6⟩, r0, r1, r2, -⟩ := hSw
            go_simp <;> with_reducible rfl
          try simp only [Act.put, List.setIfInBounds_toArray, List.set_cons_zero, List.set_cons_succ]
          refine take_yes (i := 14) (v := ?v14b) rfl (by kernel_rfl) (by kernel_rfl) (by kernel_rfl) (fun _ _ _ h => h) (by rfl) ?hy14b hHeld ?rest14b
          case hy14b =>
            intro w' hSw
            obtain ⟨⟨u0, u1, u2, u3, u4, u5, u6⟩, ⟨v0, v1, v2, v3, v4, v5, v6⟩, r0, r1, r2, -⟩ := hSw
            go_simp <;> with_reducible rfl
          try simp only [Act.put, List.setIfInBounds_toArray, List.set_cons_zero, List.set_cons_succ]
          refine take_yes (i := 15) (v := ?v15b) rfl (by kernel_rfl) (by kernel_rfl) (by kernel_rfl) (fun _ _ _ h => h) (by rfl) ?hy15b hHeld ?rest15b
          case hy15b =>
            intro w' hSw
            obtain ⟨⟨u0, u1, u2, u3, u4, u5, u6⟩, ⟨v0, v1, v2, v3, v4, v5, v6⟩, r0, r1, r2, -⟩ := hSw
            go_simp <;> with_reducible rfl
          try simp only [Act.put, List.setIfInBounds_toArray, List.set_cons_zero, List.set_cons_succ]
          refine take_yes (i := 16) (v := ?v16b) rfl (by kernel_rfl) (by kernel_rfl) (by kernel_rfl) (fun _ _ _ h => h) (by rfl) ?hy16b hHeld ?rest16b
          case hy16b =>
            intro w' hSw
            obtain ⟨⟨u0, u1, u2, u3, u4, u5, u6⟩, ⟨v0, v1, v2, v3, v4, v5, v6⟩, r0, r1, r2, -⟩ := hSw
            go_simp <;> with_reducible rfl
          try simp only [Act.put, List.setIfInBounds_toArray, List.set_cons_zero, List.set_cons_succ]
          refine take_yes (i := 17) (v := ?v17b) rfl (by kernel_rfl) (by kernel_rfl) (by kernel_rfl) (fun _ _ _ h => h) (by rfl) ?hy17b hHeld ?rest17b
          case hy17b =>
            intro w' hSw
            obtain ⟨⟨u0, u1, u2, u3, u4, u5, u6⟩, ⟨v0, v1, v2, v3, v4, v5, v6⟩, r0, r1, r2, -⟩ := hSw
            go_simp <;> with_reducible rfl
          try simp only [Act.put, List.setIfInBounds_toArray, List.set_cons_zero, List.set_cons_succ]
          refine take_yes (i := 18) (v := ?v18b) rfl (by kernel_rfl) (by kernel_rfl) (by kernel_rfl) (fun _ _ _ h => h) (by rfl) ?hy18b hHeld ?rest18b
          case hy18b =>
            intro w' hSw
            obtain ⟨⟨u0, u1, u2, u3, u4, u5, u6⟩, ⟨v0, v1, v2, v3, v4, v5, v6⟩, r0, r1, r2, -⟩ := hSw
            go_simp <;> with_reducible rfl
          try simp only [Act.put, List.setIfInBounds_toArray, List.set_cons_zero, List.set_cons_succ]
          refine take_yes (i := 19) (v := ?v19b) rfl (by kernel_rfl) (by kernel_rfl) (by kernel_rfl) (fun _ _ _ h => h) (by rfl) ?hy19b hHeld ?rest19b
          case hy19b =>
            intro w' hSw
            obtain ⟨⟨u0, u1, u2, u3, u4, u5, u6⟩, ⟨v0, v1, v2, v3, v4, v5, v6⟩, r0, r1, r2, -⟩ := hSw
            go_simp <;> with_reducible rfl
          try simp only [Act.put, List.setIfInBounds_toArray, List.set_cons_zero, List.set_cons_succ]
          refine take_yes (i := 20) (v := ?v20b) rfl (by kernel_rfl) (by kernel_rfl) (by kernel_rfl) (fun _ _ _ h => h) (by rfl) ?hy20b hHeld ?rest20b
          case hy20b =>
            intro w' hSw
            obtain ⟨⟨u0, u1, u2, u3, u4, u5, u6⟩, ⟨v0, v1, v2, v3, v4, v5, v6⟩, r0, r1, r2, -⟩ := hSw
            go_simp <;> with_reducible rfl
          try simp only [Act.put, List.setIfInBounds_toArray, List.set_cons_zero, List.set_cons_succ]
          refine take_yes (i := 21) (v := ?v21b) rfl (by kernel_rfl) (by kernel_rfl) (by kernel_rfl) (fun _ _ _ h => h) (by rfl) ?hy21b hHeld ?rest21b
          case hy21b =>
            intro w' hSw
            obtain ⟨⟨u0, u1, u2, u3, u4, u5, u6⟩, ⟨v0, v1, v2, v3, v4, v5, v6⟩, r0, r1, r2, -⟩ := hSw
            go_simp <;> with_reducible rfl
          try simp only [Act.put, List.setIfInBounds_toArray, List.set_cons_zero, List.set_cons_succ]
          refine take_yes (i := 22) (v := ?v22b) rfl (by kernel_rfl) (by kernel_rfl) (by kernel_rfl) (fun _ _ _ h => h) (by rfl) ?hy22b hHeld ?rest22b
          case hy22b =>
            intro w' hSw
            obtain ⟨⟨u0, u1, u2, u3, u4, u5, u6⟩, ⟨v0, v1, v2, v3, v4, v5, v6⟩, r0, r1, r2, -⟩ := hSw
            go_simp <;> with_reducible rfl
          try simp only [Act.put, List.setIfInBounds_toArray, List.set_cons_zero, List.set_cons_succ]
          refine take_yes (i := 23) (v := ?v23b) rfl (by kernel_rfl) (by kernel_rfl) (by kernel_rfl) (fun _ _ _ h => h) (by rfl) ?hy23b hHeld ?rest23b
          case hy23b =>
            intro w' hSw
            obtain ⟨⟨u0, u1, u2, u3, u4, u5, u6⟩, ⟨v0, v1, v2, v3, v4, v5, v6⟩, r0, r1, r2, -⟩ := hSw
            go_simp <;> with_reducible rfl
          try simp only [Act.put, List.setIfInBounds_toArray, List.set_cons_zero, List.set_cons_succ]
          refine take_yes (i := 24) (v := ?v24b) rfl (by kernel_rfl) (by kernel_rfl) (by kernel_rfl) (fun _ _ _ h => h) (by rfl) ?hy24b hHeld ?rest24b
          case hy24b =>
            intro w' hSw
            obtain ⟨⟨u0, u1, u2, u3, u4, u5, u6⟩, ⟨v0, v1, v2, v3, v4, v5, v6⟩, r0, r1, r2, -⟩ := hSw
            go_simp <;> with_reducible rfl
          try simp only [Act.put, List.setIfInBounds_toArray, List.set_cons_zero, List.set_cons_succ]
          refine take_yes (i := 25) (v := ?v25b) rfl (by kernel_rfl) (by kernel_rfl) (by kernel_rfl) (fun _ _ _ h => h) (by rfl) ?hy25b hHeld ?rest25b
          case hy25b =>
            intro w' hSw
            obtain ⟨⟨u0, u1, u2, u3, u4, u5, u6⟩, ⟨v0, v1, v2, v3, v4, v5, v6⟩, r0, r1, r2, -⟩ := hSw
            go_simp <;> with_reducible rfl
          try simp only [Act.put, List.setIfInBounds_toArray, List.set_cons_zero, List.set_cons_succ]
          refine take_yes (i := 26) (v := ?v26b) rfl (by kernel_rfl) (by kernel_rfl) (by kernel_rfl) (fun _ _ _ h => h) (by rfl) ?hy26b hHeld ?rest26b
          case hy26b =>
            intro w' hSw
            obtain ⟨⟨u0, u1, u2, u3, u4, u5, u6⟩, ⟨v0, v1, v2, v3, v4, v5, v6⟩, r0, r1, r2, -⟩ := hSw
            go_simp <;> with_reducible rfl
          try simp only [Act.put, List.setIfInBounds_toArray, List.set_cons_zero, List.set_cons_succ]
          refine take_yes (i := 27) (v := ?v27b) rfl (by kernel_rfl) (by kernel_rfl) (by kernel_rfl) (fun _ _ _ h => h) (by rfl) ?hy27b hHeld ?rest27b
          case hy27b =>
            intro w' hSw
            obtain ⟨⟨u0, u1, u2, u3, u4, u5, u6⟩, ⟨v0, v1, v2, v3, v4, v5, v6⟩, r0, r1, r2, -⟩ := hSw
            go_simp <;> with_reducible rfl
          try simp only [Act.put, List.setIfInBounds_toArray, List.set_cons_zero, List.set_cons_succ]
          refine take_yes (i := 28) (v := ?v28b) rfl (by kernel_rfl) (by kernel_rfl) (by kernel_rfl) (fun _ _ _ h => h) (by rfl) ?hy28b hHeld ?rest28b
          case hy28b =>
            intro w' hSw
            obtain ⟨⟨u0, u1, u2, u3, u4, u5, u6⟩, ⟨v0, v1, v2, v3, v4, v5, v6⟩, r0, r1, r2, -⟩ := hSw
            go_simp <;> with_reducible rfl
          try simp only [Act.put, List.setIfInBounds_toArray, List.set_cons_zero, List.set_cons_succ]
          refine take_yes (i := 29) (v := ?v29b) rfl (by kernel_rfl) (by kernel_rfl) (by kernel_rfl) (fun _ _ _ h => h) (by rfl) ?hy29b hHeld ?rest29b
          case hy29b =>
            intro w' hSw
            obtain ⟨⟨u0, u1, u2, u3, u4, u5, u6⟩, ⟨v0, v1, v2, v3, v4, v5, v6⟩, r0, r1, r2, -⟩ := hSw
            go_simp <;> with_reducible rfl
          try simp only [Act.put, List.setIfInBounds_toArray, List.set_cons_zero, List.set_cons_succ]
          refine take_yes (i := 30) (v := ?v30b) rfl (by kernel_rfl) (by kernel_rfl) (by kernel_rfl) (fun _ _ _ h => h) (by rfl) ?hy30b hHeld ?rest30b
          case hy30b =>
            intro w' hSw
            obtain ⟨⟨u0, u1, u2, u3, u4, u5, u6⟩, ⟨v0, v1, v2, v3, v4, v5, v6⟩, r0, r1, r2, -⟩ := hSw
            go_simp <;> with_reducible rfl
          try simp only [Act.put, List.setIfInBounds_toArray, List.set_cons_zero, List.set_cons_succ]
          refine take_yes (i := 31) (v := ?v31b) rfl (by kernel_rfl) (by kernel_rfl) (by kernel_rfl) (fun _ _ _ h => h) (by rfl) ?hy31b hHeld ?rest31b
          case hy31b =>
            intro w' hSw
            obtain ⟨⟨u0, u1, u2, u3, u4, u5, u6⟩, ⟨v0, v1, v2, v3, v4, v5, v6⟩, r0, r1, r2, -⟩ := hSw
            go_simp <;> with_reducible rfl
          try simp only [Act.put, List.setIfInBounds_toArray, List.set_cons_zero, List.set_cons_succ]
          refine take_yes (i := 32) (v := ?v32b) rfl (by kernel_rfl) (by kernel_rfl) (by kernel_rfl) (fun _ _ _ h => h) (by rfl) ?hy32b hHeld ?rest32b
          case hy32b =>
            intro w' hSw
            obtain ⟨⟨u0, u1, u2, u3, u4, u5, u6⟩, ⟨v0, v1, v2, v3, v4, v5, v6⟩, r0, r1, r2, -⟩ := hSw
            go_simp <;> with_reducible rfl
          try simp only [Act.put, List.setIfInBounds_toArray, List.set_cons_zero, List.set_cons_succ]
          refine take_yes (i := 33) (v := ?v33b) rfl (by kernel_rfl) (by kernel_rfl) (by kernel_rfl) (fun _ _ _ h => h) (by rfl) ?hy33b hHeld ?rest33b
          case hy33b =>
            intro w' hSw
            obtain ⟨⟨u0, u1, u2, u3, u4, u5, u6⟩, ⟨v0, v1, v2, v3, v4, v5, v6⟩, r0, r1, r2, -⟩ := hSw
            go_simp <;> with_reducible rfl
          try simp only [Act.put, List.setIfInBounds_toArray, List.set_cons_zero, List.set_cons_succ]
          refine take_yes (i := 34) (v := ?v34b) rfl (by kernel_rfl) (by kernel_rfl) (by kernel_rfl) (fun _ _ _ h => h) (by rfl) ?hy34b hHeld ?rest34b
          case hy34b =>
            intro w' hSw
            obtain ⟨⟨u0, u1, u2, u3, u4, u5, u6⟩, ⟨v0, v1, v2, v3, v4, v5, v6⟩, r0, r1, r2, -⟩ := hSw
            go_simp <;> with_reducible rfl
          try simp only [Act.put, List.setIfInBounds_toArray, List.set_cons_zero, List.set_cons_succ]
          refine take_yes (i := 35) (v := ?v35b) rfl (by kernel_rfl) (by kernel_rfl) (by kernel_rfl) (fun _ _ _ h => h) (by rfl) ?hy35b hHeld ?rest35b
          case hy35b =>
            intro w' hSw
            obtain ⟨⟨u0, u1, u2, u3, u4, u5, u6⟩, ⟨v0, v1, v2, v3, v4, v5, v6⟩, r0, r1, r2, -⟩ := hSw
            go_simp <;> with_reducible rfl
          try simp only [Act.put, List.setIfInBounds_toArray, List.set_cons_zero, List.set_cons_succ]
          refine take_yes (i := 36) (v := ?v36b) rfl (by kernel_rfl) (by kernel_rfl) (by kernel_rfl) (fun _ _ _ h => h) (by rfl) ?hy36b hHeld ?rest36b
          case hy36b =>
            intro w' hSw
            obtain ⟨⟨u0, u1, u2, u3, u4, u5, u6⟩, ⟨v0, v1, v2, v3, v4, v5, v6⟩, r0, r1, r2, -⟩ := hSw
            go_simp <;> with_reducible rfl
          try simp only [Act.put, List.setIfInBounds_toArray, List.set_cons_zero, List.set_cons_succ]
          refine take_yes (i := 37) (v := ?v37b) rfl (by kernel_rfl) (by kernel_rfl) (by kernel_rfl) (fun _ _ _ h => h) (by rfl) ?hy37b hHeld ?rest37b
          case hy37b =>
            intro w' hSw
            obtain ⟨⟨u0, u1, u2, u3, u4, u5, u6⟩, ⟨v0, v1, v2, v3, v4, v5, v6⟩, r0, r1, r2, -⟩ := hSw
            go_simp <;> with_reducible rfl
          try simp only [Act.put, List.setIfInBounds_toArray, List.set_cons_zero, List.set_cons_succ]
          refine take_yes (i := 38) (v := ?v38b) rfl (by kernel_rfl) (by kernel_rfl) (by kernel_rfl) (fun _ _ _ h => h) (by rfl) ?hy38b hHeld ?rest38b
          case hy38b =>
            intro w' hSw
            obtain ⟨⟨u0, u1, u2, u3, u4, u5, u6⟩, ⟨v0, v1, v2, v3, v4, v5, v6⟩, r0, r1, r2, -⟩ := hSw
            go_simp <;> with_reducible rfl
          try simp only [Act.put, List.setIfInBounds_toArray, List.set_cons_zero, List.set_cons_succ]
          refine take_yes (i := 39) (v := ?v39b) rfl (by kernel_rfl) (by kernel_rfl) (by kernel_rfl) (fun _ _ _ h => h) (by rfl) ?hy39b hHeld ?rest39b
          case hy39b =>
            intro w' hSw
            obtain ⟨⟨u0, u1, u2, u3, u4, u5, u6⟩, ⟨v0, v1, v2, v3, v4, v5, v6⟩, r0, r1, r2, -⟩ := hSw
            go_simp <;> with_reducible rfl
          try simp only [Act.put, List.setIfInBounds_toArray, List.set_cons_zero, List.set_cons_succ]
          refine take_yes (i := 40) (v := ?v40b) rfl (by kernel_rfl) (by kernel_rfl) (by kernel_rfl) (fun _ _ _ h => h) (by rfl) ?hy40b hHeld ?rest40b
          case hy40b =>
            intro w' hSw
            obtain ⟨⟨u0, u1, u2, u3, u4, u5, u6⟩, ⟨v0, v1, v2, v3, v4, v5, v6⟩, r0, r1, r2, -⟩ := hSw
            go_simp <;> with_reducible rfl
          try simp only [Act.put, List.setIfInBounds_toArray, List.set_cons_zero, List.set_cons_succ]
          refine take_yes (i := 41) (v := ?v41b) rfl (by kernel_rfl) (by kernel_rfl) (by kernel_rfl) (fun _ _ _ h => h) (by rfl) ?hy41b hHeld ?rest41b
          case hy41b =>
            intro w' hSw
            obtain ⟨⟨u0, u1, u2, u3, u4, u5, u6⟩, ⟨v0, v1, v2, v3, v4, v5, v6⟩, r0, r1, r2, -⟩ := hSw
            go_simp <;> with_reducible rfl
          try simp only [Act.put, List.setIfInBounds_toArray, List.set_cons_zero, List.set_cons_succ]
          refine wpAnyH_ready (rs := [42]) (by kernel_rfl) (by simp) (cons_at (i := 42) rfl (fun K42b hK42b => ?_) AllReadyH.nil)
          go_simp
          go_at_call 13
          with_reducible refine (watch_sees_at ((HM8.out.later hbq).later (by first | exact Below.refl _ _ | exact (Below.refl _ _).drew)) (hid (f4.out rfl))).mono ?_
          rintro x W10 ⟨rfl, hb10⟩
          obtain ⟨z1, z2, z3, z4, z6, z5⟩ := hHeld
          have y5 := z5.trans (hb10.mono z5.size)
          have y1 := cells7_below z1 hb10
          have y2 := cells7_below z2 hb10
          have y3 := cell_below hb10 z3
          have y4 := cell_below hb10 z4
          have y6 := cell_below hb10 z6
          clear hb10 z1 z2 z3 z4 z5 z6
          go_wp2_with fail
          refine hK42b.out _ _ ⟨y1, y2, y3, y4, y6, y5⟩ (fun hHeld => ?_)
          clear hK42b K42b
          try simp only [Act.put, List.setIfInBounds_toArray, List.set_cons_zero, List.set_cons_succ]
          refine take_yes (i := 43) (v := ?v43b) rfl (by kernel_rfl) (by kernel_rfl) (by kernel_rfl) (fun _ _ _ h => h) (by rfl) ?hy43b hHeld ?rest43b
          case hy43b =>
            intro w' hSw
            obtain ⟨⟨u0, u1, u2, u3, u4, u5, u6⟩, ⟨v0, v1, v2, v3, v4, v5, v6⟩, r0, r1, r2, -⟩ := hSw
            go_simp <;> with_reducible rfl
          try simp only [Act.put, List.setIfInBounds_toArray, List.set_cons_zero, List.set_cons_succ]
          refine take_yes (i := 44) (v := ?v44b) rfl (by kernel_rfl) (by kernel_rfl) (by kernel_rfl) (fun _ _ _ h => h) (by rfl) ?hy44b hHeld ?rest44b
          case hy44b =>
            intro w' hSw
            obtain ⟨⟨u0, u1, u2, u3, u4, u5, u6⟩, ⟨v0, v1, v2, v3, v4, v5, v6⟩, r0, r1, r2, -⟩ := hSw
            go_simp <;> with_reducible rfl
          try simp only [Act.put, List.setIfInBounds_toArray, List.set_cons_zero, List.set_cons_succ]
          refine take_yes (i := 45) (v := ?v45b) rfl (by kernel_rfl) (by kernel_rfl) (by kernel_rfl) (fun _ _ _ h => h) (by rfl) ?hy45b hHeld ?rest45b
          case hy45b =>
            intro w' hSw
            obtain ⟨⟨u0, u1, u2, u3, u4, u5, u6⟩, ⟨v0, v1, v2, v3, v4, v5, v6⟩, r0, r1, r2, -⟩ := hSw
            go_simp <;> with_reducible rfl
          try simp only [Act.put, List.setIfInBounds_toArray, List.set_cons_zero, List.set_cons_succ]
          refine take_yes (i := 46) (v := ?v46b) rfl (by kernel_rfl) (by kernel_rfl) (by kernel_rfl) (fun _ _ _ h => h) (by rfl) ?hy46b hHeld ?rest46b
          case hy46b =>
            intro w' hSw
            obtain ⟨⟨u0, u1, u2, u3, u4, u5, u6⟩, ⟨v0, v1, v2, v3, v4, v5, v6⟩, r0, r1, r2, -⟩ := hSw
            go_simp <;> with_reducible rfl
          try simp only [Act.put, List.setIfInBounds_toArray, List.set_cons_zero, List.set_cons_succ]
          refine take_yes (i := 47) (v := ?v47b) rfl (by kernel_rfl) (by kernel_rfl) (by kernel_rfl) (fun _ _ _ h => h) (by rfl) ?hy47b hHeld ?rest47b
          case hy47b =>
            intro w' hSw
            obtain ⟨⟨u0, u1, u2, u3, u4, u5, u6⟩, ⟨v0, v1, v2, v3, v4, v5, v6⟩, r0, r1, r2, -⟩ := hSw
            go_simp <;> with_reducible rfl
          try simp only [Act.put, List.setIfInBounds_toArray, List.set_cons_zero, List.set_cons_succ]
          refine take_yes (i := 48) (v := ?v48b) rfl (by kernel_rfl) (by kernel_rfl) (by kernel_rfl) (fun _ _ _ h => h) (by rfl) ?hy48b hHeld ?rest48b
          case hy48b =>
            intro w' hSw
            obtain ⟨⟨u0, u1, u2, u3, u4, u5, u6⟩, ⟨v0, v1, v2, v3, v4, v5, v6⟩, r0, r1, r2, -⟩ := hSw
            go_simp <;> with_reducible rfl
          try simp only [Act.put, List.setIfInBounds_toArray, List.set_cons_zero, List.set_cons_succ]
          refine take_yes (i := 49) (v := ?v49b) rfl (by kernel_rfl) (by kernel_rfl) (by kernel_rfl) (fun _ _ _ h => h) (by rfl) ?hy49b hHeld ?rest49b
          case hy49b =>
            intro w' hSw
            obtain ⟨⟨u0, u1, u2, u3, u4, u5, u6⟩, ⟨v0, v1, v2, v3, v4, v5, v6⟩, r0, r1, r2, -⟩ := hSw
            go_simp <;> with_reducible rfl
          try simp only [Act.put, List.setIfInBounds_toArray, List.set_cons_zero, List.set_cons_succ]
          refine take_yes (i := 50) (v := ?v50b) rfl (by kernel_rfl) (by kernel_rfl) (by kernel_rfl) (fun _ _ _ h => h) (by rfl) ?hy50b hHeld ?rest50b
          case hy50b =>
            intro w' hSw
            obtain ⟨⟨u0, u1, u2, u3, u4, u5, u6⟩, ⟨v0, v1, v2, v3, v4, v5, v6⟩, r0, r1, r2, -⟩ := hSw
            go_simp <;> with_reducible rfl
          try simp only [Act.put, List.setIfInBounds_toArray, List.set_cons_zero, List.set_cons_succ]
          refine take_no (i := 51) rfl (by kernel_rfl) (by kernel_rfl) (by kernel_rfl) (fun _ _ _ h => h) (by rfl) hHeld ?rest51b
          try simp only [Act.put, List.setIfInBounds_toArray, List.set_cons_zero, List.set_cons_succ]
          refine take_no (i := 52) rfl (by kernel_rfl) (by kernel_rfl) (by kernel_rfl) (fun _ _ _ h => h) (by rfl) hHeld ?rest52b
          try simp only [Act.put, List.setIfInBounds_toArray, List.set_cons_zero, List.set_cons_succ]
          refine take_no (i := 53) rfl (by kernel_rfl) (by kernel_rfl) (by kernel_rfl) (fun _ _ _ h => h) (by rfl) hHeld ?rest53b
          try simp only [Act.put, List.setIfInBounds_toArray, List.set_cons_zero, List.set_cons_succ]
          refine take_no (i := 54) rfl (by kernel_rfl) (by kernel_rfl) (by kernel_rfl) (fun _ _ _ h => h) (by rfl) hHeld ?rest54b
          try simp only [Act.put, List.setIfInBounds_toArray, List.set_cons_zero, List.set_cons_succ]
          refine take_no (i := 55) rfl (by kernel_rfl) (by kernel_rfl) (by kernel_rfl) (fun _ _ _ h => h) (by rfl) hHeld ?rest55b
          try simp only [Act.put, List.setIfInBounds_toArray, List.set_cons_zero, List.set_cons_succ]
          refine take_yes (i := 56) (v := ?v56b) rfl (by kernel_rfl) (by kernel_rfl) (by kernel_rfl) (fun _ _ _ h => h) (by rfl) ?hy56b hHeld ?rest56b
          case hy56b =>
            intro w' hSw
            obtain ⟨⟨u0, u1, u2, u3, u4, u5, u6⟩, ⟨v0, v1, v2, v3, v4, v5, v6⟩, r0, r1, r2, -⟩ := hSw
            go_simp <;> with_reducible rfl
          try simp only [Act.put, List.setIfInBounds_toArray, List.set_cons_zero, List.set_cons_succ]
          refine take_yes (i := 57) (v := ?v57b) rfl (by kernel_rfl) (by kernel_rfl) (by kernel_rfl) (fun _ _ _ h => h) (by rfl) ?hy57b hHeld ?rest57b
          case hy57b =>
            intro w' hSw
            obtain ⟨⟨u0, u1, u2, u3, u4, u5, u6⟩, ⟨v0, v1, v2, v3, v4, v5, v6⟩, r0, r1, r2, -⟩ := hSw
            go_simp <;> with_reducible rfl
          try simp only [Act.put, List.setIfInBounds_toArray, List.set_cons_zero, List.set_cons_succ]
          refine take_no (i := 58) rfl (by kernel_rfl) (by kernel_rfl) (by kernel_rfl) (fun _ _ _ h => h) (by rfl) hHeld ?rest58b
          try simp only [Act.put, List.setIfInBounds_toArray, List.set_cons_zero, List.set_cons_succ]
          refine take_no (i := 59) rfl (by kernel_rfl) (by kernel_rfl) (by kernel_rfl) (fun _ _ _ h => h) (by rfl) hHeld ?rest59b
          try simp only [Act.put, List.setIfInBounds_toArray, List.set_cons_zero, List.set_cons_succ]
          refine take_no (i := 60) rfl (by kernel_rfl) (by kernel_rfl) (by kernel_rfl) (fun _ _ _ h => h) (by rfl) hHeld ?rest60b
          try simp only [Act.put, List.setIfInBounds_toArray, List.set_cons_zero, List.set_cons_succ]
          refine take_no (i := 61) rfl (by kernel_rfl) (by kernel_rfl) (by kernel_rfl) (fun _ _ _ h => h) (by rfl) hHeld ?rest61b
          try simp only [Act.put, List.setIfInBounds_toArray, List.set_cons_zero, List.set_cons_succ]
          refine take_no (i := 62) rfl (by kernel_rfl) (by kernel_rfl) (by kernel_rfl) (fun _ _ _ h => h) (by rfl) hHeld ?rest62b
          try simp only [Act.put, List.setIfInBounds_toArray, List.set_cons_zero, List.set_cons_succ]
          refine take_no (i := 63) rfl (by kernel_rfl) (by kernel_rfl) (by kernel_rfl) (fun _ _ _ h => h) (by rfl) hHeld ?rest63b
          try simp only [Act.put, List.setIfInBounds_toArray, List.set_cons_zero, List.set_cons_succ]
          refine take_no (i := 64) rfl (by kernel_rfl) (by kernel_rfl) (by kernel_rfl) (fun _ _ _ h => h) (by rfl) hHeld ?rest64b
          try simp only [Act.put, List.setIfInBounds_toArray, List.set_cons_zero, List.set_cons_succ]
          refine take_no (i := 65) rfl (by kernel_rfl) (by kernel_rfl) (by kernel_rfl) (fun _ _ _ h => h) (by rfl) hHeld ?rest65b
          try simp only [Act.put, List.setIfInBounds_toArray, List.set_cons_zero, List.set_cons_succ]
          refine take_no (i := 66) rfl (by kernel_rfl) (by kernel_rfl) (by kernel_rfl) (fun _ _ _ h => h) (by rfl) hHeld ?rest66b
          try simp only [Act.put, List.setIfInBounds_toArray, List.set_cons_zero, List.set_cons_succ]
          refine take_yes (i := 67) (v := ?v67b) rfl (by kernel_rfl) (by kernel_rfl) (by kernel_rfl) (fun _ _ _ h => h) (by rfl) ?hy67b hHeld ?rest67b
          case hy67b =>
            intro w' hSw
            obtain ⟨⟨u0, u1, u2, u3, u4, u5, u6⟩, ⟨v0, v1, v2, v3, v4, v5, v6⟩, r0, r1, r2, -⟩ := hSw
            go_simp <;> with_reducible rfl
          try simp only [Act.put, List.setIfInBounds_toArray, List.set_cons_zero, List.set_cons_succ]
          refine take_yes (i := 68) (v := ?v68b) rfl (by kernel_rfl) (by kernel_rfl) (by kernel_rfl) (fun _ _ _ h => h) (by rfl) ?hy68b hHeld ?rest68b
          case hy68b =>
            intro w' hSw
            obtain ⟨⟨u0, u1, u2, u3, u4, u5, u6⟩, ⟨v0, v1, v2, v3, v4, v5, v6⟩, r0, r1, r2, -⟩ := hSw
            go_simp <;> with_reducible rfl
          try simp only [Act.put, List.setIfInBounds_toArray, List.set_cons_zero, List.set_cons_succ]
          refine wpAnyH_done (by kernel_rfl) ?_ _
          obtain ⟨-, -, -, -, -, hb11⟩ := hHeld
          clear u0 u1 u2 u3 u4 u5 u6 v0 v1 v2 v3 v4 v5 v6 hcl kp0 kp1
          go_wp2_with fail
          go_roundw
          case rel => exact ⟨k + 1, by omega, by go_num, hbq.trans (hb11.mono hbq.size)⟩
          case measure => simp [intOf]; omega
        · skip
          go_upto_region 17 with fail
          refine wp_region_held_drew (S := fun w' => cells7 w' ab (k * 7) ⟨true, ps, pst, ⟨p0, p1, p2, p3⟩⟩ ∧ cells7 w' nb (k * 7) ⟨true, ps, pst, ⟨p0, p1, p2, p3⟩⟩ ∧ w'.cell? ⟨b, off + i * 23 + 16, none⟩ = some (.int .i64 c.cl) ∧ w'.cell? ⟨pb, 0, none⟩ = some (.int .i64 a10) ∧ w'.cell? ⟨pb, 1, none⟩ = some (.int .i64 a11) ∧ Below wr.heap.size wr w') (by kernel_rfl) ⟨⟨u0, u1, u2, u3, u4, u5, u6⟩, ⟨v0, v1, v2, v3, v4, v5, v6⟩, hcl, kp0, kp1, (Below.refl _ _).drew⟩ (fun hHeld => ?_)
          refine take_yes (i := 0) (v := ?v0c) rfl (by kernel_rfl) (by kernel_rfl) (by kernel_rfl) (fun _ _ _ h => h) (by rfl) ?hy0c hHeld ?rest0c
          case hy0c =>
            intro w' hSw
            obtain ⟨⟨u0, u1, u2, u3, u4, u5, u6⟩, ⟨v0, v1, v2, v3, v4, v5, v6⟩, r0, r1, r2, -⟩ := hSw
            go_simp <;> with_reducible rfl
          try simp only [Act.put, List.setIfInBounds_toArray, List.set_cons_zero, List.set_cons_succ]
          refine take_yes (i := 1) (v := ?v1c) rfl (by kernel_rfl) (by kernel_rfl) (by kernel_rfl) (fun _ _ _ h => h) (by rfl) ?hy1c hHeld ?rest1c
          case hy1c =>
            intro w' hSw
            obtain ⟨⟨u0, u1, u2, u3, u4, u5, u6⟩, ⟨v0, v1, v2, v3, v4, v5, v6⟩, r0, r1, r2, -⟩ := hSw
            go_simp <;> with_reducible rfl
          try simp only [Act.put, List.setIfInBounds_toArray, List.set_cons_zero, List.set_cons_succ]
          refine take_yes (i := 2) (v := ?v2c) rfl (by kernel_rfl) (by kernel_rfl) (by kernel_rfl) (fun _ _ _ h => h) (by rfl) ?hy2c hHeld ?rest2c
          case hy2c =>
            intro w' hSw
            obtain ⟨⟨u0, u1, u2, u3, u4, u5, u6⟩, ⟨v0, v1, v2, v3, v4, v5, v6⟩, r0, r1, r2, -⟩ := hSw
            go_simp <;> with_reducible rfl
          try simp only [Act.put, List.setIfInBounds_toArray, List.set_cons_zero, List.set_cons_succ]
          refine take_no (i := 3) rfl (by kernel_rfl) (by kernel_rfl) (by kernel_rfl) (fun _ _ _ h => h) (by rfl) hHeld ?rest3c
          try simp only [Act.put, List.setIfInBounds_toArray, List.set_cons_zero, List.set_cons_succ]
          refine take_no (i := 4) rfl (by kernel_rfl) (by kernel_rfl) (by kernel_rfl) (fun _ _ _ h => h) (by rfl) hHeld ?rest4c
          try simp only [Act.put, List.setIfInBounds_toArray, List.set_cons_zero, List.set_cons_succ]
          refine take_no (i := 5) rfl (by kernel_rfl) (by kernel_rfl) (by kernel_rfl) (fun _ _ _ h => h) (by rfl) hHeld ?rest5c
          try simp only [Act.put, List.setIfInBounds_toArray, List.set_cons_zero, List.set_cons_succ]
          refine take_no (i := 6) rfl (by kernel_rfl) (by kernel_rfl) (by kernel_rfl) (fun _ _ _ h => h) (by rfl) hHeld ?rest6c
          try simp only [Act.put, List.setIfInBounds_toArray, List.set_cons_zero, List.set_cons_succ]
          refine take_no (i := 7) rfl (by kernel_rfl) (by kernel_rfl) (by kernel_rfl) (fun _ _ _ h => h) (by rfl) hHeld ?rest7c
          try simp only [Act.put, List.setIfInBounds_toArray, List.set_cons_zero, List.set_cons_succ]
          refine take_no (i := 8) rfl (by kernel_rfl) (by kernel_rfl) (by kernel_rfl) (fun _ _ _ h => h) (by rfl) hHeld ?rest8c
          try simp only [Act.put, List.setIfInBounds_toArray, List.set_cons_zero, List.set_cons_succ]
          refine take_no (i := 9) rfl (by kernel_rfl) (by kernel_rfl) (by kernel_rfl) (fun _ _ _ h => h) (by rfl) hHeld ?rest9c
          try simp only [Act.put, List.setIfInBounds_toArray, List.set_cons_zero, List.set_cons_succ]
          refine take_no (i := 10) rfl (by kernel_rfl) (by kernel_rfl) (by kernel_rfl) (fun _ _ _ h => h) (by rfl) hHeld ?rest10c
          try simp only [Act.put, List.setIfInBounds_toArray, List.set_cons_zero, List.set_cons_succ]
          refine take_yes (i := 11) (v := ?v11c) rfl (by kernel_rfl) (by kernel_rfl) (by kernel_rfl) (fun _ _ _ h => h) (by rfl) ?hy11c hHeld ?rest11c
          case hy11c =>
            intro w' hSw
            obtain ⟨⟨u0, u1, u2, u3, u4, u5, u6⟩, ⟨v0, v1, v2, v3, v4, v5, v6⟩, r0, r1, r2, -⟩ := hSw
            go_simp <;> with_reducible rfl
          try simp only [Act.put, List.setIfInBounds_toArray, List.set_cons_zero, List.set_cons_succ]
          refine take_yes (i := 12) (v := ?v12c) rfl (by kernel_rfl) (by kernel_rfl) (by kernel_rfl) (fun _ _ _ h => h) (by rfl) ?hy12c hHeld ?rest12c
          case hy12c =>
            intro w' hSw
            obtain ⟨⟨u0, u1, u2, u3, u4, u5, u6⟩, ⟨v0, v1, v2, v3, v4, v5, v6⟩, r0, r1, r2, -⟩ := hSw
            go_simp <;> with_reducible rfl
          try simp only [Act.put, List.setIfInBounds_toArray, List.set_cons_zero, List.set_cons_succ]
          refine take_yes (i := 13) (v := ?v13c) rfl (by kernel_rfl) (by kernel_rfl) (by kernel_rfl) (fun _ _ _ h => h) (by rfl) ?hy13c hHeld ?rest13c
          case hy13c =>
            intro w' hSw
            obtain ⟨⟨u0, u1, u2, u3, u4, u5, u6⟩, ⟨v0, v1, v2, v3, v4, v5, v6⟩, r0, r1, r2, -⟩ := hSw
            go_simp <;> with_reducible rfl
          try simp only [Act.put, List.setIfInBounds_toArray, List.set_cons_zero, List.set_cons_succ]
          refine take_yes (i := 14) (v := ?v14c) rfl (by kernel_rfl) (by kernel_rfl) (by kernel_rfl) (fun _ _ _ h => h) (by rfl) ?hy14c hHeld ?rest14c
          case hy14c =>
            intro w' hSw
            obtain ⟨⟨u0, u1, u2, u3, u4, u5, u6⟩, ⟨v0, v1, v2, v3, v4, v5, v6⟩, r0, r1, r2, -⟩ := hSw
            go_simp <;> with_reducible rfl
          try simp only [Act.put, List.setIfInBounds_toArray, List.set_cons_zero, List.set_cons_succ]
          refine take_yes (i := 15) (v := ?v15c) rfl (by kernel_rfl) (by kernel_rfl) (by kernel_rfl) (fun _ _ _ h => h) (by rfl) ?hy15c hHeld ?rest15c
          case hy15c =>
            intro w' hSw
            obtain ⟨⟨u0, u1, u2, u3, u4, u5, u6⟩, ⟨v0, v1, v2, v3, v4, v5, v6⟩, r0, r1, r2, -⟩ := hSw
            go_simp <;> with_reducible rfl
          try simp only [Act.put, List.setIfInBounds_toArray, List.set_cons_zero, List.set_cons_succ]
          refine take_yes (i := 16) (v := ?v16c) rfl (by kernel_rfl) (by kernel_rfl) (by kernel_rfl) (fun _ _ _ h => h) (by rfl) ?hy16c hHeld ?rest16c
          case hy16c =>
            intro w' hSw
            obtain ⟨⟨u0, u1, u2, u3, u4, u5, u6⟩, ⟨v0, v1, v2, v3, v4, v5, v6⟩, r0, r1, r2, -⟩ := hSw
            go_simp <;> with_reducible rfl
          try simp only [Act.put, List.setIfInBounds_toArray, List.set_cons_zero, List.set_cons_succ]
          refine take_yes (i := 17) (v := ?v17c) rfl (by kernel_rfl) (by kernel_rfl) (by kernel_rfl) (fun _ _ _ h => h) (by rfl) ?hy17c hHeld ?rest17c
          case hy17c =>
            intro w' hSw
            obtain ⟨⟨u0, u1, u2, u3, u4, u5, u6⟩, ⟨v0, v1, v2, v3, v4, v5, v6⟩, r0, r1, r2, -⟩ := hSw
            go_simp <;> with_reducible rfl
          try simp only [Act.put, List.setIfInBounds_toArray, List.set_cons_zero, List.set_cons_succ]
          refine take_yes (i := 18) (v := ?v18c) rfl (by kernel_rfl) (by kernel_rfl) (by kernel_rfl) (fun _ _ _ h => h) (by rfl) ?hy18c hHeld ?rest18c
          case hy18c =>
            intro w' hSw
            obtain ⟨⟨u0, u1, u2, u3, u4, u5, u6⟩, ⟨v0, v1, v2, v3, v4, v5, v6⟩, r0, r1, r2, -⟩ := hSw
            go_simp <;> with_reducible rfl
          try simp only [Act.put, List.setIfInBounds_toArray, List.set_cons_zero, List.set_cons_succ]
          refine take_yes (i := 19) (v := ?v19c) rfl (by kernel_rfl) (by kernel_rfl) (by kernel_rfl) (fun _ _ _ h => h) (by rfl) ?hy19c hHeld ?rest19c
          case hy19c =>
            intro w' hSw
            obtain ⟨⟨u0, u1, u2, u3, u4, u5, u6⟩, ⟨v0, v1, v2, v3, v4, v5, v6⟩, r0, r1, r2, -⟩ := hSw
            go_simp <;> with_reducible rfl
          try simp only [Act.put, List.setIfInBounds_toArray, List.set_cons_zero, List.set_cons_succ]
          refine take_yes (i := 20) (v := ?v20c) rfl (by kernel_rfl) (by kernel_rfl) (by kernel_rfl) (fun _ _ _ h => h) (by rfl) ?hy20c hHeld ?rest20c
          case hy20c =>
            intro w' hSw
            obtain ⟨⟨u0, u1, u2, u3, u4, u5, u6⟩, ⟨v0, v1, v2, v3, v4, v5, v6⟩, r0, r1, r2, -⟩ := hSw
            go_simp <;> with_reducible rfl
          try simp only [Act.put, List.setIfInBounds_toArray, List.set_cons_zero, List.set_cons_succ]
          refine take_yes (i := 21) (v := ?v21c) rfl (by kernel_rfl) (by kernel_rfl) (by kernel_rfl) (fun _ _ _ h => h) (by rfl) ?hy21c hHeld ?rest21c
          case hy21c =>
            intro w' hSw
            obtain ⟨⟨u0, u1, u2, u3, u4, u5, u6⟩, ⟨v0, v1, v2, v3, v4, v5, v6⟩, r0, r1, r2, -⟩ := hSw
            go_simp <;> with_reducible rfl
          try simp only [Act.put, List.setIfInBounds_toArray, List.set_cons_zero, List.set_cons_succ]
          refine take_yes (i := 22) (v := ?v22c) rfl (by kernel_rfl) (by kernel_rfl) (by kernel_rfl) (fun _ _ _ h => h) (by rfl) ?hy22c hHeld ?rest22c
          case hy22c =>
            intro w' hSw
            obtain ⟨⟨u0, u1, u2, u3, u4, u5, u6⟩, ⟨v0, v1, v2, v3, v4, v5, v6⟩, r0, r1, r2, -⟩ := hSw
            go_simp <;> with_reducible rfl
          try simp only [Act.put, List.setIfInBounds_toArray, List.set_cons_zero, List.set_cons_succ]
          refine take_yes (i := 23) (v := ?v23c) rfl (by kernel_rfl) (by kernel_rfl) (by kernel_rfl) (fun _ _ _ h => h) (by rfl) ?hy23c hHeld ?rest23c
          case hy23c =>
            intro w' hSw
            obtain ⟨⟨u0, u1, u2, u3, u4, u5, u6⟩, ⟨v0, v1, v2, v3, v4, v5, v6⟩, r0, r1, r2, -⟩ := hSw
            go_simp <;> with_reducible rfl
          try simp only [Act.put, List.setIfInBounds_toArray, List.set_cons_zero, List.set_cons_succ]
          refine take_yes (i := 24) (v := ?v24c) rfl (by kernel_rfl) (by kernel_rfl) (by kernel_rfl) (fun _ _ _ h => h) (by rfl) ?hy24c hHeld ?rest24c
          case hy24c =>
            intro w' hSw
            obtain ⟨⟨u0, u1, u2, u3, u4, u5, u6⟩, ⟨v0, v1, v2, v3, v4, v5, v6⟩, r0, r1, r2, -⟩ := hSw
            go_simp <;> with_reducible rfl
          try simp only [Act.put, List.setIfInBounds_toArray, List.set_cons_zero, List.set_cons_succ]
          refine take_yes (i := 25) (v := ?v25c) rfl (by kernel_rfl) (by kernel_rfl) (by kernel_rfl) (fun _ _ _ h => h) (by rfl) ?hy25c hHeld ?rest25c
          case hy25c =>
            intro w' hSw
            obtain ⟨⟨u0, u1, u2, u3, u4, u5, u6⟩, ⟨v0, v1, v2, v3, v4, v5, v6⟩, r0, r1, r2, -⟩ := hSw
            go_simp <;> with_reducible rfl
          try simp only [Act.put, List.setIfInBounds_toArray, List.set_cons_zero, List.set_cons_succ]
          refine take_yes (i := 26) (v := ?v26c) rfl (by kernel_rfl) (by kernel_rfl) (by kernel_rfl) (fun _ _ _ h => h) (by rfl) ?hy26c hHeld ?rest26c
          case hy26c =>
            intro w' hSw
            obtain ⟨⟨u0, u1, u2, u3, u4, u5, u6⟩, ⟨v0, v1, v2, v3, v4, v5, v6⟩, r0, r1, r2, -⟩ := hSw
            go_simp <;> with_reducible rfl
          try simp only [Act.put, List.setIfInBounds_toArray, List.set_cons_zero, List.set_cons_succ]
          refine take_yes (i := 27) (v := ?v27c) rfl (by kernel_rfl) (by kernel_rfl) (by kernel_rfl) (fun _ _ _ h => h) (by rfl) ?hy27c hHeld ?rest27c
          case hy27c =>
            intro w' hSw
            obtain ⟨⟨u0, u1, u2, u3, u4, u5, u6⟩, ⟨v0, v1, v2, v3, v4, v5, v6⟩, r0, r1, r2, -⟩ := hSw
            go_simp <;> with_reducible rfl
          try simp only [Act.put, List.setIfInBounds_toArray, List.set_cons_zero, List.set_cons_succ]
          refine take_yes (i := 28) (v := ?v28c) rfl (by kernel_rfl) (by kernel_rfl) (by kernel_rfl) (fun _ _ _ h => h) (by rfl) ?hy28c hHeld ?rest28c
          case hy28c =>
            intro w' hSw
            obtain ⟨⟨u0, u1, u2, u3, u4, u5, u6⟩, ⟨v0, v1, v2, v3, v4, v5, v6⟩, r0, r1, r2, -⟩ := hSw
            go_simp <;> with_reducible rfl
          try simp only [Act.put, List.setIfInBounds_toArray, List.set_cons_zero, List.set_cons_succ]
          refine take_yes (i := 29) (v := ?v29c) rfl (by kernel_rfl) (by kernel_rfl) (by kernel_rfl) (fun _ _ _ h => h) (by rfl) ?hy29c hHeld ?rest29c
          case hy29c =>
            intro w' hSw
            obtain ⟨⟨u0, u1, u2, u3, u4, u5, u6⟩, ⟨v0, v1, v2, v3, v4, v5, v6⟩, r0, r1, r2, -⟩ := hSw
            go_simp <;> with_reducible rfl
          try simp only [Act.put, List.setIfInBounds_toArray, List.set_cons_zero, List.set_cons_succ]
          refine take_yes (i := 30) (v := ?v30c) rfl (by kernel_rfl) (by kernel_rfl) (by kernel_rfl) (fun _ _ _ h => h) (by rfl) ?hy30c hHeld ?rest30c
          case hy30c =>
            intro w' hSw
            obtain ⟨⟨u0, u1, u2, u3, u4, u5, u6⟩, ⟨v0, v1, v2, v3, v4, v5, v6⟩, r0, r1, r2, -⟩ := hSw
            go_simp <;> with_reducible rfl
          try simp only [Act.put, List.setIfInBounds_toArray, List.set_cons_zero, List.set_cons_succ]
          refine take_yes (i := 31) (v := ?v31c) rfl (by kernel_rfl) (by kernel_rfl) (by kernel_rfl) (fun _ _ _ h => h) (by rfl) ?hy31c hHeld ?rest31c
          case hy31c =>
            intro w' hSw
            obtain ⟨⟨u0, u1, u2, u3, u4, u5, u6⟩, ⟨v0, v1, v2, v3, v4, v5, v6⟩, r0, r1, r2, -⟩ := hSw
            go_simp <;> with_reducible rfl
          try simp only [Act.put, List.setIfInBounds_toArray, List.set_cons_zero, List.set_cons_succ]
          refine take_yes (i := 32) (v := ?v32c) rfl (by kernel_rfl) (by kernel_rfl) (by kernel_rfl) (fun _ _ _ h => h) (by rfl) ?hy32c hHeld ?rest32c
          case hy32c =>
            intro w' hSw
            obtain ⟨⟨u0, u1, u2, u3, u4, u5, u6⟩, ⟨v0, v1, v2, v3, v4, v5, v6⟩, r0, r1, r2, -⟩ := hSw
            go_simp <;> with_reducible rfl
          try simp only [Act.put, List.setIfInBounds_toArray, List.set_cons_zero, List.set_cons_succ]
          refine take_yes (i := 33) (v := ?v33c) rfl (by kernel_rfl) (by kernel_rfl) (by kernel_rfl) (fun _ _ _ h => h) (by rfl) ?hy33c hHeld ?rest33c
          case hy33c =>
            intro w' hSw
            obtain ⟨⟨u0, u1, u2, u3, u4, u5, u6⟩, ⟨v0, v1, v2, v3, v4, v5, v6⟩, r0, r1, r2, -⟩ := hSw
            go_simp <;> with_reducible rfl
          try simp only [Act.put, List.setIfInBounds_toArray, List.set_cons_zero, List.set_cons_succ]
          refine take_yes (i := 34) (v := ?v34c) rfl (by kernel_rfl) (by kernel_rfl) (by kernel_rfl) (fun _ _ _ h => h) (by rfl) ?hy34c hHeld ?rest34c
          case hy34c =>
            intro w' hSw
            obtain ⟨⟨u0, u1, u2, u3, u4, u5, u6⟩, ⟨v0, v1, v2, v3, v4, v5, v6⟩, r0, r1, r2, -⟩ := hSw
            go_simp <;> with_reducible rfl
          try simp only [Act.put, List.setIfInBounds_toArray, List.set_cons_zero, List.set_cons_succ]
          refine take_yes (i := 35) (v := ?v35c) rfl (by kernel_rfl) (by kernel_rfl) (by kernel_rfl) (fun _ _ _ h => h) (by rfl) ?hy35c hHeld ?rest35c
          case hy35c =>
            intro w' hSw
            obtain ⟨⟨u0, u1, u2, u3, u4, u5, u6⟩, ⟨v0, v1, v2, v3, v4, v5, v6⟩, r0, r1, r2, -⟩ := hSw
            go_simp <;> with_reducible rfl
          try simp only [Act.put, List.setIfInBounds_toArray, List.set_cons_zero, List.set_cons_succ]
          refine take_yes (i := 36) (v := ?v36c) rfl (by kernel_rfl) (by kernel_rfl) (by kernel_rfl) (fun _ _ _ h => h) (by rfl) ?hy36c hHeld ?rest36c
          case hy36c =>
            intro w' hSw
            obtain ⟨⟨u0, u1, u2, u3, u4, u5, u6⟩, ⟨v0, v1, v2, v3, v4, v5, v6⟩, r0, r1, r2, -⟩ := hSw
            go_simp <;> with_reducible rfl
          try simp only [Act.put, List.setIfInBounds_toArray, List.set_cons_zero, List.set_cons_succ]
          refine take_yes (i := 37) (v := ?v37c) rfl (by kernel_rfl) (by kernel_rfl) (by kernel_rfl) (fun _ _ _ h => h) (by rfl) ?hy37c hHeld ?rest37c
          case hy37c =>
            intro w' hSw
            obtain ⟨⟨u0, u1, u2, u3, u4, u5, u6⟩, ⟨v0, v1, v2, v3, v4, v5, v6⟩, r0, r1, r2, -⟩ := hSw
            go_simp <;> with_reducible rfl
          try simp only [Act.put, List.setIfInBounds_toArray, List.set_cons_zero, List.set_cons_succ]
          refine take_yes (i := 38) (v := ?v38c) rfl (by kernel_rfl) (by kernel_rfl) (by kernel_rfl) (fun _ _ _ h => h) (by rfl) ?hy38c hHeld ?rest38c
          case hy38c =>
            intro w' hSw
            obtain ⟨⟨u0, u1, u2, u3, u4, u5, u6⟩, ⟨v0, v1, v2, v3, v4, v5, v6⟩, r0, r1, r2, -⟩ := hSw
            go_simp <;> with_reducible rfl
          try simp only [Act.put, List.setIfInBounds_toArray, List.set_cons_zero, List.set_cons_succ]
          refine take_no (i := 39) rfl (by kernel_rfl) (by kernel_rfl) (by kernel_rfl) (fun _ _ _ h => h) (by rfl) hHeld ?rest39c
          try simp only [Act.put, List.setIfInBounds_toArray, List.set_cons_zero, List.set_cons_succ]
          refine take_no (i := 40) rfl (by kernel_rfl) (by kernel_rfl) (by kernel_rfl) (fun _ _ _ h => h) (by rfl) hHeld ?rest40c
          try simp only [Act.put, List.setIfInBounds_toArray, List.set_cons_zero, List.set_cons_succ]
          refine take_no (i := 41) rfl (by kernel_rfl) (by kernel_rfl) (by kernel_rfl) (fun _ _ _ h => h) (by rfl) hHeld ?rest41c
          try simp only [Act.put, List.setIfInBounds_toArray, List.set_cons_zero, List.set_cons_succ]
          refine take_no (i := 42) rfl (by kernel_rfl) (by kernel_rfl) (by kernel_rfl) (fun _ _ _ h => h) (by rfl) hHeld ?rest42c
          try simp only [Act.put, List.setIfInBounds_toArray, List.set_cons_zero, List.set_cons_succ]
          refine take_yes (i := 43) (v := ?v43c) rfl (by kernel_rfl) (by kernel_rfl) (by kernel_rfl) (fun _ _ _ h => h) (by rfl) ?hy43c hHeld ?rest43c
          case hy43c =>
            intro w' hSw
            obtain ⟨⟨u0, u1, u2, u3, u4, u5, u6⟩, ⟨v0, v1, v2, v3, v4, v5, v6⟩, r0, r1, r2, -⟩ := hSw
            go_simp <;> with_reducible rfl
          try simp only [Act.put, List.setIfInBounds_toArray, List.set_cons_zero, List.set_cons_succ]
          refine take_yes (i := 44) (v := ?v44c) rfl (by kernel_rfl) (by kernel_rfl) (by kernel_rfl) (fun _ _ _ h => h) (by rfl) ?hy44c hHeld ?rest44c
          case hy44c =>
            intro w' hSw
            obtain ⟨⟨u0, u1, u2, u3, u4, u5, u6⟩, ⟨v0, v1, v2, v3, v4, v5, v6⟩, r0, r1, r2, -⟩ := hSw
            go_simp <;> with_reducible rfl
          try simp only [Act.put, List.setIfInBounds_toArray, List.set_cons_zero, List.set_cons_succ]
          refine take_yes (i := 45) (v := ?v45c) rfl (by kernel_rfl) (by kernel_rfl) (by kernel_rfl) (fun _ _ _ h => h) (by rfl) ?hy45c hHeld ?rest45c
          case hy45c =>
            intro w' hSw
            obtain ⟨⟨u0, u1, u2, u3, u4, u5, u6⟩, ⟨v0, v1, v2, v3, v4, v5, v6⟩, r0, r1, r2, -⟩ := hSw
            go_simp <;> with_reducible rfl
          try simp only [Act.put, List.setIfInBounds_toArray, List.set_cons_zero, List.set_cons_succ]
          refine take_yes (i := 46) (v := ?v46c) rfl (by kernel_rfl) (by kernel_rfl) (by kernel_rfl) (fun _ _ _ h => h) (by rfl) ?hy46c hHeld ?rest46c
          case hy46c =>
            intro w' hSw
            obtain ⟨⟨u0, u1, u2, u3, u4, u5, u6⟩, ⟨v0, v1, v2, v3, v4, v5, v6⟩, r0, r1, r2, -⟩ := hSw
            go_simp <;> with_reducible rfl
          try simp only [Act.put, List.setIfInBounds_toArray, List.set_cons_zero, List.set_cons_succ]
          refine take_yes (i := 47) (v := ?v47c) rfl (by kernel_rfl) (by kernel_rfl) (by kernel_rfl) (fun _ _ _ h => h) (by rfl) ?hy47c hHeld ?rest47c
          case hy47c =>
            intro w' hSw
            obtain ⟨⟨u0, u1, u2, u3, u4, u5, u6⟩, ⟨v0, v1, v2, v3, v4, v5, v6⟩, r0, r1, r2, -⟩ := hSw
            go_simp <;> with_reducible rfl
          try simp only [Act.put, List.setIfInBounds_toArray, List.set_cons_zero, List.set_cons_succ]
          refine take_yes (i := 48) (v := ?v48c) rfl (by kernel_rfl) (by kernel_rfl) (by kernel_rfl) (fun _ _ _ h => h) (by rfl) ?hy48c hHeld ?rest48c
          case hy48c =>
            intro w' hSw
            obtain ⟨⟨u0, u1, u2, u3, u4, u5, u6⟩, ⟨v0, v1, v2, v3, v4, v5, v6⟩, r0, r1, r2, -⟩ := hSw
            go_simp <;> with_reducible rfl
          try simp only [Act.put, List.setIfInBounds_toArray, List.set_cons_zero, List.set_cons_succ]
          refine take_yes (i := 49) (v := ?v49c) rfl (by kernel_rfl) (by kernel_rfl) (by kernel_rfl) (fun _ _ _ h => h) (by rfl) ?hy49c hHeld ?rest49c
          case hy49c =>
            intro w' hSw
            obtain ⟨⟨u0, u1, u2, u3, u4, u5, u6⟩, ⟨v0, v1, v2, v3, v4, v5, v6⟩, r0, r1, r2, -⟩ := hSw
            go_simp <;> with_reducible rfl
          try simp only [Act.put, List.setIfInBounds_toArray, List.set_cons_zero, List.set_cons_succ]
          refine take_yes (i := 50) (v := ?v50c) rfl (by kernel_rfl) (by kernel_rfl) (by kernel_rfl) (fun _ _ _ h => h) (by rfl) ?hy50c hHeld ?rest50c
          case hy50c =>
            intro w' hSw
            obtain ⟨⟨u0, u1, u2, u3, u4, u5, u6⟩, ⟨v0, v1, v2, v3, v4, v5, v6⟩, r0, r1, r2, -⟩ := hSw
            go_simp <;> with_reducible rfl
          try simp only [Act.put, List.setIfInBounds_toArray, List.set_cons_zero, List.set_cons_succ]
          refine take_yes (i := 51) (v := ?v51c) rfl (by kernel_rfl) (by kernel_rfl) (by kernel_rfl) (fun _ _ _ h => h) (by rfl) ?hy51c hHeld ?rest51c
          case hy51c =>
            intro w' hSw
            obtain ⟨⟨u0, u1, u2, u3, u4, u5, u6⟩, ⟨v0, v1, v2, v3, v4, v5, v6⟩, r0, r1, r2, -⟩ := hSw
            go_simp <;> with_reducible rfl
          try simp only [Act.put, List.setIfInBounds_toArray, List.set_cons_zero, List.set_cons_succ]
          refine take_yes (i := 52) (v := ?v52c) rfl (by kernel_rfl) (by kernel_rfl) (by kernel_rfl) (fun _ _ _ h => h) (by rfl) ?hy52c hHeld ?rest52c
          case hy52c =>
            intro w' hSw
            obtain ⟨⟨u0, u1, u2, u3, u4, u5, u6⟩, ⟨v0, v1, v2, v3, v4, v5, v6⟩, r0, r1, r2, -⟩ := hSw
            go_simp <;> with_reducible rfl
          try simp only [Act.put, List.setIfInBounds_toArray, List.set_cons_zero, List.set_cons_succ]
          refine take_yes (i := 53) (v := ?v53c) rfl (by kernel_rfl) (by kernel_rfl) (by kernel_rfl) (fun _ _ _ h => h) (by rfl) ?hy53c hHeld ?rest53c
          case hy53c =>
            intro w' hSw
            obtain ⟨⟨u0, u1, u2, u3, u4, u5, u6⟩, ⟨v0, v1, v2, v3, v4, v5, v6⟩, r0, r1, r2, -⟩ := hSw
            go_simp <;> with_reducible rfl
          try simp only [Act.put, List.setIfInBounds_toArray, List.set_cons_zero, List.set_cons_succ]
          refine take_yes (i := 54) (v := ?v54c) rfl (by kernel_rfl) (by kernel_rfl) (by kernel_rfl) (fun _ _ _ h => h) (by rfl) ?hy54c hHeld ?rest54c
          case hy54c =>
            intro w' hSw
            obtain ⟨⟨u0, u1, u2, u3, u4, u5, u6⟩, ⟨v0, v1, v2, v3, v4, v5, v6⟩, r0, r1, r2, -⟩ := hSw
            go_simp <;> with_reducible rfl
          try simp only [Act.put, List.setIfInBounds_toArray, List.set_cons_zero, List.set_cons_succ]
          refine take_yes (i := 55) (v := ?v55c) rfl (by kernel_rfl) (by kernel_rfl) (by kernel_rfl) (fun _ _ _ h => h) (by rfl) ?hy55c hHeld ?rest55c
          case hy55c =>
            intro w' hSw
            obtain ⟨⟨u0, u1, u2, u3, u4, u5, u6⟩, ⟨v0, v1, v2, v3, v4, v5, v6⟩, r0, r1, r2, -⟩ := hSw
            go_simp <;> with_reducible rfl
          try simp only [Act.put, List.setIfInBounds_toArray, List.set_cons_zero, List.set_cons_succ]
          refine take_yes (i := 56) (v := ?v56c) rfl (by kernel_rfl) (by kernel_rfl) (by kernel_rfl) (fun _ _ _ h => h) (by rfl) ?hy56c hHeld ?rest56c
          case hy56c =>
            intro w' hSw
            obtain ⟨⟨u0, u1, u2, u3, u4, u5, u6⟩, ⟨v0, v1, v2, v3, v4, v5, v6⟩, r0, r1, r2, -⟩ := hSw
            go_simp <;> with_reducible rfl
          try simp only [Act.put, List.setIfInBounds_toArray, List.set_cons_zero, List.set_cons_succ]
          refine take_yes (i := 57) (v := ?v57c) rfl (by kernel_rfl) (by kernel_rfl) (by kernel_rfl) (fun _ _ _ h => h) (by rfl) ?hy57c hHeld ?rest57c
          case hy57c =>
            intro w' hSw
            obtain ⟨⟨u0, u1, u2, u3, u4, u5, u6⟩, ⟨v0, v1, v2, v3, v4, v5, v6⟩, r0, r1, r2, -⟩ := hSw
            go_simp <;> with_reducible rfl
          try simp only [Act.put, List.setIfInBounds_toArray, List.set_cons_zero, List.set_cons_succ]
          refine take_no (i := 58) rfl (by kernel_rfl) (by kernel_rfl) (by kernel_rfl) (fun _ _ _ h => h) (by rfl) hHeld ?rest58c
          try simp only [Act.put, List.setIfInBounds_toArray, List.set_cons_zero, List.set_cons_succ]
          refine take_no (i := 59) rfl (by kernel_rfl) (by kernel_rfl) (by kernel_rfl) (fun _ _ _ h => h) (by rfl) hHeld ?rest59c
          try simp only [Act.put, List.setIfInBounds_toArray, List.set_cons_zero, List.set_cons_succ]
          refine take_no (i := 60) rfl (by kernel_rfl) (by kernel_rfl) (by kernel_rfl) (fun _ _ _ h => h) (by rfl) hHeld ?rest60c
          try simp only [Act.put, List.setIfInBounds_toArray, List.set_cons_zero, List.set_cons_succ]
          refine take_no (i := 61) rfl (by kernel_rfl) (by kernel_rfl) (by kernel_rfl) (fun _ _ _ h => h) (by rfl) hHeld ?rest61c
          try simp only [Act.put, List.setIfInBounds_toArray, List.set_cons_zero, List.set_cons_succ]
          refine take_no (i := 62) rfl (by kernel_rfl) (by kernel_rfl) (by kernel_rfl) (fun _ _ _ h => h) (by rfl) hHeld ?rest62c
          try simp only [Act.put, List.setIfInBounds_toArray, List.set_cons_zero, List.set_cons_succ]
          refine take_no (i := 63) rfl (by kernel_rfl) (by kernel_rfl) (by kernel_rfl) (fun _ _ _ h => h) (by rfl) hHeld ?rest63c
          try simp only [Act.put, List.setIfInBounds_toArray, List.set_cons_zero, List.set_cons_succ]
          refine take_no (i := 64) rfl (by kernel_rfl) (by kernel_rfl) (by kernel_rfl) (fun _ _ _ h => h) (by rfl) hHeld ?rest64c
          try simp only [Act.put, List.setIfInBounds_toArray, List.set_cons_zero, List.set_cons_succ]
          refine take_no (i := 65) rfl (by kernel_rfl) (by kernel_rfl) (by kernel_rfl) (fun _ _ _ h => h) (by rfl) hHeld ?rest65c
          try simp only [Act.put, List.setIfInBounds_toArray, List.set_cons_zero, List.set_cons_succ]
          refine take_no (i := 66) rfl (by kernel_rfl) (by kernel_rfl) (by kernel_rfl) (fun _ _ _ h => h) (by rfl) hHeld ?rest66c
          try simp only [Act.put, List.setIfInBounds_toArray, List.set_cons_zero, List.set_cons_succ]
          refine take_yes (i := 67) (v := ?v67c) rfl (by kernel_rfl) (by kernel_rfl) (by kernel_rfl) (fun _ _ _ h => h) (by rfl) ?hy67c hHeld ?rest67c
          case hy67c =>
            intro w' hSw
            obtain ⟨⟨u0, u1, u2, u3, u4, u5, u6⟩, ⟨v0, v1, v2, v3, v4, v5, v6⟩, r0, r1, r2, -⟩ := hSw
            go_simp <;> with_reducible rfl
          try simp only [Act.put, List.setIfInBounds_toArray, List.set_cons_zero, List.set_cons_succ]
          refine take_yes (i := 68) (v := ?v68c) rfl (by kernel_rfl) (by kernel_rfl) (by kernel_rfl) (fun _ _ _ h => h) (by rfl) ?hy68c hHeld ?rest68c
          case hy68c =>
            intro w' hSw
            obtain ⟨⟨u0, u1, u2, u3, u4, u5, u6⟩, ⟨v0, v1, v2, v3, v4, v5, v6⟩, r0, r1, r2, -⟩ := hSw
            go_simp <;> with_reducible rfl
          try simp only [Act.put, List.setIfInBounds_toArray, List.set_cons_zero, List.set_cons_succ]
          refine wpAnyH_done (by kernel_rfl) ?_ _
          obtain ⟨-, -, -, -, -, hb11⟩ := hHeld
          clear u0 u1 u2 u3 u4 u5 u6 v0 v1 v2 v3 v4 v5 v6 hcl kp0 kp1
          go_wp2_with fail
          go_roundw
          case rel => exact ⟨k + 1, by omega, by go_num, hbq.trans (hb11.mono hbq.size)⟩
          case measure => simp [intOf]; omega
      have d0 : (E != 0) = false := by simpa using he
      by_cases hkc : (k : Int) = c.cl
      rotate_left
      · have d1 : ((k : Int) != c.cl) = true := by simpa using hkc
        obtain rfl : p = o := f3.out (.inr hkc)
        have hqq := equal_wt_at (eqW_self p)
        clear he f1 f2 f3 hkc
        obtain ⟨pon, ps, pst, p0, p1, p2, p3⟩ := p
        try simp only at hqq
        try simp only at d2
        try simp only at u0 u1 u2 u3 u4 u5 u6 v0 v1 v2 v3 v4 v5 v6
        cases pon
        · skip
          go_upto_region 17 with fail
          refine wp_region_held_drew (S := fun w' => cells7 w' ab (k * 7) ⟨false, ps, pst, ⟨p0, p1, p2, p3⟩⟩ ∧ cells7 w' nb (k * 7) ⟨false, ps, pst, ⟨p0, p1, p2, p3⟩⟩ ∧ w'.cell? ⟨b, off + i * 23 + 16, none⟩ = some (.int .i64 c.cl) ∧ w'.cell? ⟨pb, 0, none⟩ = some (.int .i64 a10) ∧ w'.cell? ⟨pb, 1, none⟩ = some (.int .i64 a11) ∧ Below wr.heap.size wr w') (by kernel_rfl) ⟨⟨u0, u1, u2, u3, u4, u5, u6⟩, ⟨v0, v1, v2, v3, v4, v5, v6⟩, hcl, kp0, kp1, (Below.refl _ _).drew⟩ (fun hHeld => ?_)
          refine take_yes (i := 0) (v := ?v0d) rfl (by kernel_rfl) (by kernel_rfl) (by kernel_rfl) (fun _ _ _ h => h) (by rfl) ?hy0d hHeld ?rest0d
          case hy0d =>
            intro w' hSw
            obtain ⟨⟨u0, u1, u2, u3, u4, u5, u6⟩, ⟨v0, v1, v2, v3, v4, v5, v6⟩, r0, r1, r2, -⟩ := hSw
            go_simp <;> with_reducible rfl
          try simp only [Act.put, List.setIfInBounds_toArray, List.set_cons_zero, List.set_cons_succ]
          refine take_yes (i := 1) (v := ?v1d) rfl (by kernel_rfl) (by kernel_rfl) (by kernel_rfl) (fun _ _ _ h => h) (by rfl) ?hy1d hHeld ?rest1d
          case hy1d =>
            intro w' hSw
            obtain ⟨⟨u0, u1, u2, u3, u4, u5, u6⟩, ⟨v0, v1, v2, v3, v4, v5, v6⟩, r0, r1, r2, -⟩ := hSw
            go_simp <;> with_reducible rfl
          try simp only [Act.put, List.setIfInBounds_toArray, List.set_cons_zero, List.set_cons_succ]
          refine take_yes (i := 2) (v := ?v2d) rfl (by kernel_rfl) (by kernel_rfl) (by kernel_rfl) (fun _ _ _ h => h) (by rfl) ?hy2d hHeld ?rest2d
          case hy2d =>
            intro w' hSw
            obtain ⟨⟨u0, u1, u2, u3, u4, u5, u6⟩, ⟨v0, v1, v2, v3, v4, v5, v6⟩, r0, r1, r2, -⟩ := hSw
            go_simp <;> with_reducible rfl
          try simp only [Act.put, List.setIfInBounds_toArray, List.set_cons_zero, List.set_cons_succ]
          refine take_yes (i := 3) (v := ?v3d) rfl (by kernel_rfl) (by kernel_rfl) (by kernel_rfl) (fun _ _ _ h => h) (by rfl) ?hy3d hHeld ?rest3d
          case hy3d =>
            intro w' hSw
            obtain ⟨⟨u0, u1, u2, u3, u4, u5, u6⟩, ⟨v0, v1, v2, v3, v4, v5, v6⟩, r0, r1, r2, -⟩ := hSw
            go_simp <;> with_reducible rfl
          try simp only [Act.put, List.setIfInBounds_toArray, List.set_cons_zero, List.set_cons_succ]
          refine take_yes (i := 4) (v := ?v4d) rfl (by kernel_rfl) (by kernel_rfl) (by kernel_rfl) (fun _ _ _ h => h) (by rfl) ?hy4d hHeld ?rest4d
          case hy4d =>
            intro w' hSw
            obtain ⟨⟨u0, u1, u2, u3, u4, u5, u6⟩, ⟨v0, v1, v2, v3, v4, v5, v6⟩, r0, r1, r2, -⟩ := hSw
            go_simp <;> with_reducible rfl
          try simp only [Act.put, List.setIfInBounds_toArray, List.set_cons_zero, List.set_cons_succ]
          refine take_yes (i := 5) (v := ?v5d) rfl (by kernel_rfl) (by kernel_rfl) (by kernel_rfl) (fun _ _ _ h => h) (by rfl) ?hy5d hHeld ?rest5d
          case hy5d =>
            intro w' hSw
            obtain ⟨⟨u0, u1, u2, u3, u4, u5, u6⟩, ⟨v0, v1, v2, v3, v4, v5, v6⟩, r0, r1, r2, -⟩ := hSw
            go_simp <;> with_reducible rfl
          try simp only [Act.put, List.setIfInBounds_toArray, List.set_cons_zero, List.set_cons_succ]
          refine take_yes (i := 6) (v := ?v6d) rfl (by kernel_rfl) (by kernel_rfl) (by kernel_rfl) (fun _ _ _ h => h) (by rfl) ?hy6d hHeld ?rest6d
          case hy6d =>
            intro w' hSw
            obtain ⟨⟨u0, u1, u2, u3, u4, u5, u6⟩, ⟨v0, v1, v2, v3, v4, v5, v6⟩, r0, r1, r2, -⟩ := hSw
            go_simp <;> with_reducible rfl
          try simp only [Act.put, List.setIfInBounds_toArray, List.set_cons_zero, List.set_cons_succ]
          refine take_yes (i := 7) (v := ?v7d) rfl (by kernel_rfl) (by kernel_rfl) (by kernel_rfl) (fun _ _ _ h => h) (by rfl) ?hy7d hHeld ?rest7d
          case hy7d =>
            intro w' hSw
            obtain ⟨⟨u0, u1, u2, u3, u4, u5, u6⟩, ⟨v0, v1, v2, v3, v4, v5, v6⟩, r0, r1, r2, -⟩ := hSw
            go_simp <;> with_reducible rfl
          try simp only [Act.put, List.setIfInBounds_toArray, List.set_cons_zero, List.set_cons_succ]
          refine take_yes (i := 8) (v := ?v8d) rfl (by kernel_rfl) (by kernel_rfl) (by kernel_rfl) (fun _ _ _ h => h) (by rfl) ?hy8d hHeld ?rest8d
          case hy8d =>
            intro w' hSw
            obtain ⟨⟨u0, u1, u2, u3, u4, u5, u6⟩, ⟨v0, v1, v2, v3, v4, v5, v6⟩, r0, r1, r2, -⟩ := hSw
            go_simp <;> with_reducible rfl
          try simp only [Act.put, List.setIfInBounds_toArray, List.set_cons_zero, List.set_cons_succ]
          refine take_yes (i := 9) (v := ?v9d) rfl (by kernel_rfl) (by kernel_rfl) (by kernel_rfl) (fun _ _ _ h => h) (by rfl) ?hy9d hHeld ?rest9d
          case hy9d =>
            intro w' hSw
            obtain ⟨⟨u0, u1, u2, u3, u4, u5, u6⟩, ⟨v0, v1, v2, v3, v4, v5, v6⟩, r0, r1, r2, -⟩ := hSw
            go_simp <;> with_reducible rfl
          try simp only [Act.put, List.setIfInBounds_toArray, List.set_cons_zero, List.set_cons_succ]
          refine take_yes (i := 10) (v := ?v10d) rfl (by kernel_rfl) (by kernel_rfl) (by kernel_rfl) (fun _ _ _ h => h) (by rfl) ?hy10d hHeld ?rest10d
          case hy10d =>
            intro w' hSw
            obtain ⟨⟨u0, u1, u2, u3, u4, u5, u6⟩, ⟨v0, v1, v2, v3, v4, v5, v6⟩, r0, r1, r2, -⟩ := hSw
            go_simp <;> with_reducible rfl
          try simp only [Act.put, List.setIfInBounds_toArray, List.set_cons_zero, List.set_cons_succ]
          refine take_yes (i := 11) (v := ?v11d) rfl (by kernel_rfl) (by kernel_rfl) (by kernel_rfl) (fun _ _ _ h => h) (by rfl) ?hy11d hHeld ?rest11d
          case hy11d =>
            intro w' hSw
            obtain ⟨⟨u0, u1, u2, u3, u4, u5, u6⟩, ⟨v0, v1, v2, v3, v4, v5, v6⟩, r0, r1, r2, -⟩ := hSw
            go_simp <;> with_reducible rfl
          try simp only [Act.put, List.setIfInBounds_toArray, List.set_cons_zero, List.set_cons_succ]
          refine take_yes (i := 12) (v := ?v12d) rfl (by kernel_rfl) (by kernel_rfl) (by kernel_rfl) (fun _ _ _ h => h) (by rfl) ?hy12d hHeld ?rest12d
          case hy12d =>
            intro w' hSw
            obtain ⟨⟨u0, u1, u2, u3, u4, u5, u6⟩, ⟨v0, v1, v2, v3, v4, v5, v6⟩, r0, r1, r2, -⟩ := hSw
            go_simp <;> with_reducible rfl
          try simp only [Act.put, List.setIfInBounds_toArray, List.set_cons_zero, List.set_cons_succ]
          refine take_yes (i := 13) (v := ?v13d) rfl (by kernel_rfl) (by kernel_rfl) (by kernel_rfl) (fun _ _ _ h => h) (by rfl) ?hy13d hHeld ?rest13d
          case hy13d =>
            intro w' hSw
            obtain ⟨⟨u0, u1, u2, u3, u4, u5, u6⟩, ⟨v0, v1, v2, v3, v4, v5, v6⟩, r0, r1, r2, -⟩ := hSw
            go_simp <;> with_reducible rfl
          try simp only [Act.put, List.setIfInBounds_toArray, List.set_cons_zero, List.set_cons_succ]
          refine take_yes (i := 14) (v := ?v14d) rfl (by kernel_rfl) (by kernel_rfl) (by kernel_rfl) (fun _ _ _ h => h) (by rfl) ?hy14d hHeld ?rest14d
          case hy14d =>
            intro w' hSw
            obtain ⟨⟨u0, u1, u2, u3, u4, u5, u6⟩, ⟨v0, v1, v2, v3, v4, v5, v6⟩, r0, r1, r2, -⟩ := hSw
            go_simp <;> with_reducible rfl
          try simp only [Act.put, List.setIfInBounds_toArray, List.set_cons_zero, List.set_cons_succ]
          refine take_yes (i := 15) (v := ?v15d) rfl (by kernel_rfl) (by kernel_rfl) (by kernel_rfl) (fun _ _ _ h => h) (by rfl) ?hy15d hHeld ?rest15d
          case hy15d =>
            intro w' hSw
            obtain ⟨⟨u0, u1, u2, u3, u4, u5, u6⟩, ⟨v0, v1, v2, v3, v4, v5, v6⟩, r0, r1, r2, -⟩ := hSw
            go_simp <;> with_reducible rfl
          try simp only [Act.put, List.setIfInBounds_toArray, List.set_cons_zero, List.set_cons_succ]
          refine take_yes (i := 16) (v := ?v16d) rfl (by kernel_rfl) (by kernel_rfl) (by kernel_rfl) (fun _ _ _ h => h) (by rfl) ?hy16d hHeld ?rest16d
          case hy16d =>
            intro w' hSw
            obtain ⟨⟨u0, u1, u2, u3, u4, u5, u6⟩, ⟨v0, v1, v2, v3, v4, v5, v6⟩, r0, r1, r2, -⟩ := hSw
            go_simp <;> with_reducible rfl
          try simp only [Act.put, List.setIfInBounds_toArray, List.set_cons_zero, List.set_cons_succ]
          refine take_yes (i := 17) (v := ?v17d) rfl (by kernel_rfl) (by kernel_rfl) (by kernel_rfl) (fun _ _ _ h => h) (by rfl) ?hy17d hHeld ?rest17d
          case hy17d =>
            intro w' hSw
            obtain ⟨⟨u0, u1, u2, u3, u4, u5, u6⟩, ⟨v0, v1, v2, v3, v4, v5, v6⟩, r0, r1, r2, -⟩ := hSw
            go_simp <;> with_reducible rfl
          try simp only [Act.put, List.setIfInBounds_toArray, List.set_cons_zero, List.set_cons_succ]
          refine take_yes (i := 18) (v := ?v18d) rfl (by kernel_rfl) (by kernel_rfl) (by kernel_rfl) (fun _ _ _ h => h) (by rfl) ?hy18d hHeld ?rest18d
          case hy18d =>
            intro w' hSw
            obtain ⟨⟨u0, u1, u2, u3, u4, u5, u6⟩, ⟨v0, v1, v2, v3, v4, v5, v6⟩, r0, r1, r2, -⟩ := hSw
            go_simp <;> with_reducible rfl
          try simp only [Act.put, List.setIfInBounds_toArray, List.set_cons_zero, List.set_cons_succ]
          refine take_yes (i := 19) (v := ?v19d) rfl (by kernel_rfl) (by kernel_rfl) (by kernel_rfl) (fun _ _ _ h => h) (by rfl) ?hy19d hHeld ?rest19d
          case hy19d =>
            intro w' hSw
            obtain ⟨⟨u0, u1, u2, u3, u4, u5, u6⟩, ⟨v0, v1, v2, v3, v4, v5, v6⟩, r0, r1, r2, -⟩ := hSw
            go_simp <;> with_reducible rfl
          try simp only [Act.put, List.setIfInBounds_toArray, List.set_cons_zero, List.set_cons_succ]
          refine take_yes (i := 20) (v := ?v20d) rfl (by kernel_rfl) (by kernel_rfl) (by kernel_rfl) (fun _ _ _ h => h) (by rfl) ?hy20d hHeld ?rest20d
          case hy20d =>
            intro w' hSw
            obtain ⟨⟨u0, u1, u2, u3, u4, u5, u6⟩, ⟨v0, v1, v2, v3, v4, v5, v6⟩, r0, r1, r2, -⟩ := hSw
            go_simp <;> with_reducible rfl
          try simp only [Act.put, List.setIfInBounds_toArray, List.set_cons_zero, List.set_cons_succ]
          refine take_yes (i := 21) (v := ?v21d) rfl (by kernel_rfl) (by kernel_rfl) (by kernel_rfl) (fun _ _ _ h => h) (by rfl) ?hy21d hHeld ?rest21d
          case hy21d =>
            intro w' hSw
            obtain ⟨⟨u0, u1, u2, u3, u4, u5, u6⟩, ⟨v0, v1, v2, v3, v4, v5, v6⟩, r0, r1, r2, -⟩ := hSw
            go_simp <;> with_reducible rfl
          try simp only [Act.put, List.setIfInBounds_toArray, List.set_cons_zero, List.set_cons_succ]
          refine take_yes (i := 22) (v := ?v22d) rfl (by kernel_rfl) (by kernel_rfl) (by kernel_rfl) (fun _ _ _ h => h) (by rfl) ?hy22d hHeld ?rest22d
          case hy22d =>
            intro w' hSw
            obtain ⟨⟨u0, u1, u2, u3, u4, u5, u6⟩, ⟨v0, v1, v2, v3, v4, v5, v6⟩, r0, r1, r2, -⟩ := hSw
            go_simp <;> with_reducible rfl
          try simp only [Act.put, List.setIfInBounds_toArray, List.set_cons_zero, List.set_cons_succ]
          refine take_yes (i := 23) (v := ?v23d) rfl (by kernel_rfl) (by kernel_rfl) (by kernel_rfl) (fun _ _ _ h => h) (by rfl) ?hy23d hHeld ?rest23d
          case hy23d =>
            intro w' hSw
            obtain ⟨⟨u0, u1, u2, u3, u4, u5, u6⟩, ⟨v0, v1, v2, v3, v4, v5, v6⟩, r0, r1, r2, -⟩ := hSw
            go_simp <;> with_reducible rfl
          try simp only [Act.put, List.setIfInBounds_toArray, List.set_cons_zero, List.set_cons_succ]
          refine take_yes (i := 24) (v := ?v24d) rfl (by kernel_rfl) (by kernel_rfl) (by kernel_rfl) (fun _ _ _ h => h) (by rfl) ?hy24d hHeld ?rest24d
          case hy24d =>
            intro w' hSw
            obtain ⟨⟨u0, u1, u2, u3, u4, u5, u6⟩, ⟨v0, v1, v2, v3, v4, v5, v6⟩, r0, r1, r2, -⟩ := hSw
            go_simp <;> with_reducible rfl
          try simp only [Act.put, List.setIfInBounds_toArray, List.set_cons_zero, List.set_cons_succ]
          refine take_yes (i := 25) (v := ?v25d) rfl (by kernel_rfl) (by kernel_rfl) (by kernel_rfl) (fun _ _ _ h => h) (by rfl) ?hy25d hHeld ?rest25d
          case hy25d =>
            intro w' hSw
            obtain ⟨⟨u0, u1, u2, u3, u4, u5, u6⟩, ⟨v0, v1, v2, v3, v4, v5, v6⟩, r0, r1, r2, -⟩ := hSw
            go_simp <;> with_reducible rfl
          try simp only [Act.put, List.setIfInBounds_toArray, List.set_cons_zero, List.set_cons_succ]
          refine take_yes (i := 26) (v := ?v26d) rfl (by kernel_rfl) (by kernel_rfl) (by kernel_rfl) (fun _ _ _ h => h) (by rfl) ?hy26d hHeld ?rest26d
          case hy26d =>
            intro w' hSw
            obtain ⟨⟨u0, u1, u2, u3, u4, u5, u6⟩, ⟨v0, v1, v2, v3, v4, v5, v6⟩, r0, r1, r2, -⟩ := hSw
            go_simp <;> with_reducible rfl
          try simp only [Act.put, List.setIfInBounds_toArray, List.set_cons_zero, List.set_cons_succ]
          refine take_yes (i := 27) (v := ?v27d) rfl (by kernel_rfl) (by kernel_rfl) (by kernel_rfl) (fun _ _ _ h => h) (by rfl) ?hy27d hHeld ?rest27d
          case hy27d =>
            intro w' hSw
            obtain ⟨⟨u0, u1, u2, u3, u4, u5, u6⟩, ⟨v0, v1, v2, v3, v4, v5, v6⟩, r0, r1, r2, -⟩ := hSw
            go_simp <;> with_reducible rfl
          try simp only [Act.put, List.setIfInBounds_toArray, List.set_cons_zero, List.set_cons_succ]
          refine take_yes (i := 28) (v := ?v28d) rfl (by kernel_rfl) (by kernel_rfl) (by kernel_rfl) (fun _ _ _ h => h) (by rfl) ?hy28d hHeld ?rest28d
          case hy28d =>
            intro w' hSw
            obtain ⟨⟨u0, u1, u2, u3, u4, u5, u6⟩, ⟨v0, v1, v2, v3, v4, v5, v6⟩, r0, r1, r2, -⟩ := hSw
            go_simp <;> with_reducible rfl
          try simp only [Act.put, List.setIfInBounds_toArray, List.set_cons_zero, List.set_cons_succ]
          refine take_yes (i := 29) (v := ?v29d) rfl (by kernel_rfl) (by kernel_rfl) (by kernel_rfl) (fun _ _ _ h => h) (by rfl) ?hy29d hHeld ?rest29d
          case hy29d =>
            intro w' hSw
            obtain ⟨⟨u0, u1, u2, u3, u4, u5, u6⟩, ⟨v0, v1, v2, v3, v4, v5, v6⟩, r0, r1, r2, -⟩ := hSw
            go_simp <;> with_reducible rfl
          try simp only [Act.put, List.setIfInBounds_toArray, List.set_cons_zero, List.set_cons_succ]
          refine take_yes (i := 30) (v := ?v30d) rfl (by kernel_rfl) (by kernel_rfl) (by kernel_rfl) (fun _ _ _ h => h) (by rfl) ?hy30d hHeld ?rest30d
          case hy30d =>
            intro w' hSw
            obtain ⟨⟨u0, u1, u2, u3, u4, u5, u6⟩, ⟨v0, v1, v2, v3, v4, v5, v6⟩, r0, r1, r2, -⟩ := hSw
            go_simp <;> with_reducible rfl
          try simp only [Act.put, List.setIfInBounds_toArray, List.set_cons_zero, List.set_cons_succ]
          refine take_yes (i := 31) (v := ?v31d) rfl (by kernel_rfl) (by kernel_rfl) (by kernel_rfl) (fun _ _ _ h => h) (by rfl) ?hy31d hHeld ?rest31d
          case hy31d =>
            intro w' hSw
            obtain ⟨⟨u0, u1, u2, u3, u4, u5, u6⟩, ⟨v0, v1, v2, v3, v4, v5, v6⟩, r0, r1, r2, -⟩ := hSw
            go_simp <;> with_reducible rfl
          try simp only [Act.put, List.setIfInBounds_toArray, List.set_cons_zero, List.set_cons_succ]
          refine take_yes (i := 32) (v := ?v32d) rfl (by kernel_rfl) (by kernel_rfl) (by kernel_rfl) (fun _ _ _ h => h) (by rfl) ?hy32d hHeld ?rest32d
          case hy32d =>
            intro w' hSw
            obtain ⟨⟨u0, u1, u2, u3, u4, u5, u6⟩, ⟨v0, v1, v2, v3, v4, v5, v6⟩, r0, r1, r2, -⟩ := hSw
            go_simp <;> with_reducible rfl
          try simp only [Act.put, List.setIfInBounds_toArray, List.set_cons_zero, List.set_cons_succ]
          refine take_yes (i := 33) (v := ?v33d) rfl (by kernel_rfl) (by kernel_rfl) (by kernel_rfl) (fun _ _ _ h => h) (by rfl) ?hy33d hHeld ?rest33d
          case hy33d =>
            intro w' hSw
            obtain ⟨⟨u0, u1, u2, u3, u4, u5, u6⟩, ⟨v0, v1, v2, v3, v4, v5, v6⟩, r0, r1, r2, -⟩ := hSw
            go_simp <;> with_reducible rfl
          try simp only [Act.put, List.setIfInBounds_toArray, List.set_cons_zero, List.set_cons_succ]
          refine take_yes (i := 34) (v := ?v34d) rfl (by kernel_rfl) (by kernel_rfl) (by kernel_rfl) (fun _ _ _ h => h) (by rfl) ?hy34d hHeld ?rest34d
          case hy34d =>
            intro w' hSw
            obtain ⟨⟨u0, u1, u2, u3, u4, u5, u6⟩, ⟨v0, v1, v2, v3, v4, v5, v6⟩, r0, r1, r2, -⟩ := hSw
            go_simp <;> with_reducible rfl
          try simp only [Act.put, List.setIfInBounds_toArray, List.set_cons_zero, List.set_cons_succ]
          refine take_yes (i := 35) (v := ?v35d) rfl (by kernel_rfl) (by kernel_rfl) (by kernel_rfl) (fun _ _ _ h => h) (by rfl) ?hy35d hHeld ?rest35d
          case hy35d =>
            intro w' hSw
            obtain ⟨⟨u0, u1, u2, u3, u4, u5, u6⟩, ⟨v0, v1, v2, v3, v4, v5, v6⟩, r0, r1, r2, -⟩ := hSw
            go_simp <;> with_reducible rfl
          try simp only [Act.put, List.setIfInBounds_toArray, List.set_cons_zero, List.set_cons_succ]
          refine take_yes (i := 36) (v := ?v36d) rfl (by kernel_rfl) (by kernel_rfl) (by kernel_rfl) (fun _ _ _ h => h) (by rfl) ?hy36d hHeld ?rest36d
          case hy36d =>
            intro w' hSw
            obtain ⟨⟨u0, u1, u2, u3, u4, u5, u6⟩, ⟨v0, v1, v2, v3, v4, v5, v6⟩, r0, r1, r2, -⟩ := hSw
            go_simp <;> with_reducible rfl
          try simp only [Act.put, List.setIfInBounds_toArray, List.set_cons_zero, List.set_cons_succ]
          refine take_yes (i := 37) (v := ?v37d) rfl (by kernel_rfl) (by kernel_rfl) (by kernel_rfl) (fun _ _ _ h => h) (by rfl) ?hy37d hHeld ?rest37d
          case hy37d =>
            intro w' hSw
            obtain ⟨⟨u0, u1, u2, u3, u4, u5, u6⟩, ⟨v0, v1, v2, v3, v4, v5, v6⟩, r0, r1, r2, -⟩ := hSw
            go_simp <;> with_reducible rfl
          try simp only [Act.put, List.setIfInBounds_toArray, List.set_cons_zero, List.set_cons_succ]
          refine take_yes (i := 38) (v := ?v38d) rfl (by kernel_rfl) (by kernel_rfl) (by kernel_rfl) (fun _ _ _ h => h) (by rfl) ?hy38d hHeld ?rest38d
          case hy38d =>
            intro w' hSw
            obtain ⟨⟨u0, u1, u2, u3, u4, u5, u6⟩, ⟨v0, v1, v2, v3, v4, v5, v6⟩, r0, r1, r2, -⟩ := hSw
            go_simp <;> with_reducible rfl
          try simp only [Act.put, List.setIfInBounds_toArray, List.set_cons_zero, List.set_cons_succ]
          refine take_yes (i := 39) (v := ?v39d) rfl (by kernel_rfl) (by kernel_rfl) (by kernel_rfl) (fun _ _ _ h => h) (by rfl) ?hy39d hHeld ?rest39d
          case hy39d =>
            intro w' hSw
            obtain ⟨⟨u0, u1, u2, u3, u4, u5, u6⟩, ⟨v0, v1, v2, v3, v4, v5, v6⟩, r0, r1, r2, -⟩ := hSw
            go_simp <;> with_reducible rfl
          try simp only [Act.put, List.setIfInBounds_toArray, List.set_cons_zero, List.set_cons_succ]
          refine take_yes (i := 40) (v := ?v40d) rfl (by kernel_rfl) (by kernel_rfl) (by kernel_rfl) (fun _ _ _ h => h) (by rfl) ?hy40d hHeld ?rest40d
          case hy40d =>
            intro w' hSw
            obtain ⟨⟨u0, u1, u2, u3, u4, u5, u6⟩, ⟨v0, v1, v2, v3, v4, v5, v6⟩, r0, r1, r2, -⟩ := hSw
            go_simp <;> with_reducible rfl
          try simp only [Act.put, List.setIfInBounds_toArray, List.set_cons_zero, List.set_cons_succ]
          refine take_yes (i := 41) (v := ?v41d) rfl (by kernel_rfl) (by kernel_rfl) (by kernel_rfl) (fun _ _ _ h => h) (by rfl) ?hy41d hHeld ?rest41d
          case hy41d =>
            intro w' hSw
            obtain ⟨⟨u0, u1, u2, u3, u4, u5, u6⟩, ⟨v0, v1, v2, v3, v4, v5, v6⟩, r0, r1, r2, -⟩ := hSw
            go_simp <;> with_reducible rfl
          try simp only [Act.put, List.setIfInBounds_toArray, List.set_cons_zero, List.set_cons_succ]
          refine wpAnyH_ready (rs := [42]) (by kernel_rfl) (by simp) (cons_at (i := 42) rfl (fun K42d hK42d => ?_) AllReadyH.nil)
          go_simp
          go_at_call 13
          with_reducible refine (watch_sees_at ((HM8.out.later hbq).later (by first | exact Below.refl _ _ | exact (Below.refl _ _).drew)) (hid (f4.out rfl))).mono ?_
          rintro x W10 ⟨rfl, hb10⟩
          obtain ⟨z1, z2, z3, z4, z6, z5⟩ := hHeld
          have y5 := z5.trans (hb10.mono z5.size)
          have y1 := cells7_below z1 hb10
          have y2 := cells7_below z2 hb10
          have y3 := cell_below hb10 z3
          have y4 := cell_below hb10 z4
          have y6 := cell_below hb10 z6
          clear hb10 z1 z2 z3 z4 z5 z6
          go_wp2_with fail
          refine hK42d.out _ _ ⟨y1, y2, y3, y4, y6, y5⟩ (fun hHeld => ?_)
          clear hK42d K42d
          try simp only [Act.put, List.setIfInBounds_toArray, List.set_cons_zero, List.set_cons_succ]
          refine take_yes (i := 43) (v := ?v43d) rfl (by kernel_rfl) (by kernel_rfl) (by kernel_rfl) (fun _ _ _ h => h) (by rfl) ?hy43d hHeld ?rest43d
          case hy43d =>
            intro w' hSw
            obtain ⟨⟨u0, u1, u2, u3, u4, u5, u6⟩, ⟨v0, v1, v2, v3, v4, v5, v6⟩, r0, r1, r2, -⟩ := hSw
            go_simp <;> with_reducible rfl
          try simp only [Act.put, List.setIfInBounds_toArray, List.set_cons_zero, List.set_cons_succ]
          refine take_yes (i := 44) (v := ?v44d) rfl (by kernel_rfl) (by kernel_rfl) (by kernel_rfl) (fun _ _ _ h => h) (by rfl) ?hy44d hHeld ?rest44d
          case hy44d =>
            intro w' hSw
            obtain ⟨⟨u0, u1, u2, u3, u4, u5, u6⟩, ⟨v0, v1, v2, v3, v4, v5, v6⟩, r0, r1, r2, -⟩ := hSw
            go_simp <;> with_reducible rfl
          try simp only [Act.put, List.setIfInBounds_toArray, List.set_cons_zero, List.set_cons_succ]
          refine take_yes (i := 45) (v := ?v45d) rfl (by kernel_rfl) (by kernel_rfl) (by kernel_rfl) (fun _ _ _ h => h) (by rfl) ?hy45d hHeld ?rest45d
          case hy45d =>
            intro w' hSw
            obtain ⟨⟨u0, u1, u2, u3, u4, u5, u6⟩, ⟨v0, v1, v2, v3, v4, v5, v6⟩, r0, r1, r2, -⟩ := hSw
            go_simp <;> with_reducible rfl
          try simp only [Act.put, List.setIfInBounds_toArray, List.set_cons_zero, List.set_cons_succ]
          refine take_yes (i := 46) (v := ?v46d) rfl (by kernel_rfl) (by kernel_rfl) (by kernel_rfl) (fun _ _ _ h => h) (by rfl) ?hy46d hHeld ?rest46d
          case hy46d =>
            intro w' hSw
            obtain ⟨⟨u0, u1, u2, u3, u4, u5, u6⟩, ⟨v0, v1, v2, v3, v4, v5, v6⟩, r0, r1, r2, -⟩ := hSw
            go_simp <;> with_reducible rfl
          try simp only [Act.put, List.setIfInBounds_toArray, List.set_cons_zero, List.set_cons_succ]
          refine take_yes (i := 47) (v := ?v47d) rfl (by kernel_rfl) (by kernel_rfl) (by kernel_rfl) (fun _ _ _ h => h) (by rfl) ?hy47d hHeld ?rest47d
          case hy47d =>
            intro w' hSw
            obtain ⟨⟨u0, u1, u2, u3, u4, u5, u6⟩, ⟨v0, v1, v2, v3, v4, v5, v6⟩, r0, r1, r2, -⟩ := hSw
            go_simp <;> with_reducible rfl
          try simp only [Act.put, List.setIfInBounds_toArray, List.set_cons_zero, List.set_cons_succ]
          refine take_yes (i := 48) (v := ?v48d) rfl (by kernel_rfl) (by kernel_rfl) (by kernel_rfl) (fun _ _ _ h => h) (by rfl) ?hy48d hHeld ?rest48d
          case hy48d =>
            intro w' hSw
            obtain ⟨⟨u0, u1, u2, u3, u4, u5, u6⟩, ⟨v0, v1, v2, v3, v4, v5, v6⟩, r0, r1, r2, -⟩ := hSw
            go_simp <;> with_reducible rfl
          try simp only [Act.put, List.setIfInBounds_toArray, List.set_cons_zero, List.set_cons_succ]
          refine take_yes (i := 49) (v := ?v49d) rfl (by kernel_rfl) (by kernel_rfl) (by kernel_rfl) (fun _ _ _ h => h) (by rfl) ?hy49d hHeld ?rest49d
          case hy49d =>
            intro w' hSw
            obtain ⟨⟨u0, u1, u2, u3, u4, u5, u6⟩, ⟨v0, v1, v2, v3, v4, v5, v6⟩, r0, r1, r2, -⟩ := hSw
            go_simp <;> with_reducible rfl
          try simp only [Act.put, List.setIfInBounds_toArray, List.set_cons_zero, List.set_cons_succ]
          refine take_yes (i := 50) (v := ?v50d) rfl (by kernel_rfl) (by kernel_rfl) (by kernel_rfl) (fun _ _ _ h => h) (by rfl) ?hy50d hHeld ?rest50d
          case hy50d =>
            intro w' hSw
            obtain ⟨⟨u0, u1, u2, u3, u4, u5, u6⟩, ⟨v0, v1, v2, v3, v4, v5, v6⟩, r0, r1, r2, -⟩ := hSw
            go_simp <;> with_reducible rfl
          try simp only [Act.put, List.setIfInBounds_toArray, List.set_cons_zero, List.set_cons_succ]
          refine take_no (i := 51) rfl (by kernel_rfl) (by kernel_rfl) (by kernel_rfl) (fun _ _ _ h => h) (by rfl) hHeld ?rest51d
          try simp only [Act.put, List.setIfInBounds_toArray, List.set_cons_zero, List.set_cons_succ]
          refine take_no (i := 52) rfl (by kernel_rfl) (by kernel_rfl) (by kernel_rfl) (fun _ _ _ h => h) (by rfl) hHeld ?rest52d
          try simp only [Act.put, List.setIfInBounds_toArray, List.set_cons_zero, List.set_cons_succ]
          refine take_no (i := 53) rfl (by kernel_rfl) (by kernel_rfl) (by kernel_rfl) (fun _ _ _ h => h) (by rfl) hHeld ?rest53d
          try simp only [Act.put, List.setIfInBounds_toArray, List.set_cons_zero, List.set_cons_succ]
          refine take_no (i := 54) rfl (by kernel_rfl) (by kernel_rfl) (by kernel_rfl) (fun _ _ _ h => h) (by rfl) hHeld ?rest54d
          try simp only [Act.put, List.setIfInBounds_toArray, List.set_cons_zero, List.set_cons_succ]
          refine take_no (i := 55) rfl (by kernel_rfl) (by kernel_rfl) (by kernel_rfl) (fun _ _ _ h => h) (by rfl) hHeld ?rest55d
          try simp only [Act.put, List.setIfInBounds_toArray, List.set_cons_zero, List.set_cons_succ]
          refine take_yes (i := 56) (v := ?v56d) rfl (by kernel_rfl) (by kernel_rfl) (by kernel_rfl) (fun _ _ _ h => h) (by rfl) ?hy56d hHeld ?rest56d
          case hy56d =>
            intro w' hSw
            obtain ⟨⟨u0, u1, u2, u3, u4, u5, u6⟩, ⟨v0, v1, v2, v3, v4, v5, v6⟩, r0, r1, r2, -⟩ := hSw
            go_simp <;> with_reducible rfl
          try simp only [Act.put, List.setIfInBounds_toArray, List.set_cons_zero, List.set_cons_succ]
          refine take_yes (i := 57) (v := ?v57d) rfl (by kernel_rfl) (by kernel_rfl) (by kernel_rfl) (fun _ _ _ h => h) (by rfl) ?hy57d hHeld ?rest57d
          case hy57d =>
            intro w' hSw
            obtain ⟨⟨u0, u1, u2, u3, u4, u5, u6⟩, ⟨v0, v1, v2, v3, v4, v5, v6⟩, r0, r1, r2, -⟩ := hSw
            go_simp <;> with_reducible rfl
          try simp only [Act.put, List.setIfInBounds_toArray, List.set_cons_zero, List.set_cons_succ]
          refine take_no (i := 58) rfl (by kernel_rfl) (by kernel_rfl) (by kernel_rfl) (fun _ _ _ h => h) (by rfl) hHeld ?rest58d
          try simp only [Act.put, List.setIfInBounds_toArray, List.set_cons_zero, List.set_cons_succ]
          refine take_no (i := 59) rfl (by kernel_rfl) (by kernel_rfl) (by kernel_rfl) (fun _ _ _ h => h) (by rfl) hHeld ?rest59d
          try simp only [Act.put, List.setIfInBounds_toArray, List.set_cons_zero, List.set_cons_succ]
          refine take_no (i := 60) rfl (by kernel_rfl) (by kernel_rfl) (by kernel_rfl) (fun _ _ _ h => h) (by rfl) hHeld ?rest60d
          try simp only [Act.put, List.setIfInBounds_toArray, List.set_cons_zero, List.set_cons_succ]
          refine take_no (i := 61) rfl (by kernel_rfl) (by kernel_rfl) (by kernel_rfl) (fun _ _ _ h => h) (by rfl) hHeld ?rest61d
          try simp only [Act.put, List.setIfInBounds_toArray, List.set_cons_zero, List.set_cons_succ]
          refine take_no (i := 62) rfl (by kernel_rfl) (by kernel_rfl) (by kernel_rfl) (fun _ _ _ h => h) (by rfl) hHeld ?rest62d
          try simp only [Act.put, List.setIfInBounds_toArray, List.set_cons_zero, List.set_cons_succ]
          refine take_no (i := 63) rfl (by kernel_rfl) (by kernel_rfl) (by kernel_rfl) (fun _ _ _ h => h) (by rfl) hHeld ?rest63d
          try simp only [Act.put, List.setIfInBounds_toArray, List.set_cons_zero, List.set_cons_succ]
          refine take_no (i := 64) rfl (by kernel_rfl) (by kernel_rfl) (by kernel_rfl) (fun _ _ _ h => h) (by rfl) hHeld ?rest64d
          try simp only [Act.put, List.setIfInBounds_toArray, List.set_cons_zero, List.set_cons_succ]
          refine take_no (i := 65) rfl (by kernel_rfl) (by kernel_rfl) (by kernel_rfl) (fun _ _ _ h => h) (by rfl) hHeld ?rest65d
          try simp only [Act.put, List.setIfInBounds_toArray, List.set_cons_zero, List.set_cons_succ]
          refine take_no (i := 66) rfl (by kernel_rfl) (by kernel_rfl) (by kernel_rfl) (fun _ _ _ h => h) (by rfl) hHeld ?rest66d
          try simp only [Act.put, List.setIfInBounds_toArray, List.set_cons_zero, List.set_cons_succ]
          refine take_yes (i := 67) (v := ?v67d) rfl (by kernel_rfl) (by kernel_rfl) (by kernel_rfl) (fun _ _ _ h => h) (by rfl) ?hy67d hHeld ?rest67d
          case hy67d =>
            intro w' hSw
            obtain ⟨⟨u0, u1, u2, u3, u4, u5, u6⟩, ⟨v0, v1, v2, v3, v4, v5, v6⟩, r0, r1, r2, -⟩ := hSw
            go_simp <;> with_reducible rfl
          try simp only [Act.put, List.setIfInBounds_toArray, List.set_cons_zero, List.set_cons_succ]
          refine take_yes (i := 68) (v := ?v68d) rfl (by kernel_rfl) (by kernel_rfl) (by kernel_rfl) (fun _ _ _ h => h) (by rfl) ?hy68d hHeld ?rest68d
          case hy68d =>
            intro w' hSw
            obtain ⟨⟨u0, u1, u2, u3, u4, u5, u6⟩, ⟨v0, v1, v2, v3, v4, v5, v6⟩, r0, r1, r2, -⟩ := hSw
            go_simp <;> with_reducible rfl
          try simp only [Act.put, List.setIfInBounds_toArray, List.set_cons_zero, List.set_cons_succ]
          refine wpAnyH_done (by kernel_rfl) ?_ _
          obtain ⟨-, -, -, -, -, hb11⟩ := hHeld
          clear u0 u1 u2 u3 u4 u5 u6 v0 v1 v2 v3 v4 v5 v6 hcl kp0 kp1
          go_wp2_with fail
          go_roundw
          case rel => exact ⟨k + 1, by omega, by go_num, hbq.trans (hb11.mono hbq.size)⟩
          case measure => simp [intOf]; omega
        · skip
          go_upto_region 17 with fail
          refine wp_region_held_drew (S := fun w' => cells7 w' ab (k * 7) ⟨true, ps, pst, ⟨p0, p1, p2, p3⟩⟩ ∧ cells7 w' nb (k * 7) ⟨true, ps, pst, ⟨p0, p1, p2, p3⟩⟩ ∧ w'.cell? ⟨b, off + i * 23 + 16, none⟩ = some (.int .i64 c.cl) ∧ w'.cell? ⟨pb, 0, none⟩ = some (.int .i64 a10) ∧ w'.cell? ⟨pb, 1, none⟩ = some (.int .i64 a11) ∧ Below wr.heap.size wr w') (by kernel_rfl) ⟨⟨u0, u1, u2, u3, u4, u5, u6⟩, ⟨v0, v1, v2, v3, v4, v5, v6⟩, hcl, kp0, kp1, (Below.refl _ _).drew⟩ (fun hHeld => ?_)
          refine take_yes (i := 0) (v := ?v0e) rfl (by kernel_rfl) (by kernel_rfl) (by kernel_rfl) (fun _ _ _ h => h) (by rfl) ?hy0e hHeld ?rest0e
          case hy0e =>
            intro w' hSw
            obtain ⟨⟨u0, u1, u2, u3, u4, u5, u6⟩, ⟨v0, v1, v2, v3, v4, v5, v6⟩, r0, r1, r2, -⟩ := hSw
            go_simp <;> with_reducible rfl
          try simp only [Act.put, List.setIfInBounds_toArray, List.set_cons_zero, List.set_cons_succ]
          refine take_yes (i := 1) (v := ?v1e) rfl (by kernel_rfl) (by kernel_rfl) (by kernel_rfl) (fun _ _ _ h => h) (by rfl) ?hy1e hHeld ?rest1e
          case hy1e =>
            intro w' hSw
            obtain ⟨⟨u0, u1, u2, u3, u4, u5, u6⟩, ⟨v0, v1, v2, v3, v4, v5, v6⟩, r0, r1, r2, -⟩ := hSw
            go_simp <;> with_reducible rfl
          try simp only [Act.put, List.setIfInBounds_toArray, List.set_cons_zero, List.set_cons_succ]
          refine take_yes (i := 2) (v := ?v2e) rfl (by kernel_rfl) (by kernel_rfl) (by kernel_rfl) (fun _ _ _ h => h) (by rfl) ?hy2e hHeld ?rest2e
          case hy2e =>
            intro w' hSw
            obtain ⟨⟨u0, u1, u2, u3, u4, u5, u6⟩, ⟨v0, v1, v2, v3, v4, v5, v6⟩, r0, r1, r2, -⟩ := hSw
            go_simp <;> with_reducible rfl
          try simp only [Act.put, List.setIfInBounds_toArray, List.set_cons_zero, List.set_cons_succ]
          refine take_yes (i := 3) (v := ?v3e) rfl (by kernel_rfl) (by kernel_rfl) (by kernel_rfl) (fun _ _ _ h => h) (by rfl) ?hy3e hHeld ?rest3e
          case hy3e =>
            intro w' hSw
            obtain ⟨⟨u0, u1, u2, u3, u4, u5, u6⟩, ⟨v0, v1, v2, v3, v4, v5, v6⟩, r0, r1, r2, -⟩ := hSw
            go_simp <;> with_reducible rfl
          try simp only [Act.put, List.setIfInBounds_toArray, List.set_cons_zero, List.set_cons_succ]
          refine take_yes (i := 4) (v := ?v4e) rfl (by kernel_rfl) (by kernel_rfl) (by kernel_rfl) (fun _ _ _ h => h) (by rfl) ?hy4e hHeld ?rest4e
          case hy4e =>
            intro w' hSw
            obtain ⟨⟨u0, u1, u2, u3, u4, u5, u6⟩, ⟨v0, v1, v2, v3, v4, v5, v6⟩, r0, r1, r2, -⟩ := hSw
            go_simp <;> with_reducible rfl
          try simp only [Act.put, List.setIfInBounds_toArray, List.set_cons_zero, List.set_cons_succ]
          refine take_yes (i := 5) (v := ?v5e) rfl (by kernel_rfl) (by kernel_rfl) (by kernel_rfl) (fun _ _ _ h => h) (by rfl) ?hy5e hHeld ?rest5e
          case hy5e =>
            intro w' hSw
            obtain ⟨⟨u0, u1, u2, u3, u4, u5, u6⟩, ⟨v0, v1, v2, v3, v4, v5, v6⟩, r0, r1, r2, -⟩ := hSw
            go_simp <;> with_reducible rfl
          try simp only [Act.put, List.setIfInBounds_toArray, List.set_cons_zero, List.set_cons_succ]
          refine take_yes (i := 6) (v := ?v6e) rfl (by kernel_rfl) (by kernel_rfl) (by kernel_rfl) (fun _ _ _ h => h) (by rfl) ?hy6e hHeld ?rest6e
          case hy6e =>
            intro w' hSw
            obtain ⟨⟨u0, u1, u2, u3, u4, u5, u6⟩, ⟨v0, v1, v2, v3, v4, v5, v6⟩, r0, r1, r2, -⟩ := hSw
            go_simp <;> with_reducible rfl
          try simp only [Act.put, List.setIfInBounds_toArray, List.set_cons_zero, List.set_cons_succ]
          refine take_yes (i := 7) (v := ?v7e) rfl (by kernel_rfl) (by kernel_rfl) (by kernel_rfl) (fun _ _ _ h => h) (by rfl) ?hy7e hHeld ?rest7e
          case hy7e =>
            intro w' hSw
            obtain ⟨⟨u0, u1, u2, u3, u4, u5, u6⟩, ⟨v0, v1, v2, v3, v4, v5, v6⟩, r0, r1, r2, -⟩ := hSw
            go_simp <;> with_reducible rfl
          try simp only [Act.put, List.setIfInBounds_toArray, List.set_cons_zero, List.set_cons_succ]
          refine take_yes (i := 8) (v := ?v8e) rfl (by kernel_rfl) (by kernel_rfl) (by kernel_rfl) (fun _ _ _ h => h) (by rfl) ?hy8e hHeld ?rest8e
          case hy8e =>
            intro w' hSw
            obtain ⟨⟨u0, u1, u2, u3, u4, u5, u6⟩, ⟨v0, v1, v2, v3, v4, v5, v6⟩, r0, r1, r2, -⟩ := hSw
            go_simp <;> with_reducible rfl
          try simp only [Act.put, List.setIfInBounds_toArray, List.set_cons_zero, List.set_cons_succ]
          refine take_yes (i := 9) (v := ?v9e) rfl (by kernel_rfl) (by kernel_rfl) (by kernel_rfl) (fun _ _ _ h => h) (by rfl) ?hy9e hHeld ?rest9e
          case hy9e =>
            intro w' hSw
            obtain ⟨⟨u0, u1, u2, u3, u4, u5, u6⟩, ⟨v0, v1, v2, v3, v4, v5, v6⟩, r0, r1, r2, -⟩ := hSw
            go_simp <;> with_reducible rfl
          try simp only [Act.put, List.setIfInBounds_toArray, List.set_cons_zero, List.set_cons_succ]
          refine take_yes (i := 10) (v := ?v10e) rfl (by kernel_rfl) (by kernel_rfl) (by kernel_rfl) (fun _ _ _ h => h) (by rfl) ?hy10e hHeld ?rest10e
          case hy10e =>
            intro w' hSw
            obtain ⟨⟨u0, u1, u2, u3, u4, u5, u6⟩, ⟨v0, v1, v2, v3, v4, v5, v6⟩, r0, r1, r2, -⟩ := hSw
            go_simp <;> with_reducible rfl
          try simp only [Act.put, List.setIfInBounds_toArray, List.set_cons_zero, List.set_cons_succ]
          refine take_yes (i := 11) (v := ?v11e) rfl (by kernel_rfl) (by kernel_rfl) (by kernel_rfl) (fun _ _ _ h => h) (by rfl) ?hy11e hHeld ?rest11e
          case hy11e =>
            intro w' hSw
            obtain ⟨⟨u0, u1, u2, u3, u4, u5, u6⟩, ⟨v0, v1, v2, v3, v4, v5, v6⟩, r0, r1, r2, -⟩ := hSw
            go_simp <;> with_reducible rfl
          try simp only [Act.put, List.setIfInBounds_toArray, List.set_cons_zero, List.set_cons_succ]
          refine take_yes (i := 12) (v := ?v12e) rfl (by kernel_rfl) (by kernel_rfl) (by kernel_rfl) (fun _ _ _ h => h) (by rfl) ?hy12e hHeld ?rest12e
          case hy12e =>
            intro w' hSw
            obtain ⟨⟨u0, u1, u2, u3, u4, u5, u6⟩, ⟨v0, v1, v2, v3, v4, v5, v6⟩, r0, r1, r2, -⟩ := hSw
            go_simp <;> with_reducible rfl
          try simp only [Act.put, List.setIfInBounds_toArray, List.set_cons_zero, List.set_cons_succ]
          refine take_yes (i := 13) (v := ?v13e) rfl (by kernel_rfl) (by kernel_rfl) (by kernel_rfl) (fun _ _ _ h => h) (by rfl) ?hy13e hHeld ?rest13e
          case hy13e =>
            intro w' hSw
            obtain ⟨⟨u0, u1, u2, u3, u4, u5, u6⟩, ⟨v0, v1, v2, v3, v4, v5, v6⟩, r0, r1, r2, -⟩ := hSw
            go_simp <;> with_reducible rfl
          try simp only [Act.put, List.setIfInBounds_toArray, List.set_cons_zero, List.set_cons_succ]
          refine take_yes (i := 14) (v := ?v14e) rfl (by kernel_rfl) (by kernel_rfl) (by kernel_rfl) (fun _ _ _ h => h) (by rfl) ?hy14e hHeld ?rest14e
          case hy14e =>
            intro w' hSw
            obtain ⟨⟨u0, u1, u2, u3, u4, u5, u6⟩, ⟨v0, v1, v2, v3, v4, v5, v6⟩, r0, r1, r2, -⟩ := hSw
            go_simp <;> with_reducible rfl
          try simp only [Act.put, List.setIfInBounds_toArray, List.set_cons_zero, List.set_cons_succ]
          refine take_yes (i := 15) (v := ?v15e) rfl (by kernel_rfl) (by kernel_rfl) (by kernel_rfl) (fun _ _ _ h => h) (by rfl) ?hy15e hHeld ?rest15e
          case hy15e =>
            intro w' hSw
            obtain ⟨⟨u0, u1, u2, u3, u4, u5, u6⟩, ⟨v0, v1, v2, v3, v4, v5, v6⟩, r0, r1, r2, -⟩ := hSw
            go_simp <;> with_reducible rfl
          try simp only [Act.put, List.setIfInBounds_toArray, List.set_cons_zero, List.set_cons_succ]
          refine take_yes (i := 16) (v := ?v16e) rfl (by kernel_rfl) (by kernel_rfl) (by kernel_rfl) (fun _ _ _ h => h) (by rfl) ?hy16e hHeld ?rest16e
          case hy16e =>
            intro w' hSw
            obtain ⟨⟨u0, u1, u2, u3, u4, u5, u6⟩, ⟨v0, v1, v2, v3, v4, v5, v6⟩, r0, r1, r2, -⟩ := hSw
            go_simp <;> with_reducible rfl
          try simp only [Act.put, List.setIfInBounds_toArray, List.set_cons_zero, List.set_cons_succ]
          refine take_yes (i := 17) (v := ?v17e) rfl (by kernel_rfl) (by kernel_rfl) (by kernel_rfl) (fun _ _ _ h => h) (by rfl) ?hy17e hHeld ?rest17e
          case hy17e =>
            intro w' hSw
            obtain ⟨⟨u0, u1, u2, u3, u4, u5, u6⟩, ⟨v0, v1, v2, v3, v4, v5, v6⟩, r0, r1, r2, -⟩ := hSw
            go_simp <;> with_reducible rfl
          try simp only [Act.put, List.setIfInBounds_toArray, List.set_cons_zero, List.set_cons_succ]
          refine take_yes (i := 18) (v := ?v18e) rfl (by kernel_rfl) (by kernel_rfl) (by kernel_rfl) (fun _ _ _ h => h) (by rfl) ?hy18e hHeld ?rest18e
          case hy18e =>
            intro w' hSw
            obtain ⟨⟨u0, u1, u2, u3, u4, u5, u6⟩, ⟨v0, v1, v2, v3, v4, v5, v6⟩, r0, r1, r2, -⟩ := hSw
            go_simp <;> with_reducible rfl
          try simp only [Act.put, List.setIfInBounds_toArray, List.set_cons_zero, List.set_cons_succ]
          refine take_yes (i := 19) (v := ?v19e) rfl (by kernel_rfl) (by kernel_rfl) (by kernel_rfl) (fun _ _ _ h => h) (by rfl) ?hy19e hHeld ?rest19e
          case hy19e =>
            intro w' hSw
            obtain ⟨⟨u0, u1, u2, u3, u4, u5, u6⟩, ⟨v0, v1, v2, v3, v4, v5, v6⟩, r0, r1, r2, -⟩ := hSw
            go_simp <;> with_reducible rfl
          try simp only [Act.put, List.setIfInBounds_toArray, List.set_cons_zero, List.set_cons_succ]
          refine take_yes (i := 20) (v := ?v20e) rfl (by kernel_rfl) (by kernel_rfl) (by kernel_rfl) (fun _ _ _ h => h) (by rfl) ?hy20e hHeld ?rest20e
          case hy20e =>
            intro w' hSw
            obtain ⟨⟨u0, u1, u2, u3, u4, u5, u6⟩, ⟨v0, v1, v2, v3, v4, v5, v6⟩, r0, r1, r2, -⟩ := hSw
            go_simp <;> with_reducible rfl
          try simp only [Act.put, List.setIfInBounds_toArray, List.set_cons_zero, List.set_cons_succ]
          refine take_yes (i := 21) (v := ?v21e) rfl (by kernel_rfl) (by kernel_rfl) (by kernel_rfl) (fun _ _ _ h => h) (by rfl) ?hy21e hHeld ?rest21e
          case hy21e =>
            intro w' hSw
            obtain ⟨⟨u0, u1, u2, u3, u4, u5, u6⟩, ⟨v0, v1, v2, v3, v4, v5, v6⟩, r0, r1, r2, -⟩ := hSw
            go_simp <;> with_reducible rfl
          try simp only [Act.put, List.setIfInBounds_toArray, List.set_cons_zero, List.set_cons_succ]
          refine take_yes (i := 22) (v := ?v22e) rfl (by kernel_rfl) (by kernel_rfl) (by kernel_rfl) (fun _ _ _ h => h) (by rfl) ?hy22e hHeld ?rest22e
          case hy22e =>
            intro w' hSw
            obtain ⟨⟨u0, u1, u2, u3, u4, u5, u6⟩, ⟨v0, v1, v2, v3, v4, v5, v6⟩, r0, r1, r2, -⟩ := hSw
            go_simp <;> with_reducible rfl
          try simp only [Act.put, List.setIfInBounds_toArray, List.set_cons_zero, List.set_cons_succ]
          refine take_yes (i := 23) (v := ?v23e) rfl (by kernel_rfl) (by kernel_rfl) (by kernel_rfl) (fun _ _ _ h => h) (by rfl) ?hy23e hHeld ?rest23e
          case hy23e =>
            intro w' hSw
            obtain ⟨⟨u0, u1, u2, u3, u4, u5, u6⟩, ⟨v0, v1, v2, v3, v4, v5, v6⟩, r0, r1, r2, -⟩ := hSw
            go_simp <;> with_reducible rfl
          try simp only [Act.put, List.setIfInBounds_toArray, List.set_cons_zero, List.set_cons_succ]
          refine take_yes (i := 24) (v := ?v24e) rfl (by kernel_rfl) (by kernel_rfl) (by kernel_rfl) (fun _ _ _ h => h) (by rfl) ?hy24e hHeld ?rest24e
          case hy24e =>
            intro w' hSw
            obtain ⟨⟨u0, u1, u2, u3, u4, u5, u6⟩, ⟨v0, v1, v2, v3, v4, v5, v6⟩, r0, r1, r2, -⟩ := hSw
            go_simp <;> with_reducible rfl
          try simp only [Act.put, List.setIfInBounds_toArray, List.set_cons_zero, List.set_cons_succ]
          refine take_yes (i := 25) (v := ?v25e) rfl (by kernel_rfl) (by kernel_rfl) (by kernel_rfl) (fun _ _ _ h => h) (by rfl) ?hy25e hHeld ?rest25e
          case hy25e =>
            intro w' hSw
            obtain ⟨⟨u0, u1, u2, u3, u4, u5, u6⟩, ⟨v0, v1, v2, v3, v4, v5, v6⟩, r0, r1, r2, -⟩ := hSw
            go_simp <;> with_reducible rfl
          try simp only [Act.put, List.setIfInBounds_toArray, List.set_cons_zero, List.set_cons_succ]
          refine take_yes (i := 26) (v := ?v26e) rfl (by kernel_rfl) (by kernel_rfl) (by kernel_rfl) (fun _ _ _ h => h) (by rfl) ?hy26e hHeld ?rest26e
          case hy26e =>
            intro w' hSw
            obtain ⟨⟨u0, u1, u2, u3, u4, u5, u6⟩, ⟨v0, v1, v2, v3, v4, v5, v6⟩, r0, r1, r2, -⟩ := hSw
            go_simp <;> with_reducible rfl
          try simp only [Act.put, List.setIfInBounds_toArray, List.set_cons_zero, List.set_cons_succ]
          refine take_yes (i := 27) (v := ?v27e) rfl (by kernel_rfl) (by kernel_rfl) (by kernel_rfl) (fun _ _ _ h => h) (by rfl) ?hy27e hHeld ?rest27e
          case hy27e =>
            intro w' hSw
            obtain ⟨⟨u0, u1, u2, u3, u4, u5, u6⟩, ⟨v0, v1, v2, v3, v4, v5, v6⟩, r0, r1, r2, -⟩ := hSw
            go_simp <;> with_reducible rfl
          try simp only [Act.put, List.setIfInBounds_toArray, List.set_cons_zero, List.set_cons_succ]
          refine take_yes (i := 28) (v := ?v28e) rfl (by kernel_rfl) (by kernel_rfl) (by kernel_rfl) (fun _ _ _ h => h) (by rfl) ?hy28e hHeld ?rest28e
          case hy28e =>
            intro w' hSw
            obtain ⟨⟨u0, u1, u2, u3, u4, u5, u6⟩, ⟨v0, v1, v2, v3, v4, v5, v6⟩, r0, r1, r2, -⟩ := hSw
            go_simp <;> with_reducible rfl
          try simp only [Act.put, List.setIfInBounds_toArray, List.set_cons_zero, List.set_cons_succ]
          refine take_yes (i := 29) (v := ?v29e) rfl (by kernel_rfl) (by kernel_rfl) (by kernel_rfl) (fun _ _ _ h => h) (by rfl) ?hy29e hHeld ?rest29e
          case hy29e =>
            intro w' hSw
            obtain ⟨⟨u0, u1, u2, u3, u4, u5, u6⟩, ⟨v0, v1, v2, v3, v4, v5, v6⟩, r0, r1, r2, -⟩ := hSw
            go_simp <;> with_reducible rfl
          try simp only [Act.put, List.setIfInBounds_toArray, List.set_cons_zero, List.set_cons_succ]
          refine take_yes (i := 30) (v := ?v30e) rfl (by kernel_rfl) (by kernel_rfl) (by kernel_rfl) (fun _ _ _ h => h) (by rfl) ?hy30e hHeld ?rest30e
          case hy30e =>
            intro w' hSw
            obtain ⟨⟨u0, u1, u2, u3, u4, u5, u6⟩, ⟨v0, v1, v2, v3, v4, v5, v6⟩, r0, r1, r2, -⟩ := hSw
            go_simp <;> with_reducible rfl
          try simp only [Act.put, List.setIfInBounds_toArray, List.set_cons_zero, List.set_cons_succ]
          refine take_yes (i := 31) (v := ?v31e) rfl (by kernel_rfl) (by kernel_rfl) (by kernel_rfl) (fun _ _ _ h => h) (by rfl) ?hy31e hHeld ?rest31e
          case hy31e =>
            intro w' hSw
            obtain ⟨⟨u0, u1, u2, u3, u4, u5, u6⟩, ⟨v0, v1, v2, v3, v4, v5, v6⟩, r0, r1, r2, -⟩ := hSw
            go_simp <;> with_reducible rfl
          try simp only [Act.put, List.setIfInBounds_toArray, List.set_cons_zero, List.set_cons_succ]
          refine take_yes (i := 32) (v := ?v32e) rfl (by kernel_rfl) (by kernel_rfl) (by kernel_rfl) (fun _ _ _ h => h) (by rfl) ?hy32e hHeld ?rest32e
          case hy32e =>
            intro w' hSw
            obtain ⟨⟨u0, u1, u2, u3, u4, u5, u6⟩, ⟨v0, v1, v2, v3, v4, v5, v6⟩, r0, r1, r2, -⟩ := hSw
            go_simp <;> with_reducible rfl
          try simp only [Act.put, List.setIfInBounds_toArray, List.set_cons_zero, List.set_cons_succ]
          refine take_yes (i := 33) (v := ?v33e) rfl (by kernel_rfl) (by kernel_rfl) (by kernel_rfl) (fun _ _ _ h => h) (by rfl) ?hy33e hHeld ?rest33e
          case hy33e =>
            intro w' hSw
            obtain ⟨⟨u0, u1, u2, u3, u4, u5, u6⟩, ⟨v0, v1, v2, v3, v4, v5, v6⟩, r0, r1, r2, -⟩ := hSw
            go_simp <;> with_reducible rfl
          try simp only [Act.put, List.setIfInBounds_toArray, List.set_cons_zero, List.set_cons_succ]
          refine take_yes (i := 34) (v := ?v34e) rfl (by kernel_rfl) (by kernel_rfl) (by kernel_rfl) (fun _ _ _ h => h) (by rfl) ?hy34e hHeld ?rest34e
          case hy34e =>
            intro w' hSw
            obtain ⟨⟨u0, u1, u2, u3, u4, u5, u6⟩, ⟨v0, v1, v2, v3, v4, v5, v6⟩, r0, r1, r2, -⟩ := hSw
            go_simp <;> with_reducible rfl
          try simp only [Act.put, List.setIfInBounds_toArray, List.set_cons_zero, List.set_cons_succ]
          refine take_yes (i := 35) (v := ?v35e) rfl (by kernel_rfl) (by kernel_rfl) (by kernel_rfl) (fun _ _ _ h => h) (by rfl) ?hy35e hHeld ?rest35e
          case hy35e =>
            intro w' hSw
            obtain ⟨⟨u0, u1, u2, u3, u4, u5, u6⟩, ⟨v0, v1, v2, v3, v4, v5, v6⟩, r0, r1, r2, -⟩ := hSw
            go_simp <;> with_reducible rfl
          try simp only [Act.put, List.setIfInBounds_toArray, List.set_cons_zero, List.set_cons_succ]
          refine take_yes (i := 36) (v := ?v36e) rfl (by kernel_rfl) (by kernel_rfl) (by kernel_rfl) (fun _ _ _ h => h) (by rfl) ?hy36e hHeld ?rest36e
          case hy36e =>
            intro w' hSw
            obtain ⟨⟨u0, u1, u2, u3, u4, u5, u6⟩, ⟨v0, v1, v2, v3, v4, v5, v6⟩, r0, r1, r2, -⟩ := hSw
            go_simp <;> with_reducible rfl
          try simp only [Act.put, List.setIfInBounds_toArray, List.set_cons_zero, List.set_cons_succ]
          refine take_yes (i := 37) (v := ?v37e) rfl (by kernel_rfl) (by kernel_rfl) (by kernel_rfl) (fun _ _ _ h => h) (by rfl) ?hy37e hHeld ?rest37e
          case hy37e =>
            intro w' hSw
            obtain ⟨⟨u0, u1, u2, u3, u4, u5, u6⟩, ⟨v0, v1, v2, v3, v4, v5, v6⟩, r0, r1, r2, -⟩ := hSw
            go_simp <;> with_reducible rfl
          try simp only [Act.put, List.setIfInBounds_toArray, List.set_cons_zero, List.set_cons_succ]
          refine take_yes (i := 38) (v := ?v38e) rfl (by kernel_rfl) (by kernel_rfl) (by kernel_rfl) (fun _ _ _ h => h) (by rfl) ?hy38e hHeld ?rest38e
          case hy38e =>
            intro w' hSw
            obtain ⟨⟨u0, u1, u2, u3, u4, u5, u6⟩, ⟨v0, v1, v2, v3, v4, v5, v6⟩, r0, r1, r2, -⟩ := hSw
            go_simp <;> with_reducible rfl
          try simp only [Act.put, List.setIfInBounds_toArray, List.set_cons_zero, List.set_cons_succ]
          refine take_no (i := 39) rfl (by kernel_rfl) (by kernel_rfl) (by kernel_rfl) (fun _ _ _ h => h) (by rfl) hHeld ?rest39e
          try simp only [Act.put, List.setIfInBounds_toArray, List.set_cons_zero, List.set_cons_succ]
          refine take_no (i := 40) rfl (by kernel_rfl) (by kernel_rfl) (by kernel_rfl) (fun _ _ _ h => h) (by rfl) hHeld ?rest40e
          try simp only [Act.put, List.setIfInBounds_toArray, List.set_cons_zero, List.set_cons_succ]
          refine take_no (i := 41) rfl (by kernel_rfl) (by kernel_rfl) (by kernel_rfl) (fun _ _ _ h => h) (by rfl) hHeld ?rest41e
          try simp only [Act.put, List.setIfInBounds_toArray, List.set_cons_zero, List.set_cons_succ]
          refine take_no (i := 42) rfl (by kernel_rfl) (by kernel_rfl) (by kernel_rfl) (fun _ _ _ h => h) (by rfl) hHeld ?rest42e
          try simp only [Act.put, List.setIfInBounds_toArray, List.set_cons_zero, List.set_cons_succ]
          refine take_yes (i := 43) (v := ?v43e) rfl (by kernel_rfl) (by kernel_rfl) (by kernel_rfl) (fun _ _ _ h => h) (by rfl) ?hy43e hHeld ?rest43e
          case hy43e =>
            intro w' hSw
            obtain ⟨⟨u0, u1, u2, u3, u4, u5, u6⟩, ⟨v0, v1, v2, v3, v4, v5, v6⟩, r0, r1, r2, -⟩ := hSw
            go_simp <;> with_reducible rfl
          try simp only [Act.put, List.setIfInBounds_toArray, List.set_cons_zero, List.set_cons_succ]
          refine take_yes (i := 44) (v := ?v44e) rfl (by kernel_rfl) (by kernel_rfl) (by kernel_rfl) (fun _ _ _ h => h) (by rfl) ?hy44e hHeld ?rest44e
          case hy44e =>
            intro w' hSw
            obtain ⟨⟨u0, u1, u2, u3, u4, u5, u6⟩, ⟨v0, v1, v2, v3, v4, v5, v6⟩, r0, r1, r2, -⟩ := hSw
            go_simp <;> with_reducible rfl
          try simp only [Act.put, List.setIfInBounds_toArray, List.set_cons_zero, List.set_cons_succ]
          refine take_yes (i := 45) (v := ?v45e) rfl (by kernel_rfl) (by kernel_rfl) (by kernel_rfl) (fun _ _ _ h => h) (by rfl) ?hy45e hHeld ?rest45e
          case hy45e =>
            intro w' hSw
            obtain ⟨⟨u0, u1, u2, u3, u4, u5, u6⟩, ⟨v0, v1, v2, v3, v4, v5, v6⟩, r0, r1, r2, -⟩ := hSw
            go_simp <;> with_reducible rfl
          try simp only [Act.put, List.setIfInBounds_toArray, List.set_cons_zero, List.set_cons_succ]
          refine take_yes (i := 46) (v := ?v46e) rfl (by kernel_rfl) (by kernel_rfl) (by kernel_rfl) (fun _ _ _ h => h) (by rfl) ?hy46e hHeld ?rest46e
          case hy46e =>
            intro w' hSw
            obtain ⟨⟨u0, u1, u2, u3, u4, u5, u6⟩, ⟨v0, v1, v2, v3, v4, v5, v6⟩, r0, r1, r2, -⟩ := hSw
            go_simp <;> with_reducible rfl
          try simp only [Act.put, List.setIfInBounds_toArray, List.set_cons_zero, List.set_cons_succ]
          refine take_yes (i := 47) (v := ?v47e) rfl (by kernel_rfl) (by kernel_rfl) (by kernel_rfl) (fun _ _ _ h => h) (by rfl) ?hy47e hHeld ?rest47e
          case hy47e =>
            intro w' hSw
            obtain ⟨⟨u0, u1, u2, u3, u4, u5, u6⟩, ⟨v0, v1, v2, v3, v4, v5, v6⟩, r0, r1, r2, -⟩ := hSw
            go_simp <;> with_reducible rfl
          try simp only [Act.put, List.setIfInBounds_toArray, List.set_cons_zero, List.set_cons_succ]
          refine take_yes (i := 48) (v := ?v48e) rfl (by kernel_rfl) (by kernel_rfl) (by kernel_rfl) (fun _ _ _ h => h) (by rfl) ?hy48e hHeld ?rest48e
          case hy48e =>
            intro w' hSw
            obtain ⟨⟨u0, u1, u2, u3, u4, u5, u6⟩, ⟨v0, v1, v2, v3, v4, v5, v6⟩, r0, r1, r2, -⟩ := hSw
            go_simp <;> with_reducible rfl
          try simp only [Act.put, List.setIfInBounds_toArray, List.set_cons_zero, List.set_cons_succ]
          refine take_yes (i := 49) (v := ?v49e) rfl (by kernel_rfl) (by kernel_rfl) (by kernel_rfl) (fun _ _ _ h => h) (by rfl) ?hy49e hHeld ?rest49e
          case hy49e =>
            intro w' hSw
            obtain ⟨⟨u0, u1, u2, u3, u4, u5, u6⟩, ⟨v0, v1, v2, v3, v4, v5, v6⟩, r0, r1, r2, -⟩ := hSw
            go_simp <;> with_reducible rfl
          try simp only [Act.put, List.setIfInBounds_toArray, List.set_cons_zero, List.set_cons_succ]
          refine take_yes (i := 50) (v := ?v50e) rfl (by kernel_rfl) (by kernel_rfl) (by kernel_rfl) (fun _ _ _ h => h) (by rfl) ?hy50e hHeld ?rest50e
          case hy50e =>
            intro w' hSw
            obtain ⟨⟨u0, u1, u2, u3, u4, u5, u6⟩, ⟨v0, v1, v2, v3, v4, v5, v6⟩, r0, r1, r2, -⟩ := hSw
            go_simp <;> with_reducible rfl
          try simp only [Act.put, List.setIfInBounds_toArray, List.set_cons_zero, List.set_cons_succ]
          refine take_yes (i := 51) (v := ?v51e) rfl (by kernel_rfl) (by kernel_rfl) (by kernel_rfl) (fun _ _ _ h => h) (by rfl) ?hy51e hHeld ?rest51e
          case hy51e =>
            intro w' hSw
            obtain ⟨⟨u0, u1, u2, u3, u4, u5, u6⟩, ⟨v0, v1, v2, v3, v4, v5, v6⟩, r0, r1, r2, -⟩ := hSw
            go_simp <;> with_reducible rfl
          try simp only [Act.put, List.setIfInBounds_toArray, List.set_cons_zero, List.set_cons_succ]
          refine take_yes (i := 52) (v := ?v52e) rfl (by kernel_rfl) (by kernel_rfl) (by kernel_rfl) (fun _ _ _ h => h) (by rfl) ?hy52e hHeld ?rest52e
          case hy52e =>
            intro w' hSw
            obtain ⟨⟨u0, u1, u2, u3, u4, u5, u6⟩, ⟨v0, v1, v2, v3, v4, v5, v6⟩, r0, r1, r2, -⟩ := hSw
            go_simp <;> with_reducible rfl
          try simp only [Act.put, List.setIfInBounds_toArray, List.set_cons_zero, List.set_cons_succ]
          refine take_yes (i := 53) (v := ?v53e) rfl (by kernel_rfl) (by kernel_rfl) (by kernel_rfl) (fun _ _ _ h => h) (by rfl) ?hy53e hHeld ?rest53e
          case hy53e =>
            intro w' hSw
            obtain ⟨⟨u0, u1, u2, u3, u4, u5, u6⟩, ⟨v0, v1, v2, v3, v4, v5, v6⟩, r0, r1, r2, -⟩ := hSw
            go_simp <;> with_reducible rfl
          try simp only [Act.put, List.setIfInBounds_toArray, List.set_cons_zero, List.set_cons_succ]
          refine take_yes (i := 54) (v := ?v54e) rfl (by kernel_rfl) (by kernel_rfl) (by kernel_rfl) (fun _ _ _ h => h) (by rfl) ?hy54e hHeld ?rest54e
          case hy54e =>
            intro w' hSw
            obtain ⟨⟨u0, u1, u2, u3, u4, u5, u6⟩, ⟨v0, v1, v2, v3, v4, v5, v6⟩, r0, r1, r2, -⟩ := hSw
            go_simp <;> with_reducible rfl
          try simp only [Act.put, List.setIfInBounds_toArray, List.set_cons_zero, List.set_cons_succ]
          refine take_yes (i := 55) (v := ?v55e) rfl (by kernel_rfl) (by kernel_rfl) (by kernel_rfl) (fun _ _ _ h => h) (by rfl) ?hy55e hHeld ?rest55e
          case hy55e =>
            intro w' hSw
            obtain ⟨⟨u0, u1, u2, u3, u4, u5, u6⟩, ⟨v0, v1, v2, v3, v4, v5, v6⟩, r0, r1, r2, -⟩ := hSw
            go_simp <;> with_reducible rfl
          try simp only [Act.put, List.setIfInBounds_toArray, List.set_cons_zero, List.set_cons_succ]
          refine take_yes (i := 56) (v := ?v56e) rfl (by kernel_rfl) (by kernel_rfl) (by kernel_rfl) (fun _ _ _ h => h) (by rfl) ?hy56e hHeld ?rest56e
          case hy56e =>
            intro w' hSw
            obtain ⟨⟨u0, u1, u2, u3, u4, u5, u6⟩, ⟨v0, v1, v2, v3, v4, v5, v6⟩, r0, r1, r2, -⟩ := hSw
            go_simp <;> with_reducible rfl
          try simp only [Act.put, List.setIfInBounds_toArray, List.set_cons_zero, List.set_cons_succ]
          refine take_yes (i := 57) (v := ?v57e) rfl (by kernel_rfl) (by kernel_rfl) (by kernel_rfl) (fun _ _ _ h => h) (by rfl) ?hy57e hHeld ?rest57e
          case hy57e =>
            intro w' hSw
            obtain ⟨⟨u0, u1, u2, u3, u4, u5, u6⟩, ⟨v0, v1, v2, v3, v4, v5, v6⟩, r0, r1, r2, -⟩ := hSw
            go_simp <;> with_reducible rfl
          try simp only [Act.put, List.setIfInBounds_toArray, List.set_cons_zero, List.set_cons_succ]
          refine take_no (i := 58) rfl (by kernel_rfl) (by kernel_rfl) (by kernel_rfl) (fun _ _ _ h => h) (by rfl) hHeld ?rest58e
          try simp only [Act.put, List.setIfInBounds_toArray, List.set_cons_zero, List.set_cons_succ]
          refine take_no (i := 59) rfl (by kernel_rfl) (by kernel_rfl) (by kernel_rfl) (fun _ _ _ h => h) (by rfl) hHeld ?rest59e
          try simp only [Act.put, List.setIfInBounds_toArray, List.set_cons_zero, List.set_cons_succ]
          refine take_no (i := 60) rfl (by kernel_rfl) (by kernel_rfl) (by kernel_rfl) (fun _ _ _ h => h) (by rfl) hHeld ?rest60e
          try simp only [Act.put, List.setIfInBounds_toArray, List.set_cons_zero, List.set_cons_succ]
          refine take_no (i := 61) rfl (by kernel_rfl) (by kernel_rfl) (by kernel_rfl) (fun _ _ _ h => h) (by rfl) hHeld ?rest61e
          try simp only [Act.put, List.setIfInBounds_toArray, List.set_cons_zero, List.set_cons_succ]
          refine take_no (i := 62) rfl (by kernel_rfl) (by kernel_rfl) (by kernel_rfl) (fun _ _ _ h => h) (by rfl) hHeld ?rest62e
          try simp only [Act.put, List.setIfInBounds_toArray, List.set_cons_zero, List.set_cons_succ]
          refine take_no (i := 63) rfl (by kernel_rfl) (by kernel_rfl) (by kernel_rfl) (fun _ _ _ h => h) (by rfl) hHeld ?rest63e
          try simp only [Act.put, List.setIfInBounds_toArray, List.set_cons_zero, List.set_cons_succ]
          refine take_no (i := 64) rfl (by kernel_rfl) (by kernel_rfl) (by kernel_rfl) (fun _ _ _ h => h) (by rfl) hHeld ?rest64e
          try simp only [Act.put, List.setIfInBounds_toArray, List.set_cons_zero, List.set_cons_succ]
          refine take_no (i := 65) rfl (by kernel_rfl) (by kernel_rfl) (by kernel_rfl) (fun _ _ _ h => h) (by rfl) hHeld ?rest65e
          try simp only [Act.put, List.setIfInBounds_toArray, List.set_cons_zero, List.set_cons_succ]
          refine take_no (i := 66) rfl (by kernel_rfl) (by kernel_rfl) (by kernel_rfl) (fun _ _ _ h => h) (by rfl) hHeld ?rest66e
          try simp only [Act.put, List.setIfInBounds_toArray, List.set_cons_zero, List.set_cons_succ]
          refine take_yes (i := 67) (v := ?v67e) rfl (by kernel_rfl) (by kernel_rfl) (by kernel_rfl) (fun _ _ _ h => h) (by rfl) ?hy67e hHeld ?rest67e
          case hy67e =>
            intro w' hSw
            obtain ⟨⟨u0, u1, u2, u3, u4, u5, u6⟩, ⟨v0, v1, v2, v3, v4, v5, v6⟩, r0, r1, r2, -⟩ := hSw
            go_simp <;> with_reducible rfl
          try simp only [Act.put, List.setIfInBounds_toArray, List.set_cons_zero, List.set_cons_succ]
          refine take_yes (i := 68) (v := ?v68e) rfl (by kernel_rfl) (by kernel_rfl) (by kernel_rfl) (fun _ _ _ h => h) (by rfl) ?hy68e hHeld ?rest68e
          case hy68e =>
            intro w' hSw
            obtain ⟨⟨u0, u1, u2, u3, u4, u5, u6⟩, ⟨v0, v1, v2, v3, v4, v5, v6⟩, r0, r1, r2, -⟩ := hSw
            go_simp <;> with_reducible rfl
          try simp only [Act.put, List.setIfInBounds_toArray, List.set_cons_zero, List.set_cons_succ]
          refine wpAnyH_done (by kernel_rfl) ?_ _
          obtain ⟨-, -, -, -, -, hb11⟩ := hHeld
          clear u0 u1 u2 u3 u4 u5 u6 v0 v1 v2 v3 v4 v5 v6 hcl kp0 kp1
          go_wp2_with fail
          go_roundw
          case rel => exact ⟨k + 1, by omega, by go_num, hbq.trans (hb11.mono hbq.size)⟩
          case measure => simp [intOf]; omega
      have d1 : ((k : Int) != c.cl) = false := by simpa using hkc
      clear f1 f3 he hkc
      obtain ⟨pon, ps, pst, p0, p1, p2, p3⟩ := p
      try simp only at d2
      try simp only at v0 v1 v2 v3 v4 v5 v6
      cases pon
      · clear f2
        go_upto_region 17 with fail
        refine wp_region_held_drew (S := fun w' => cells7 w' ab (k * 7) o ∧ cells7 w' nb (k * 7) ⟨false, ps, pst, ⟨p0, p1, p2, p3⟩⟩ ∧ w'.cell? ⟨b, off + i * 23 + 16, none⟩ = some (.int .i64 c.cl) ∧ w'.cell? ⟨pb, 0, none⟩ = some (.int .i64 a10) ∧ w'.cell? ⟨pb, 1, none⟩ = some (.int .i64 a11) ∧ Below wr.heap.size wr w') (by kernel_rfl) ⟨⟨u0, u1, u2, u3, u4, u5, u6⟩, ⟨v0, v1, v2, v3, v4, v5, v6⟩, hcl, kp0, kp1, (Below.refl _ _).drew⟩ (fun hHeld => ?_)
        refine take_yes (i := 0) (v := ?v0f) rfl (by kernel_rfl) (by kernel_rfl) (by kernel_rfl) (fun _ _ _ h => h) (by rfl) ?hy0f hHeld ?rest0f
        case hy0f =>
          intro w' hSw
          obtain ⟨⟨u0, u1, u2, u3, u4, u5, u6⟩, ⟨v0, v1, v2, v3, v4, v5, v6⟩, r0, r1, r2, -⟩ := hSw
          go_simp <;> with_reducible rfl
        try simp only [Act.put, List.setIfInBounds_toArray, List.set_cons_zero, List.set_cons_succ]
        refine take_yes (i := 1) (v := ?v1f) rfl (by kernel_rfl) (by kernel_rfl) (by kernel_rfl) (fun _ _ _ h => h) (by rfl) ?hy1f hHeld ?rest1f
        case hy1f =>
          intro w' hSw
          obtain ⟨⟨u0, u1, u2, u3, u4, u5, u6⟩, ⟨v0, v1, v2, v3, v4, v5, v6⟩, r0, r1, r2, -⟩ := hSw
          go_simp <;> with_reducible rfl
        try simp only [Act.put, List.setIfInBounds_toArray, List.set_cons_zero, List.set_cons_succ]
        refine take_yes (i := 2) (v := ?v2f) rfl (by kernel_rfl) (by kernel_rfl) (by kernel_rfl) (fun _ _ _ h => h) (by rfl) ?hy2f hHeld ?rest2f
        case hy2f =>
          intro w' hSw
          obtain ⟨⟨u0, u1, u2, u3, u4, u5, u6⟩, ⟨v0, v1, v2, v3, v4, v5, v6⟩, r0, r1, r2, -⟩ := hSw
          go_simp <;> with_reducible rfl
        try simp only [Act.put, List.setIfInBounds_toArray, List.set_cons_zero, List.set_cons_succ]
        refine take_yes (i := 3) (v := ?v3f) rfl (by kernel_rfl) (by kernel_rfl) (by kernel_rfl) (fun _ _ _ h => h) (by rfl) ?hy3f hHeld ?rest3f
        case hy3f =>
          intro w' hSw
          obtain ⟨⟨u0, u1, u2, u3, u4, u5, u6⟩, ⟨v0, v1, v2, v3, v4, v5, v6⟩, r0, r1, r2, -⟩ := hSw
          go_simp <;> with_reducible rfl
        try simp only [Act.put, List.setIfInBounds_toArray, List.set_cons_zero, List.set_cons_succ]
        refine take_yes (i := 4) (v := ?v4f) rfl (by kernel_rfl) (by kernel_rfl) (by kernel_rfl) (fun _ _ _ h => h) (by rfl) ?hy4f hHeld ?rest4f
        case hy4f =>
          intro w' hSw
          obtain ⟨⟨u0, u1, u2, u3, u4, u5, u6⟩, ⟨v0, v1, v2, v3, v4, v5, v6⟩, r0, r1, r2, -⟩ := hSw
          go_simp <;> with_reducible rfl
        try simp only [Act.put, List.setIfInBounds_toArray, List.set_cons_zero, List.set_cons_succ]
        refine take_yes (i := 5) (v := ?v5f) rfl (by kernel_rfl) (by kernel_rfl) (by kernel_rfl) (fun _ _ _ h => h) (by rfl) ?hy5f hHeld ?rest5f
        case hy5f =>
          intro w' hSw
          obtain ⟨⟨u0, u1, u2, u3, u4, u5, u6⟩, ⟨v0, v1, v2, v3, v4, v5, v6⟩, r0, r1, r2, -⟩ := hSw
          go_simp <;> with_reducible rfl
        try simp only [Act.put, List.setIfInBounds_toArray, List.set_cons_zero, List.set_cons_succ]
        refine take_yes (i := 6) (v := ?v6f) rfl (by kernel_rfl) (by kernel_rfl) (by kernel_rfl) (fun _ _ _ h => h) (by rfl) ?hy6f hHeld ?rest6f
        case hy6f =>
          intro w' hSw
          obtain ⟨⟨u0, u1, u2, u3, u4, u5, u6⟩, ⟨v0, v1, v2, v3, v4, v5, v6⟩, r0, r1, r2, -⟩ := hSw
          go_simp <;> with_reducible rfl
        try simp only [Act.put, List.setIfInBounds_toArray, List.set_cons_zero, List.set_cons_succ]
        refine take_yes (i := 7) (v := ?v7f) rfl (by kernel_rfl) (by kernel_rfl) (by kernel_rfl) (fun _ _ _ h => h) (by rfl) ?hy7f hHeld ?rest7f
        case hy7f =>
          intro w' hSw
          obtain ⟨⟨u0, u1, u2, u3, u4, u5, u6⟩, ⟨v0, v1, v2, v3, v4, v5, v6⟩, r0, r1, r2, -⟩ := hSw
          go_simp <;> with_reducible rfl
        try simp only [Act.put, List.setIfInBounds_toArray, List.set_cons_zero, List.set_cons_succ]
        refine take_yes (i := 8) (v := ?v8f) rfl (by kernel_rfl) (by kernel_rfl) (by kernel_rfl) (fun _ _ _ h => h) (by rfl) ?hy8f hHeld ?rest8f
        case hy8f =>
          intro w' hSw
          obtain ⟨⟨u0, u1, u2, u3, u4, u5, u6⟩, ⟨v0, v1, v2, v3, v4, v5, v6⟩, r0, r1, r2, -⟩ := hSw
          go_simp <;> with_reducible rfl
        try simp only [Act.put, List.setIfInBounds_toArray, List.set_cons_zero, List.set_cons_succ]
        refine take_yes (i := 9) (v := ?v9f) rfl (by kernel_rfl) (by kernel_rfl) (by kernel_rfl) (fun _ _ _ h => h) (by rfl) ?hy9f hHeld ?rest9f
        case hy9f =>
          intro w' hSw
          obtain ⟨⟨u0, u1, u2, u3, u4, u5, u6⟩, ⟨v0, v1, v2, v3, v4, v5, v6⟩, r0, r1, r2, -⟩ := hSw
          go_simp <;> with_reducible rfl
        try simp only [Act.put, List.setIfInBounds_toArray, List.set_cons_zero, List.set_cons_succ]
        refine take_yes (i := 10) (v := ?v10f) rfl (by kernel_rfl) (by kernel_rfl) (by kernel_rfl) (fun _ _ _ h => h) (by rfl) ?hy10f hHeld ?rest10f
        case hy10f =>
          intro w' hSw
          obtain ⟨⟨u0, u1, u2, u3, u4, u5, u6⟩, ⟨v0, v1, v2, v3, v4, v5, v6⟩, r0, r1, r2, -⟩ := hSw
          go_simp <;> with_reducible rfl
        try simp only [Act.put, List.setIfInBounds_toArray, List.set_cons_zero, List.set_cons_succ]
        refine take_yes (i := 11) (v := ?v11f) rfl (by kernel_rfl) (by kernel_rfl) (by kernel_rfl) (fun _ _ _ h => h) (by rfl) ?hy11f hHeld ?rest11f
        case hy11f =>
          intro w' hSw
          obtain ⟨⟨u0, u1, u2, u3, u4, u5, u6⟩, ⟨v0, v1, v2, v3, v4, v5, v6⟩, r0, r1, r2, -⟩ := hSw
          go_simp <;> with_reducible rfl
        try simp only [Act.put, List.setIfInBounds_toArray, List.set_cons_zero, List.set_cons_succ]
        refine take_yes (i := 12) (v := ?v12f) rfl (by kernel_rfl) (by kernel_rfl) (by kernel_rfl) (fun _ _ _ h => h) (by rfl) ?hy12f hHeld ?rest12f
        case hy12f =>
          intro w' hSw
          obtain ⟨⟨u0, u1, u2, u3, u4, u5, u6⟩, ⟨v0, v1, v2, v3, v4, v5, v6⟩, r0, r1, r2, -⟩ := hSw
          go_simp <;> with_reducible rfl
        try simp only [Act.put, List.setIfInBounds_toArray, List.set_cons_zero, List.set_cons_succ]
        refine take_no (i := 13) rfl (by kernel_rfl) (by kernel_rfl) (by kernel_rfl) (fun _ _ _ h => h) (by rfl) hHeld ?rest13f
        try simp only [Act.put, List.setIfInBounds_toArray, List.set_cons_zero, List.set_cons_succ]
        refine take_no (i := 14) rfl (by kernel_rfl) (by kernel_rfl) (by kernel_rfl) (fun _ _ _ h => h) (by rfl) hHeld ?rest14f
        try simp only [Act.put, List.setIfInBounds_toArray, List.set_cons_zero, List.set_cons_succ]
        refine take_no (i := 15) rfl (by kernel_rfl) (by kernel_rfl) (by kernel_rfl) (fun _ _ _ h => h) (by rfl) hHeld ?rest15f
        try simp only [Act.put, List.setIfInBounds_toArray, List.set_cons_zero, List.set_cons_succ]
        refine take_no (i := 16) rfl (by kernel_rfl) (by kernel_rfl) (by kernel_rfl) (fun _ _ _ h => h) (by rfl) hHeld ?rest16f
        try simp only [Act.put, List.setIfInBounds_toArray, List.set_cons_zero, List.set_cons_succ]
        refine take_no (i := 17) rfl (by kernel_rfl) (by kernel_rfl) (by kernel_rfl) (fun _ _ _ h => h) (by rfl) hHeld ?rest17f
        try simp only [Act.put, List.setIfInBounds_toArray, List.set_cons_zero, List.set_cons_succ]
        refine take_no (i := 18) rfl (by kernel_rfl) (by kernel_rfl) (by kernel_rfl) (fun _ _ _ h => h) (by rfl) hHeld ?rest18f
        try simp only [Act.put, List.setIfInBounds_toArray, List.set_cons_zero, List.set_cons_succ]
        refine take_no (i := 19) rfl (by kernel_rfl) (by kernel_rfl) (by kernel_rfl) (fun _ _ _ h => h) (by rfl) hHeld ?rest19f
        try simp only [Act.put, List.setIfInBounds_toArray, List.set_cons_zero, List.set_cons_succ]
        refine take_yes (i := 20) (v := ?v20f) rfl (by kernel_rfl) (by kernel_rfl) (by kernel_rfl) (fun _ _ _ h => h) (by rfl) ?hy20f hHeld ?rest20f
        case hy20f =>
          intro w' hSw
          obtain ⟨⟨u0, u1, u2, u3, u4, u5, u6⟩, ⟨v0, v1, v2, v3, v4, v5, v6⟩, r0, r1, r2, -⟩ := hSw
          go_simp <;> with_reducible rfl
        try simp only [Act.put, List.setIfInBounds_toArray, List.set_cons_zero, List.set_cons_succ]
        refine take_yes (i := 21) (v := ?v21f) rfl (by kernel_rfl) (by kernel_rfl) (by kernel_rfl) (fun _ _ _ h => h) (by rfl) ?hy21f hHeld ?rest21f
        case hy21f =>
          intro w' hSw
          obtain ⟨⟨u0, u1, u2, u3, u4, u5, u6⟩, ⟨v0, v1, v2, v3, v4, v5, v6⟩, r0, r1, r2, -⟩ := hSw
          go_simp <;> with_reducible rfl
        try simp only [Act.put, List.setIfInBounds_toArray, List.set_cons_zero, List.set_cons_succ]
        refine take_yes (i := 22) (v := ?v22f) rfl (by kernel_rfl) (by kernel_rfl) (by kernel_rfl) (fun _ _ _ h => h) (by rfl) ?hy22f hHeld ?rest22f
        case hy22f =>
          intro w' hSw
          obtain ⟨⟨u0, u1, u2, u3, u4, u5, u6⟩, ⟨v0, v1, v2, v3, v4, v5, v6⟩, r0, r1, r2, -⟩ := hSw
          go_simp <;> with_reducible rfl
        try simp only [Act.put, List.setIfInBounds_toArray, List.set_cons_zero, List.set_cons_succ]
        refine take_yes (i := 23) (v := ?v23f) rfl (by kernel_rfl) (by kernel_rfl) (by kernel_rfl) (fun _ _ _ h => h) (by rfl) ?hy23f hHeld ?rest23f
        case hy23f =>
          intro w' hSw
          obtain ⟨⟨u0, u1, u2, u3, u4, u5, u6⟩, ⟨v0, v1, v2, v3, v4, v5, v6⟩, r0, r1, r2, -⟩ := hSw
          go_simp <;> with_reducible rfl
        try simp only [Act.put, List.setIfInBounds_toArray, List.set_cons_zero, List.set_cons_succ]
        refine take_yes (i := 24) (v := ?v24f) rfl (by kernel_rfl) (by kernel_rfl) (by kernel_rfl) (fun _ _ _ h => h) (by rfl) ?hy24f hHeld ?rest24f
        case hy24f =>
          intro w' hSw
          obtain ⟨⟨u0, u1, u2, u3, u4, u5, u6⟩, ⟨v0, v1, v2, v3, v4, v5, v6⟩, r0, r1, r2, -⟩ := hSw
          go_simp <;> with_reducible rfl
        try simp only [Act.put, List.setIfInBounds_toArray, List.set_cons_zero, List.set_cons_succ]
        refine take_yes (i := 25) (v := ?v25f) rfl (by kernel_rfl) (by kernel_rfl) (by kernel_rfl) (fun _ _ _ h => h) (by rfl) ?hy25f hHeld ?rest25f
        case hy25f =>
          intro w' hSw
          obtain ⟨⟨u0, u1, u2, u3, u4, u5, u6⟩, ⟨v0, v1, v2, v3, v4, v5, v6⟩, r0, r1, r2, -⟩ := hSw
          go_simp <;> with_reducible rfl
        try simp only [Act.put, List.setIfInBounds_toArray, List.set_cons_zero, List.set_cons_succ]
        refine take_yes (i := 26) (v := ?v26f) rfl (by kernel_rfl) (by kernel_rfl) (by kernel_rfl) (fun _ _ _ h => h) (by rfl) ?hy26f hHeld ?rest26f
        case hy26f =>
          intro w' hSw
          obtain ⟨⟨u0, u1, u2, u3, u4, u5, u6⟩, ⟨v0, v1, v2, v3, v4, v5, v6⟩, r0, r1, r2, -⟩ := hSw
          go_simp <;> with_reducible rfl
        try simp only [Act.put, List.setIfInBounds_toArray, List.set_cons_zero, List.set_cons_succ]
        refine take_yes (i := 27) (v := ?v27f) rfl (by kernel_rfl) (by kernel_rfl) (by kernel_rfl) (fun _ _ _ h => h) (by rfl) ?hy27f hHeld ?rest27f
        case hy27f =>
          intro w' hSw
          obtain ⟨⟨u0, u1, u2, u3, u4, u5, u6⟩, ⟨v0, v1, v2, v3, v4, v5, v6⟩, r0, r1, r2, -⟩ := hSw
          go_simp <;> with_reducible rfl
        try simp only [Act.put, List.setIfInBounds_toArray, List.set_cons_zero, List.set_cons_succ]
        refine take_yes (i := 28) (v := ?v28f) rfl (by kernel_rfl) (by kernel_rfl) (by kernel_rfl) (fun _ _ _ h => h) (by rfl) ?hy28f hHeld ?rest28f
        case hy28f =>
          intro w' hSw
          obtain ⟨⟨u0, u1, u2, u3, u4, u5, u6⟩, ⟨v0, v1, v2, v3, v4, v5, v6⟩, r0, r1, r2, -⟩ := hSw
          go_simp <;> with_reducible rfl
        try simp only [Act.put, List.setIfInBounds_toArray, List.set_cons_zero, List.set_cons_succ]
        refine take_yes (i := 29) (v := ?v29f) rfl (by kernel_rfl) (by kernel_rfl) (by kernel_rfl) (fun _ _ _ h => h) (by rfl) ?hy29f hHeld ?rest29f
        case hy29f =>
          intro w' hSw
          obtain ⟨⟨u0, u1, u2, u3, u4, u5, u6⟩, ⟨v0, v1, v2, v3, v4, v5, v6⟩, r0, r1, r2, -⟩ := hSw
          go_simp <;> with_reducible rfl
        try simp only [Act.put, List.setIfInBounds_toArray, List.set_cons_zero, List.set_cons_succ]
        refine take_yes (i := 30) (v := ?v30f) rfl (by kernel_rfl) (by kernel_rfl) (by kernel_rfl) (fun _ _ _ h => h) (by rfl) ?hy30f hHeld ?rest30f
        case hy30f =>
          intro w' hSw
          obtain ⟨⟨u0, u1, u2, u3, u4, u5, u6⟩, ⟨v0, v1, v2, v3, v4, v5, v6⟩, r0, r1, r2, -⟩ := hSw
          go_simp <;> with_reducible rfl
        try simp only [Act.put, List.setIfInBounds_toArray, List.set_cons_zero, List.set_cons_succ]
        refine take_yes (i := 31) (v := ?v31f) rfl (by kernel_rfl) (by kernel_rfl) (by kernel_rfl) (fun _ _ _ h => h) (by rfl) ?hy31f hHeld ?rest31f
        case hy31f =>
          intro w' hSw
          obtain ⟨⟨u0, u1, u2, u3, u4, u5, u6⟩, ⟨v0, v1, v2, v3, v4, v5, v6⟩, r0, r1, r2, -⟩ := hSw
          go_simp <;> with_reducible rfl
        try simp only [Act.put, List.setIfInBounds_toArray, List.set_cons_zero, List.set_cons_succ]
        refine take_yes (i := 32) (v := ?v32f) rfl (by kernel_rfl) (by kernel_rfl) (by kernel_rfl) (fun _ _ _ h => h) (by rfl) ?hy32f hHeld ?rest32f
        case hy32f =>
          intro w' hSw
          obtain ⟨⟨u0, u1, u2, u3, u4, u5, u6⟩, ⟨v0, v1, v2, v3, v4, v5, v6⟩, r0, r1, r2, -⟩ := hSw
          go_simp <;> with_reducible rfl
        try simp only [Act.put, List.setIfInBounds_toArray, List.set_cons_zero, List.set_cons_succ]
        refine take_yes (i := 33) (v := ?v33f) rfl (by kernel_rfl) (by kernel_rfl) (by kernel_rfl) (fun _ _ _ h => h) (by rfl) ?hy33f hHeld ?rest33f
        case hy33f =>
          intro w' hSw
          obtain ⟨⟨u0, u1, u2, u3, u4, u5, u6⟩, ⟨v0, v1, v2, v3, v4, v5, v6⟩, r0, r1, r2, -⟩ := hSw
          go_simp <;> with_reducible rfl
        try simp only [Act.put, List.setIfInBounds_toArray, List.set_cons_zero, List.set_cons_succ]
        refine take_yes (i := 34) (v := ?v34f) rfl (by kernel_rfl) (by kernel_rfl) (by kernel_rfl) (fun _ _ _ h => h) (by rfl) ?hy34f hHeld ?rest34f
        case hy34f =>
          intro w' hSw
          obtain ⟨⟨u0, u1, u2, u3, u4, u5, u6⟩, ⟨v0, v1, v2, v3, v4, v5, v6⟩, r0, r1, r2, -⟩ := hSw
          go_simp <;> with_reducible rfl
        try simp only [Act.put, List.setIfInBounds_toArray, List.set_cons_zero, List.set_cons_succ]
        refine take_yes (i := 35) (v := ?v35f) rfl (by kernel_rfl) (by kernel_rfl) (by kernel_rfl) (fun _ _ _ h => h) (by rfl) ?hy35f hHeld ?rest35f
        case hy35f =>
          intro w' hSw
          obtain ⟨⟨u0, u1, u2, u3, u4, u5, u6⟩, ⟨v0, v1, v2, v3, v4, v5, v6⟩, r0, r1, r2, -⟩ := hSw
          go_simp <;> with_reducible rfl
        try simp only [Act.put, List.setIfInBounds_toArray, List.set_cons_zero, List.set_cons_succ]
        refine take_yes (i := 36) (v := ?v36f) rfl (by kernel_rfl) (by kernel_rfl) (by kernel_rfl) (fun _ _ _ h => h) (by rfl) ?hy36f hHeld ?rest36f
        case hy36f =>
          intro w' hSw
          obtain ⟨⟨u0, u1, u2, u3, u4, u5, u6⟩, ⟨v0, v1, v2, v3, v4, v5, v6⟩, r0, r1, r2, -⟩ := hSw
          go_simp <;> with_reducible rfl
        try simp only [Act.put, List.setIfInBounds_toArray, List.set_cons_zero, List.set_cons_succ]
        refine take_yes (i := 37) (v := ?v37f) rfl (by kernel_rfl) (by kernel_rfl) (by kernel_rfl) (fun _ _ _ h => h) (by rfl) ?hy37f hHeld ?rest37f
        case hy37f =>
          intro w' hSw
          obtain ⟨⟨u0, u1, u2, u3, u4, u5, u6⟩, ⟨v0, v1, v2, v3, v4, v5, v6⟩, r0, r1, r2, -⟩ := hSw
          go_simp <;> with_reducible rfl
        try simp only [Act.put, List.setIfInBounds_toArray, List.set_cons_zero, List.set_cons_succ]
        refine take_yes (i := 38) (v := ?v38f) rfl (by kernel_rfl) (by kernel_rfl) (by kernel_rfl) (fun _ _ _ h => h) (by rfl) ?hy38f hHeld ?rest38f
        case hy38f =>
          intro w' hSw
          obtain ⟨⟨u0, u1, u2, u3, u4, u5, u6⟩, ⟨v0, v1, v2, v3, v4, v5, v6⟩, r0, r1, r2, -⟩ := hSw
          go_simp <;> with_reducible rfl
        try simp only [Act.put, List.setIfInBounds_toArray, List.set_cons_zero, List.set_cons_succ]
        refine take_yes (i := 39) (v := ?v39f) rfl (by kernel_rfl) (by kernel_rfl) (by kernel_rfl) (fun _ _ _ h => h) (by rfl) ?hy39f hHeld ?rest39f
        case hy39f =>
          intro w' hSw
          obtain ⟨⟨u0, u1, u2, u3, u4, u5, u6⟩, ⟨v0, v1, v2, v3, v4, v5, v6⟩, r0, r1, r2, -⟩ := hSw
          go_simp <;> with_reducible rfl
        try simp only [Act.put, List.setIfInBounds_toArray, List.set_cons_zero, List.set_cons_succ]
        refine take_yes (i := 40) (v := ?v40f) rfl (by kernel_rfl) (by kernel_rfl) (by kernel_rfl) (fun _ _ _ h => h) (by rfl) ?hy40f hHeld ?rest40f
        case hy40f =>
          intro w' hSw
          obtain ⟨⟨u0, u1, u2, u3, u4, u5, u6⟩, ⟨v0, v1, v2, v3, v4, v5, v6⟩, r0, r1, r2, -⟩ := hSw
          go_simp <;> with_reducible rfl
        try simp only [Act.put, List.setIfInBounds_toArray, List.set_cons_zero, List.set_cons_succ]
        refine take_yes (i := 41) (v := ?v41f) rfl (by kernel_rfl) (by kernel_rfl) (by kernel_rfl) (fun _ _ _ h => h) (by rfl) ?hy41f hHeld ?rest41f
        case hy41f =>
          intro w' hSw
          obtain ⟨⟨u0, u1, u2, u3, u4, u5, u6⟩, ⟨v0, v1, v2, v3, v4, v5, v6⟩, r0, r1, r2, -⟩ := hSw
          go_simp <;> with_reducible rfl
        try simp only [Act.put, List.setIfInBounds_toArray, List.set_cons_zero, List.set_cons_succ]
        refine wpAnyH_ready (rs := [42]) (by kernel_rfl) (by simp) (cons_at (i := 42) rfl (fun K42f hK42f => ?_) AllReadyH.nil)
        go_simp
        go_at_call 13
        with_reducible refine (watch_sees_at ((HM8.out.later hbq).later (by first | exact Below.refl _ _ | exact (Below.refl _ _).drew)) (hid (f4.out rfl))).mono ?_
        rintro x W10 ⟨rfl, hb10⟩
        obtain ⟨z1, z2, z3, z4, z6, z5⟩ := hHeld
        have y5 := z5.trans (hb10.mono z5.size)
        have y1 := cells7_below z1 hb10
        have y2 := cells7_below z2 hb10
        have y3 := cell_below hb10 z3
        have y4 := cell_below hb10 z4
        have y6 := cell_below hb10 z6
        clear hb10 z1 z2 z3 z4 z5 z6
        go_wp2_with fail
        refine hK42f.out _ _ ⟨y1, y2, y3, y4, y6, y5⟩ (fun hHeld => ?_)
        clear hK42f K42f
        try simp only [Act.put, List.setIfInBounds_toArray, List.set_cons_zero, List.set_cons_succ]
        refine take_yes (i := 43) (v := ?v43f) rfl (by kernel_rfl) (by kernel_rfl) (by kernel_rfl) (fun _ _ _ h => h) (by rfl) ?hy43f hHeld ?rest43f
        case hy43f =>
          intro w' hSw
          obtain ⟨⟨u0, u1, u2, u3, u4, u5, u6⟩, ⟨v0, v1, v2, v3, v4, v5, v6⟩, r0, r1, r2, -⟩ := hSw
          go_simp <;> with_reducible rfl
        try simp only [Act.put, List.setIfInBounds_toArray, List.set_cons_zero, List.set_cons_succ]
        refine take_yes (i := 44) (v := ?v44f) rfl (by kernel_rfl) (by kernel_rfl) (by kernel_rfl) (fun _ _ _ h => h) (by rfl) ?hy44f hHeld ?rest44f
        case hy44f =>
          intro w' hSw
          obtain ⟨⟨u0, u1, u2, u3, u4, u5, u6⟩, ⟨v0, v1, v2, v3, v4, v5, v6⟩, r0, r1, r2, -⟩ := hSw
          go_simp <;> with_reducible rfl
        try simp only [Act.put, List.setIfInBounds_toArray, List.set_cons_zero, List.set_cons_succ]
        refine take_yes (i := 45) (v := ?v45f) rfl (by kernel_rfl) (by kernel_rfl) (by kernel_rfl) (fun _ _ _ h => h) (by rfl) ?hy45f hHeld ?rest45f
        case hy45f =>
          intro w' hSw
          obtain ⟨⟨u0, u1, u2, u3, u4, u5, u6⟩, ⟨v0, v1, v2, v3, v4, v5, v6⟩, r0, r1, r2, -⟩ := hSw
          go_simp <;> with_reducible rfl
        try simp only [Act.put, List.setIfInBounds_toArray, List.set_cons_zero, List.set_cons_succ]
        refine take_yes (i := 46) (v := ?v46f) rfl (by kernel_rfl) (by kernel_rfl) (by kernel_rfl) (fun _ _ _ h => h) (by rfl) ?hy46f hHeld ?rest46f
        case hy46f =>
          intro w' hSw
          obtain ⟨⟨u0, u1, u2, u3, u4, u5, u6⟩, ⟨v0, v1, v2, v3, v4, v5, v6⟩, r0, r1, r2, -⟩ := hSw
          go_simp <;> with_reducible rfl
        try simp only [Act.put, List.setIfInBounds_toArray, List.set_cons_zero, List.set_cons_succ]
        refine take_yes (i := 47) (v := ?v47f) rfl (by kernel_rfl) (by kernel_rfl) (by kernel_rfl) (fun _ _ _ h => h) (by rfl) ?hy47f hHeld ?rest47f
        case hy47f =>
          intro w' hSw
          obtain ⟨⟨u0, u1, u2, u3, u4, u5, u6⟩, ⟨v0, v1, v2, v3, v4, v5, v6⟩, r0, r1, r2, -⟩ := hSw
          go_simp <;> with_reducible rfl
        try simp only [Act.put, List.setIfInBounds_toArray, List.set_cons_zero, List.set_cons_succ]
        refine take_yes (i := 48) (v := ?v48f) rfl (by kernel_rfl) (by kernel_rfl) (by kernel_rfl) (fun _ _ _ h => h) (by rfl) ?hy48f hHeld ?rest48f
        case hy48f =>
          intro w' hSw
          obtain ⟨⟨u0, u1, u2, u3, u4, u5, u6⟩, ⟨v0, v1, v2, v3, v4, v5, v6⟩, r0, r1, r2, -⟩ := hSw
          go_simp <;> with_reducible rfl
        try simp only [Act.put, List.setIfInBounds_toArray, List.set_cons_zero, List.set_cons_succ]
        refine take_yes (i := 49) (v := ?v49f) rfl (by kernel_rfl) (by kernel_rfl) (by kernel_rfl) (fun _ _ _ h => h) (by rfl) ?hy49f hHeld ?rest49f
        case hy49f =>
          intro w' hSw
          obtain ⟨⟨u0, u1, u2, u3, u4, u5, u6⟩, ⟨v0, v1, v2, v3, v4, v5, v6⟩, r0, r1, r2, -⟩ := hSw
          go_simp <;> with_reducible rfl
        try simp only [Act.put, List.setIfInBounds_toArray, List.set_cons_zero, List.set_cons_succ]
        refine take_yes (i := 50) (v := ?v50f) rfl (by kernel_rfl) (by kernel_rfl) (by kernel_rfl) (fun _ _ _ h => h) (by rfl) ?hy50f hHeld ?rest50f
        case hy50f =>
          intro w' hSw
          obtain ⟨⟨u0, u1, u2, u3, u4, u5, u6⟩, ⟨v0, v1, v2, v3, v4, v5, v6⟩, r0, r1, r2, -⟩ := hSw
          go_simp <;> with_reducible rfl
        try simp only [Act.put, List.setIfInBounds_toArray, List.set_cons_zero, List.set_cons_succ]
        refine take_no (i := 51) rfl (by kernel_rfl) (by kernel_rfl) (by kernel_rfl) (fun _ _ _ h => h) (by rfl) hHeld ?rest51f
        try simp only [Act.put, List.setIfInBounds_toArray, List.set_cons_zero, List.set_cons_succ]
        refine take_no (i := 52) rfl (by kernel_rfl) (by kernel_rfl) (by kernel_rfl) (fun _ _ _ h => h) (by rfl) hHeld ?rest52f
        try simp only [Act.put, List.setIfInBounds_toArray, List.set_cons_zero, List.set_cons_succ]
        refine take_no (i := 53) rfl (by kernel_rfl) (by kernel_rfl) (by kernel_rfl) (fun _ _ _ h => h) (by rfl) hHeld ?rest53f
        try simp only [Act.put, List.setIfInBounds_toArray, List.set_cons_zero, List.set_cons_succ]
        refine take_no (i := 54) rfl (by kernel_rfl) (by kernel_rfl) (by kernel_rfl) (fun _ _ _ h => h) (by rfl) hHeld ?rest54f
        try simp only [Act.put, List.setIfInBounds_toArray, List.set_cons_zero, List.set_cons_succ]
        refine take_no (i := 55) rfl (by kernel_rfl) (by kernel_rfl) (by kernel_rfl) (fun _ _ _ h => h) (by rfl) hHeld ?rest55f
        try simp only [Act.put, List.setIfInBounds_toArray, List.set_cons_zero, List.set_cons_succ]
        refine take_yes (i := 56) (v := ?v56f) rfl (by kernel_rfl) (by kernel_rfl) (by kernel_rfl) (fun _ _ _ h => h) (by rfl) ?hy56f hHeld ?rest56f
        case hy56f =>
          intro w' hSw
          obtain ⟨⟨u0, u1, u2, u3, u4, u5, u6⟩, ⟨v0, v1, v2, v3, v4, v5, v6⟩, r0, r1, r2, -⟩ := hSw
          go_simp <;> with_reducible rfl
        try simp only [Act.put, List.setIfInBounds_toArray, List.set_cons_zero, List.set_cons_succ]
        refine take_yes (i := 57) (v := ?v57f) rfl (by kernel_rfl) (by kernel_rfl) (by kernel_rfl) (fun _ _ _ h => h) (by rfl) ?hy57f hHeld ?rest57f
        case hy57f =>
          intro w' hSw
          obtain ⟨⟨u0, u1, u2, u3, u4, u5, u6⟩, ⟨v0, v1, v2, v3, v4, v5, v6⟩, r0, r1, r2, -⟩ := hSw
          go_simp <;> with_reducible rfl
        try simp only [Act.put, List.setIfInBounds_toArray, List.set_cons_zero, List.set_cons_succ]
        refine take_no (i := 58) rfl (by kernel_rfl) (by kernel_rfl) (by kernel_rfl) (fun _ _ _ h => h) (by rfl) hHeld ?rest58f
        try simp only [Act.put, List.setIfInBounds_toArray, List.set_cons_zero, List.set_cons_succ]
        refine take_no (i := 59) rfl (by kernel_rfl) (by kernel_rfl) (by kernel_rfl) (fun _ _ _ h => h) (by rfl) hHeld ?rest59f
        try simp only [Act.put, List.setIfInBounds_toArray, List.set_cons_zero, List.set_cons_succ]
        refine take_no (i := 60) rfl (by kernel_rfl) (by kernel_rfl) (by kernel_rfl) (fun _ _ _ h => h) (by rfl) hHeld ?rest60f
        try simp only [Act.put, List.setIfInBounds_toArray, List.set_cons_zero, List.set_cons_succ]
        refine take_no (i := 61) rfl (by kernel_rfl) (by kernel_rfl) (by kernel_rfl) (fun _ _ _ h => h) (by rfl) hHeld ?rest61f
        try simp only [Act.put, List.setIfInBounds_toArray, List.set_cons_zero, List.set_cons_succ]
        refine take_no (i := 62) rfl (by kernel_rfl) (by kernel_rfl) (by kernel_rfl) (fun _ _ _ h => h) (by rfl) hHeld ?rest62f
        try simp only [Act.put, List.setIfInBounds_toArray, List.set_cons_zero, List.set_cons_succ]
        refine take_no (i := 63) rfl (by kernel_rfl) (by kernel_rfl) (by kernel_rfl) (fun _ _ _ h => h) (by rfl) hHeld ?rest63f
        try simp only [Act.put, List.setIfInBounds_toArray, List.set_cons_zero, List.set_cons_succ]
        refine take_no (i := 64) rfl (by kernel_rfl) (by kernel_rfl) (by kernel_rfl) (fun _ _ _ h => h) (by rfl) hHeld ?rest64f
        try simp only [Act.put, List.setIfInBounds_toArray, List.set_cons_zero, List.set_cons_succ]
        refine take_no (i := 65) rfl (by kernel_rfl) (by kernel_rfl) (by kernel_rfl) (fun _ _ _ h => h) (by rfl) hHeld ?rest65f
        try simp only [Act.put, List.setIfInBounds_toArray, List.set_cons_zero, List.set_cons_succ]
        refine take_no (i := 66) rfl (by kernel_rfl) (by kernel_rfl) (by kernel_rfl) (fun _ _ _ h => h) (by rfl) hHeld ?rest66f
        try simp only [Act.put, List.setIfInBounds_toArray, List.set_cons_zero, List.set_cons_succ]
        refine take_yes (i := 67) (v := ?v67f) rfl (by kernel_rfl) (by kernel_rfl) (by kernel_rfl) (fun _ _ _ h => h) (by rfl) ?hy67f hHeld ?rest67f
        case hy67f =>
          intro w' hSw
          obtain ⟨⟨u0, u1, u2, u3, u4, u5, u6⟩, ⟨v0, v1, v2, v3, v4, v5, v6⟩, r0, r1, r2, -⟩ := hSw
          go_simp <;> with_reducible rfl
        try simp only [Act.put, List.setIfInBounds_toArray, List.set_cons_zero, List.set_cons_succ]
        refine take_yes (i := 68) (v := ?v68f) rfl (by kernel_rfl) (by kernel_rfl) (by kernel_rfl) (fun _ _ _ h => h) (by rfl) ?hy68f hHeld ?rest68f
        case hy68f =>
          intro w' hSw
          obtain ⟨⟨u0, u1, u2, u3, u4, u5, u6⟩, ⟨v0, v1, v2, v3, v4, v5, v6⟩, r0, r1, r2, -⟩ := hSw
          go_simp <;> with_reducible rfl
        try simp only [Act.put, List.setIfInBounds_toArray, List.set_cons_zero, List.set_cons_succ]
        refine wpAnyH_done (by kernel_rfl) ?_ _
        obtain ⟨-, -, -, -, -, hb11⟩ := hHeld
        clear u0 u1 u2 u3 u4 u5 u6 v0 v1 v2 v3 v4 v5 v6 hcl kp0 kp1
        go_wp2_with fail
        go_roundw
        case rel => exact ⟨k + 1, by omega, by go_num, hbq.trans (hb11.mono hbq.size)⟩
        case measure => simp [intOf]; omega
      · obtain ⟨oon, os, ost, o0, o1, o2, o3⟩ := o
        try simp only at d2
        try simp only at u0 u1 u2 u3 u4 u5 u6
        cases oon
        · have d3 : (ps == os) = false := by simpa using f2.out rfl rfl
          clear f2
          go_upto_region 17 with fail
          refine wp_region_held_drew (S := fun w' => cells7 w' ab (k * 7) ⟨false, os, ost, ⟨o0, o1, o2, o3⟩⟩ ∧ cells7 w' nb (k * 7) ⟨true, ps, pst, ⟨p0, p1, p2, p3⟩⟩ ∧ w'.cell? ⟨b, off + i * 23 + 16, none⟩ = some (.int .i64 c.cl) ∧ w'.cell? ⟨pb, 0, none⟩ = some (.int .i64 a10) ∧ w'.cell? ⟨pb, 1, none⟩ = some (.int .i64 a11) ∧ Below wr.heap.size wr w') (by kernel_rfl) ⟨⟨u0, u1, u2, u3, u4, u5, u6⟩, ⟨v0, v1, v2, v3, v4, v5, v6⟩, hcl, kp0, kp1, (Below.refl _ _).drew⟩ (fun hHeld => ?_)
          refine take_yes (i := 0) (v := ?v0g) rfl (by kernel_rfl) (by kernel_rfl) (by kernel_rfl) (fun _ _ _ h => h) (by rfl) ?hy0g hHeld ?rest0g
          case hy0g =>
            intro w' hSw
            obtain ⟨⟨u0, u1, u2, u3, u4, u5, u6⟩, ⟨v0, v1, v2, v3, v4, v5, v6⟩, r0, r1, r2, -⟩ := hSw
            go_simp <;> with_reducible rfl
          try simp only [Act.put, List.setIfInBounds_toArray, List.set_cons_zero, List.set_cons_succ]
          refine take_yes (i := 1) (v := ?v1g) rfl (by kernel_rfl) (by kernel_rfl) (by kernel_rfl) (fun _ _ _ h => h) (by rfl) ?hy1g hHeld ?rest1g
          case hy1g =>
            intro w' hSw
            obtain ⟨⟨u0, u1, u2, u3, u4, u5, u6⟩, ⟨v0, v1, v2, v3, v4, v5, v6⟩, r0, r1, r2, -⟩ := hSw
            go_simp <;> with_reducible rfl
          try simp only [Act.put, List.setIfInBounds_toArray, List.set_cons_zero, List.set_cons_succ]
          refine take_yes (i := 2) (v := ?v2g) rfl (by kernel_rfl) (by kernel_rfl) (by kernel_rfl) (fun _ _ _ h => h) (by rfl) ?hy2g hHeld ?rest2g
          case hy2g =>
            intro w' hSw
            obtain ⟨⟨u0, u1, u2, u3, u4, u5, u6⟩, ⟨v0, v1, v2, v3, v4, v5, v6⟩, r0, r1, r2, -⟩ := hSw
            go_simp <;> with_reducible rfl
          try simp only [Act.put, List.setIfInBounds_toArray, List.set_cons_zero, List.set_cons_succ]
          refine take_yes (i := 3) (v := ?v3g) rfl (by kernel_rfl) (by kernel_rfl) (by kernel_rfl) (fun _ _ _ h => h) (by rfl) ?hy3g hHeld ?rest3g
          case hy3g =>
            intro w' hSw
            obtain ⟨⟨u0, u1, u2, u3, u4, u5, u6⟩, ⟨v0, v1, v2, v3, v4, v5, v6⟩, r0, r1, r2, -⟩ := hSw
            go_simp <;> with_reducible rfl
          try simp only [Act.put, List.setIfInBounds_toArray, List.set_cons_zero, List.set_cons_succ]
          refine take_yes (i := 4) (v := ?v4g) rfl (by kernel_rfl) (by kernel_rfl) (by kernel_rfl) (fun _ _ _ h => h) (by rfl) ?hy4g hHeld ?rest4g
          case hy4g =>
            intro w' hSw
            obtain ⟨⟨u0, u1, u2, u3, u4, u5, u6⟩, ⟨v0, v1, v2, v3, v4, v5, v6⟩, r0, r1, r2, -⟩ := hSw
            go_simp <;> with_reducible rfl
          try simp only [Act.put, List.setIfInBounds_toArray, List.set_cons_zero, List.set_cons_succ]
          refine take_yes (i := 5) (v := ?v5g) rfl (by kernel_rfl) (by kernel_rfl) (by kernel_rfl) (fun _ _ _ h => h) (by rfl) ?hy5g hHeld ?rest5g
          case hy5g =>
            intro w' hSw
            obtain ⟨⟨u0, u1, u2, u3, u4, u5, u6⟩, ⟨v0, v1, v2, v3, v4, v5, v6⟩, r0, r1, r2, -⟩ := hSw
            go_simp <;> with_reducible rfl
          try simp only [Act.put, List.setIfInBounds_toArray, List.set_cons_zero, List.set_cons_succ]
          refine take_yes (i := 6) (v := ?v6g) rfl (by kernel_rfl) (by kernel_rfl) (by kernel_rfl) (fun _ _ _ h => h) (by rfl) ?hy6g hHeld ?rest6g
          case hy6g =>
            intro w' hSw
            obtain ⟨⟨u0, u1, u2, u3, u4, u5, u6⟩, ⟨v0, v1, v2, v3, v4, v5, v6⟩, r0, r1, r2, -⟩ := hSw
            go_simp <;> with_reducible rfl
          try simp only [Act.put, List.setIfInBounds_toArray, List.set_cons_zero, List.set_cons_succ]
          refine take_yes (i := 7) (v := ?v7g) rfl (by kernel_rfl) (by kernel_rfl) (by kernel_rfl) (fun _ _ _ h => h) (by rfl) ?hy7g hHeld ?rest7g
          case hy7g =>
            intro w' hSw
            obtain ⟨⟨u0, u1, u2, u3, u4, u5, u6⟩, ⟨v0, v1, v2, v3, v4, v5, v6⟩, r0, r1, r2, -⟩ := hSw
            go_simp <;> with_reducible rfl
          try simp only [Act.put, List.setIfInBounds_toArray, List.set_cons_zero, List.set_cons_succ]
          refine take_yes (i := 8) (v := ?v8g) rfl (by kernel_rfl) (by kernel_rfl) (by kernel_rfl) (fun _ _ _ h => h) (by rfl) ?hy8g hHeld ?rest8g
          case hy8g =>
            intro w' hSw
            obtain ⟨⟨u0, u1, u2, u3, u4, u5, u6⟩, ⟨v0, v1, v2, v3, v4, v5, v6⟩, r0, r1, r2, -⟩ := hSw
            go_simp <;> with_reducible rfl
          try simp only [Act.put, List.setIfInBounds_toArray, List.set_cons_zero, List.set_cons_succ]
          refine take_yes (i := 9) (v := ?v9g) rfl (by kernel_rfl) (by kernel_rfl) (by kernel_rfl) (fun _ _ _ h => h) (by rfl) ?hy9g hHeld ?rest9g
          case hy9g =>
            intro w' hSw
            obtain ⟨⟨u0, u1, u2, u3, u4, u5, u6⟩, ⟨v0, v1, v2, v3, v4, v5, v6⟩, r0, r1, r2, -⟩ := hSw
            go_simp <;> with_reducible rfl
          try simp only [Act.put, List.setIfInBounds_toArray, List.set_cons_zero, List.set_cons_succ]
          refine take_yes (i := 10) (v := ?v10g) rfl (by kernel_rfl) (by kernel_rfl) (by kernel_rfl) (fun _ _ _ h => h) (by rfl) ?hy10g hHeld ?rest10g
          case hy10g =>
            intro w' hSw
            obtain ⟨⟨u0, u1, u2, u3, u4, u5, u6⟩, ⟨v0, v1, v2, v3, v4, v5, v6⟩, r0, r1, r2, -⟩ := hSw
            go_simp <;> with_reducible rfl
          try simp only [Act.put, List.setIfInBounds_toArray, List.set_cons_zero, List.set_cons_succ]
          refine take_yes (i := 11) (v := ?v11g) rfl (by kernel_rfl) (by kernel_rfl) (by kernel_rfl) (fun _ _ _ h => h) (by rfl) ?hy11g hHeld ?rest11g
          case hy11g =>
            intro w' hSw
            obtain ⟨⟨u0, u1, u2, u3, u4, u5, u6⟩, ⟨v0, v1, v2, v3, v4, v5, v6⟩, r0, r1, r2, -⟩ := hSw
            go_simp <;> with_reducible rfl
          try simp only [Act.put, List.setIfInBounds_toArray, List.set_cons_zero, List.set_cons_succ]
          refine take_yes (i := 12) (v := ?v12g) rfl (by kernel_rfl) (by kernel_rfl) (by kernel_rfl) (fun _ _ _ h => h) (by rfl) ?hy12g hHeld ?rest12g
          case hy12g =>
            intro w' hSw
            obtain ⟨⟨u0, u1, u2, u3, u4, u5, u6⟩, ⟨v0, v1, v2, v3, v4, v5, v6⟩, r0, r1, r2, -⟩ := hSw
            go_simp <;> with_reducible rfl
          try simp only [Act.put, List.setIfInBounds_toArray, List.set_cons_zero, List.set_cons_succ]
          refine take_no (i := 13) rfl (by kernel_rfl) (by kernel_rfl) (by kernel_rfl) (fun _ _ _ h => h) (by rfl) hHeld ?rest13g
          try simp only [Act.put, List.setIfInBounds_toArray, List.set_cons_zero, List.set_cons_succ]
          refine take_no (i := 14) rfl (by kernel_rfl) (by kernel_rfl) (by kernel_rfl) (fun _ _ _ h => h) (by rfl) hHeld ?rest14g
          try simp only [Act.put, List.setIfInBounds_toArray, List.set_cons_zero, List.set_cons_succ]
          refine take_no (i := 15) rfl (by kernel_rfl) (by kernel_rfl) (by kernel_rfl) (fun _ _ _ h => h) (by rfl) hHeld ?rest15g
          try simp only [Act.put, List.setIfInBounds_toArray, List.set_cons_zero, List.set_cons_succ]
          refine take_no (i := 16) rfl (by kernel_rfl) (by kernel_rfl) (by kernel_rfl) (fun _ _ _ h => h) (by rfl) hHeld ?rest16g
          try simp only [Act.put, List.setIfInBounds_toArray, List.set_cons_zero, List.set_cons_succ]
          refine take_no (i := 17) rfl (by kernel_rfl) (by kernel_rfl) (by kernel_rfl) (fun _ _ _ h => h) (by rfl) hHeld ?rest17g
          try simp only [Act.put, List.setIfInBounds_toArray, List.set_cons_zero, List.set_cons_succ]
          refine take_no (i := 18) rfl (by kernel_rfl) (by kernel_rfl) (by kernel_rfl) (fun _ _ _ h => h) (by rfl) hHeld ?rest18g
          try simp only [Act.put, List.setIfInBounds_toArray, List.set_cons_zero, List.set_cons_succ]
          refine take_no (i := 19) rfl (by kernel_rfl) (by kernel_rfl) (by kernel_rfl) (fun _ _ _ h => h) (by rfl) hHeld ?rest19g
          try simp only [Act.put, List.setIfInBounds_toArray, List.set_cons_zero, List.set_cons_succ]
          refine take_yes (i := 20) (v := ?v20g) rfl (by kernel_rfl) (by kernel_rfl) (by kernel_rfl) (fun _ _ _ h => h) (by rfl) ?hy20g hHeld ?rest20g
          case hy20g =>
            intro w' hSw
            obtain ⟨⟨u0, u1, u2, u3, u4, u5, u6⟩, ⟨v0, v1, v2, v3, v4, v5, v6⟩, r0, r1, r2, -⟩ := hSw
            go_simp <;> with_reducible rfl
          try simp only [Act.put, List.setIfInBounds_toArray, List.set_cons_zero, List.set_cons_succ]
          refine take_yes (i := 21) (v := ?v21g) rfl (by kernel_rfl) (by kernel_rfl) (by kernel_rfl) (fun _ _ _ h => h) (by rfl) ?hy21g hHeld ?rest21g
          case hy21g =>
            intro w' hSw
            obtain ⟨⟨u0, u1, u2, u3, u4, u5, u6⟩, ⟨v0, v1, v2, v3, v4, v5, v6⟩, r0, r1, r2, -⟩ := hSw
            go_simp <;> with_reducible rfl
          try simp only [Act.put, List.setIfInBounds_toArray, List.set_cons_zero, List.set_cons_succ]
          refine take_yes (i := 22) (v := ?v22g) rfl (by kernel_rfl) (by kernel_rfl) (by kernel_rfl) (fun _ _ _ h => h) (by rfl) ?hy22g hHeld ?rest22g
          case hy22g =>
            intro w' hSw
            obtain ⟨⟨u0, u1, u2, u3, u4, u5, u6⟩, ⟨v0, v1, v2, v3, v4, v5, v6⟩, r0, r1, r2, -⟩ := hSw
            go_simp <;> with_reducible rfl
          try simp only [Act.put, List.setIfInBounds_toArray, List.set_cons_zero, List.set_cons_succ]
          refine take_yes (i := 23) (v := ?v23g) rfl (by kernel_rfl) (by kernel_rfl) (by kernel_rfl) (fun _ _ _ h => h) (by rfl) ?hy23g hHeld ?rest23g
          case hy23g =>
            intro w' hSw
            obtain ⟨⟨u0, u1, u2, u3, u4, u5, u6⟩, ⟨v0, v1, v2, v3, v4, v5, v6⟩, r0, r1, r2, -⟩ := hSw
            go_simp <;> with_reducible rfl
          try simp only [Act.put, List.setIfInBounds_toArray, List.set_cons_zero, List.set_cons_succ]
          refine take_yes (i := 24) (v := ?v24g) rfl (by kernel_rfl) (by kernel_rfl) (by kernel_rfl) (fun _ _ _ h => h) (by rfl) ?hy24g hHeld ?rest24g
          case hy24g =>
            intro w' hSw
            obtain ⟨⟨u0, u1, u2, u3, u4, u5, u6⟩, ⟨v0, v1, v2, v3, v4, v5, v6⟩, r0, r1, r2, -⟩ := hSw
            go_simp <;> with_reducible rfl
          try simp only [Act.put, List.setIfInBounds_toArray, List.set_cons_zero, List.set_cons_succ]
          refine take_yes (i := 25) (v := ?v25g) rfl (by kernel_rfl) (by kernel_rfl) (by kernel_rfl) (fun _ _ _ h => h) (by rfl) ?hy25g hHeld ?rest25g
          case hy25g =>
            intro w' hSw
            obtain ⟨⟨u0, u1, u2, u3, u4, u5, u6⟩, ⟨v0, v1, v2, v3, v4, v5, v6⟩, r0, r1, r2, -⟩ := hSw
            go_simp <;> with_reducible rfl
          try simp only [Act.put, List.setIfInBounds_toArray, List.set_cons_zero, List.set_cons_succ]
          refine take_yes (i := 26) (v := ?v26g) rfl (by kernel_rfl) (by kernel_rfl) (by kernel_rfl) (fun _ _ _ h => h) (by rfl) ?hy26g hHeld ?rest26g
          case hy26g =>
            intro w' hSw
            obtain ⟨⟨u0, u1, u2, u3, u4, u5, u6⟩, ⟨v0, v1, v2, v3, v4, v5, v6⟩, r0, r1, r2, -⟩ := hSw
            go_simp <;> with_reducible rfl
          try simp only [Act.put, List.setIfInBounds_toArray, List.set_cons_zero, List.set_cons_succ]
          refine take_yes (i := 27) (v := ?v27g) rfl (by kernel_rfl) (by kernel_rfl) (by kernel_rfl) (fun _ _ _ h => h) (by rfl) ?hy27g hHeld ?rest27g
          case hy27g =>
            intro w' hSw
            obtain ⟨⟨u0, u1, u2, u3, u4, u5, u6⟩, ⟨v0, v1, v2, v3, v4, v5, v6⟩, r0, r1, r2, -⟩ := hSw
            go_simp <;> with_reducible rfl
          try simp only [Act.put, List.setIfInBounds_toArray, List.set_cons_zero, List.set_cons_succ]
          refine take_yes (i := 28) (v := ?v28g) rfl (by kernel_rfl) (by kernel_rfl) (by kernel_rfl) (fun _ _ _ h => h) (by rfl) ?hy28g hHeld ?rest28g
          case hy28g =>
            intro w' hSw
            obtain ⟨⟨u0, u1, u2, u3, u4, u5, u6⟩, ⟨v0, v1, v2, v3, v4, v5, v6⟩, r0, r1, r2, -⟩ := hSw
            go_simp <;> with_reducible rfl
          try simp only [Act.put, List.setIfInBounds_toArray, List.set_cons_zero, List.set_cons_succ]
          refine take_yes (i := 29) (v := ?v29g) rfl (by kernel_rfl) (by kernel_rfl) (by kernel_rfl) (fun _ _ _ h => h) (by rfl) ?hy29g hHeld ?rest29g
          case hy29g =>
            intro w' hSw
            obtain ⟨⟨u0, u1, u2, u3, u4, u5, u6⟩, ⟨v0, v1, v2, v3, v4, v5, v6⟩, r0, r1, r2, -⟩ := hSw
            go_simp <;> with_reducible rfl
          try simp only [Act.put, List.setIfInBounds_toArray, List.set_cons_zero, List.set_cons_succ]
          refine take_yes (i := 30) (v := ?v30g) rfl (by kernel_rfl) (by kernel_rfl) (by kernel_rfl) (fun _ _ _ h => h) (by rfl) ?hy30g hHeld ?rest30g
          case hy30g =>
            intro w' hSw
            obtain ⟨⟨u0, u1, u2, u3, u4, u5, u6⟩, ⟨v0, v1, v2, v3, v4, v5, v6⟩, r0, r1, r2, -⟩ := hSw
            go_simp <;> with_reducible rfl
          try simp only [Act.put, List.setIfInBounds_toArray, List.set_cons_zero, List.set_cons_succ]
          refine take_yes (i := 31) (v := ?v31g) rfl (by kernel_rfl) (by kernel_rfl) (by kernel_rfl) (fun _ _ _ h => h) (by rfl) ?hy31g hHeld ?rest31g
          case hy31g =>
            intro w' hSw
            obtain ⟨⟨u0, u1, u2, u3, u4, u5, u6⟩, ⟨v0, v1, v2, v3, v4, v5, v6⟩, r0, r1, r2, -⟩ := hSw
            go_simp <;> with_reducible rfl
          try simp only [Act.put, List.setIfInBounds_toArray, List.set_cons_zero, List.set_cons_succ]
          refine take_yes (i := 32) (v := ?v32g) rfl (by kernel_rfl) (by kernel_rfl) (by kernel_rfl) (fun _ _ _ h => h) (by rfl) ?hy32g hHeld ?rest32g
          case hy32g =>
            intro w' hSw
            obtain ⟨⟨u0, u1, u2, u3, u4, u5, u6⟩, ⟨v0, v1, v2, v3, v4, v5, v6⟩, r0, r1, r2, -⟩ := hSw
            go_simp <;> with_reducible rfl
          try simp only [Act.put, List.setIfInBounds_toArray, List.set_cons_zero, List.set_cons_succ]
          refine take_yes (i := 33) (v := ?v33g) rfl (by kernel_rfl) (by kernel_rfl) (by kernel_rfl) (fun _ _ _ h => h) (by rfl) ?hy33g hHeld ?rest33g
          case hy33g =>
            intro w' hSw
            obtain ⟨⟨u0, u1, u2, u3, u4, u5, u6⟩, ⟨v0, v1, v2, v3, v4, v5, v6⟩, r0, r1, r2, -⟩ := hSw
            go_simp <;> with_reducible rfl
          try simp only [Act.put, List.setIfInBounds_toArray, List.set_cons_zero, List.set_cons_succ]
          refine take_yes (i := 34) (v := ?v34g) rfl (by kernel_rfl) (by kernel_rfl) (by kernel_rfl) (fun _ _ _ h => h) (by rfl) ?hy34g hHeld ?rest34g
          case hy34g =>
            intro w' hSw
            obtain ⟨⟨u0, u1, u2, u3, u4, u5, u6⟩, ⟨v0, v1, v2, v3, v4, v5, v6⟩, r0, r1, r2, -⟩ := hSw
            go_simp <;> with_reducible rfl
          try simp only [Act.put, List.setIfInBounds_toArray, List.set_cons_zero, List.set_cons_succ]
          refine take_yes (i := 35) (v := ?v35g) rfl (by kernel_rfl) (by kernel_rfl) (by kernel_rfl) (fun _ _ _ h => h) (by rfl) ?hy35g hHeld ?rest35g
          case hy35g =>
            intro w' hSw
            obtain ⟨⟨u0, u1, u2, u3, u4, u5, u6⟩, ⟨v0, v1, v2, v3, v4, v5, v6⟩, r0, r1, r2, -⟩ := hSw
            go_simp <;> with_reducible rfl
          try simp only [Act.put, List.setIfInBounds_toArray, List.set_cons_zero, List.set_cons_succ]
          refine take_yes (i := 36) (v := ?v36g) rfl (by kernel_rfl) (by kernel_rfl) (by kernel_rfl) (fun _ _ _ h => h) (by rfl) ?hy36g hHeld ?rest36g
          case hy36g =>
            intro w' hSw
            obtain ⟨⟨u0, u1, u2, u3, u4, u5, u6⟩, ⟨v0, v1, v2, v3, v4, v5, v6⟩, r0, r1, r2, -⟩ := hSw
            go_simp <;> with_reducible rfl
          try simp only [Act.put, List.setIfInBounds_toArray, List.set_cons_zero, List.set_cons_succ]
          refine take_yes (i := 37) (v := ?v37g) rfl (by kernel_rfl) (by kernel_rfl) (by kernel_rfl) (fun _ _ _ h => h) (by rfl) ?hy37g hHeld ?rest37g
          case hy37g =>
            intro w' hSw
            obtain ⟨⟨u0, u1, u2, u3, u4, u5, u6⟩, ⟨v0, v1, v2, v3, v4, v5, v6⟩, r0, r1, r2, -⟩ := hSw
            go_simp <;> with_reducible rfl
          try simp only [Act.put, List.setIfInBounds_toArray, List.set_cons_zero, List.set_cons_succ]
          refine take_yes (i := 38) (v := ?v38g) rfl (by kernel_rfl) (by kernel_rfl) (by kernel_rfl) (fun _ _ _ h => h) (by rfl) ?hy38g hHeld ?rest38g
          case hy38g =>
            intro w' hSw
            obtain ⟨⟨u0, u1, u2, u3, u4, u5, u6⟩, ⟨v0, v1, v2, v3, v4, v5, v6⟩, r0, r1, r2, -⟩ := hSw
            go_simp <;> with_reducible rfl
          try simp only [Act.put, List.setIfInBounds_toArray, List.set_cons_zero, List.set_cons_succ]
          refine take_no (i := 39) rfl (by kernel_rfl) (by kernel_rfl) (by kernel_rfl) (fun _ _ _ h => h) (by rfl) hHeld ?rest39g
          try simp only [Act.put, List.setIfInBounds_toArray, List.set_cons_zero, List.set_cons_succ]
          refine take_no (i := 40) rfl (by kernel_rfl) (by kernel_rfl) (by kernel_rfl) (fun _ _ _ h => h) (by rfl) hHeld ?rest40g
          try simp only [Act.put, List.setIfInBounds_toArray, List.set_cons_zero, List.set_cons_succ]
          refine take_no (i := 41) rfl (by kernel_rfl) (by kernel_rfl) (by kernel_rfl) (fun _ _ _ h => h) (by rfl) hHeld ?rest41g
          try simp only [Act.put, List.setIfInBounds_toArray, List.set_cons_zero, List.set_cons_succ]
          refine take_no (i := 42) rfl (by kernel_rfl) (by kernel_rfl) (by kernel_rfl) (fun _ _ _ h => h) (by rfl) hHeld ?rest42g
          try simp only [Act.put, List.setIfInBounds_toArray, List.set_cons_zero, List.set_cons_succ]
          refine take_yes (i := 43) (v := ?v43g) rfl (by kernel_rfl) (by kernel_rfl) (by kernel_rfl) (fun _ _ _ h => h) (by rfl) ?hy43g hHeld ?rest43g
          case hy43g =>
            intro w' hSw
            obtain ⟨⟨u0, u1, u2, u3, u4, u5, u6⟩, ⟨v0, v1, v2, v3, v4, v5, v6⟩, r0, r1, r2, -⟩ := hSw
            go_simp <;> with_reducible rfl
          try simp only [Act.put, List.setIfInBounds_toArray, List.set_cons_zero, List.set_cons_succ]
          refine take_yes (i := 44) (v := ?v44g) rfl (by kernel_rfl) (by kernel_rfl) (by kernel_rfl) (fun _ _ _ h => h) (by rfl) ?hy44g hHeld ?rest44g
          case hy44g =>
            intro w' hSw
            obtain ⟨⟨u0, u1, u2, u3, u4, u5, u6⟩, ⟨v0, v1, v2, v3, v4, v5, v6⟩, r0, r1, r2, -⟩ := hSw
            go_simp <;> with_reducible rfl
          try simp only [Act.put, List.setIfInBounds_toArray, List.set_cons_zero, List.set_cons_succ]
          refine take_yes (i := 45) (v := ?v45g) rfl (by kernel_rfl) (by kernel_rfl) (by kernel_rfl) (fun _ _ _ h => h) (by rfl) ?hy45g hHeld ?rest45g
          case hy45g =>
            intro w' hSw
            obtain ⟨⟨u0, u1, u2, u3, u4, u5, u6⟩, ⟨v0, v1, v2, v3, v4, v5, v6⟩, r0, r1, r2, -⟩ := hSw
            go_simp <;> with_reducible rfl
          try simp only [Act.put, List.setIfInBounds_toArray, List.set_cons_zero, List.set_cons_succ]
          refine take_yes (i := 46) (v := ?v46g) rfl (by kernel_rfl) (by kernel_rfl) (by kernel_rfl) (fun _ _ _ h => h) (by rfl) ?hy46g hHeld ?rest46g
          case hy46g =>
            intro w' hSw
            obtain ⟨⟨u0, u1, u2, u3, u4, u5, u6⟩, ⟨v0, v1, v2, v3, v4, v5, v6⟩, r0, r1, r2, -⟩ := hSw
            go_simp <;> with_reducible rfl
          try simp only [Act.put, List.setIfInBounds_toArray, List.set_cons_zero, List.set_cons_succ]
          refine take_yes (i := 47) (v := ?v47g) rfl (by kernel_rfl) (by kernel_rfl) (by kernel_rfl) (fun _ _ _ h => h) (by rfl) ?hy47g hHeld ?rest47g
          case hy47g =>
            intro w' hSw
            obtain ⟨⟨u0, u1, u2, u3, u4, u5, u6⟩, ⟨v0, v1, v2, v3, v4, v5, v6⟩, r0, r1, r2, -⟩ := hSw
            go_simp <;> with_reducible rfl
          try simp only [Act.put, List.setIfInBounds_toArray, List.set_cons_zero, List.set_cons_succ]
          refine take_yes (i := 48) (v := ?v48g) rfl (by kernel_rfl) (by kernel_rfl) (by kernel_rfl) (fun _ _ _ h => h) (by rfl) ?hy48g hHeld ?rest48g
          case hy48g =>
            intro w' hSw
            obtain ⟨⟨u0, u1, u2, u3, u4, u5, u6⟩, ⟨v0, v1, v2, v3, v4, v5, v6⟩, r0, r1, r2, -⟩ := hSw
            go_simp <;> with_reducible rfl
          try simp only [Act.put, List.setIfInBounds_toArray, List.set_cons_zero, List.set_cons_succ]
          refine take_yes (i := 49) (v := ?v49g) rfl (by kernel_rfl) (by kernel_rfl) (by kernel_rfl) (fun _ _ _ h => h) (by rfl) ?hy49g hHeld ?rest49g
          case hy49g =>
            intro w' hSw
            obtain ⟨⟨u0, u1, u2, u3, u4, u5, u6⟩, ⟨v0, v1, v2, v3, v4, v5, v6⟩, r0, r1, r2, -⟩ := hSw
            go_simp <;> with_reducible rfl
          try simp only [Act.put, List.setIfInBounds_toArray, List.set_cons_zero, List.set_cons_succ]
          refine take_yes (i := 50) (v := ?v50g) rfl (by kernel_rfl) (by kernel_rfl) (by kernel_rfl) (fun _ _ _ h => h) (by rfl) ?hy50g hHeld ?rest50g
          case hy50g =>
            intro w' hSw
            obtain ⟨⟨u0, u1, u2, u3, u4, u5, u6⟩, ⟨v0, v1, v2, v3, v4, v5, v6⟩, r0, r1, r2, -⟩ := hSw
            go_simp <;> with_reducible rfl
          try simp only [Act.put, List.setIfInBounds_toArray, List.set_cons_zero, List.set_cons_succ]
          refine take_yes (i := 51) (v := ?v51g) rfl (by kernel_rfl) (by kernel_rfl) (by kernel_rfl) (fun _ _ _ h => h) (by rfl) ?hy51g hHeld ?rest51g
          case hy51g =>
            intro w' hSw
            obtain ⟨⟨u0, u1, u2, u3, u4, u5, u6⟩, ⟨v0, v1, v2, v3, v4, v5, v6⟩, r0, r1, r2, -⟩ := hSw
            go_simp <;> with_reducible rfl
          try simp only [Act.put, List.setIfInBounds_toArray, List.set_cons_zero, List.set_cons_succ]
          refine take_yes (i := 52) (v := ?v52g) rfl (by kernel_rfl) (by kernel_rfl) (by kernel_rfl) (fun _ _ _ h => h) (by rfl) ?hy52g hHeld ?rest52g
          case hy52g =>
            intro w' hSw
            obtain ⟨⟨u0, u1, u2, u3, u4, u5, u6⟩, ⟨v0, v1, v2, v3, v4, v5, v6⟩, r0, r1, r2, -⟩ := hSw
            go_simp <;> with_reducible rfl
          try simp only [Act.put, List.setIfInBounds_toArray, List.set_cons_zero, List.set_cons_succ]
          refine take_yes (i := 53) (v := ?v53g) rfl (by kernel_rfl) (by kernel_rfl) (by kernel_rfl) (fun _ _ _ h => h) (by rfl) ?hy53g hHeld ?rest53g
          case hy53g =>
            intro w' hSw
            obtain ⟨⟨u0, u1, u2, u3, u4, u5, u6⟩, ⟨v0, v1, v2, v3, v4, v5, v6⟩, r0, r1, r2, -⟩ := hSw
            go_simp <;> with_reducible rfl
          try simp only [Act.put, List.setIfInBounds_toArray, List.set_cons_zero, List.set_cons_succ]
          refine take_yes (i := 54) (v := ?v54g) rfl (by kernel_rfl) (by kernel_rfl) (by kernel_rfl) (fun _ _ _ h => h) (by rfl) ?hy54g hHeld ?rest54g
          case hy54g =>
            intro w' hSw
            obtain ⟨⟨u0, u1, u2, u3, u4, u5, u6⟩, ⟨v0, v1, v2, v3, v4, v5, v6⟩, r0, r1, r2, -⟩ := hSw
            go_simp <;> with_reducible rfl
          try simp only [Act.put, List.setIfInBounds_toArray, List.set_cons_zero, List.set_cons_succ]
          refine take_yes (i := 55) (v := ?v55g) rfl (by kernel_rfl) (by kernel_rfl) (by kernel_rfl) (fun _ _ _ h => h) (by rfl) ?hy55g hHeld ?rest55g
          case hy55g =>
            intro w' hSw
            obtain ⟨⟨u0, u1, u2, u3, u4, u5, u6⟩, ⟨v0, v1, v2, v3, v4, v5, v6⟩, r0, r1, r2, -⟩ := hSw
            go_simp <;> with_reducible rfl
          try simp only [Act.put, List.setIfInBounds_toArray, List.set_cons_zero, List.set_cons_succ]
          refine take_yes (i := 56) (v := ?v56g) rfl (by kernel_rfl) (by kernel_rfl) (by kernel_rfl) (fun _ _ _ h => h) (by rfl) ?hy56g hHeld ?rest56g
          case hy56g =>
            intro w' hSw
            obtain ⟨⟨u0, u1, u2, u3, u4, u5, u6⟩, ⟨v0, v1, v2, v3, v4, v5, v6⟩, r0, r1, r2, -⟩ := hSw
            go_simp <;> with_reducible rfl
          try simp only [Act.put, List.setIfInBounds_toArray, List.set_cons_zero, List.set_cons_succ]
          refine take_yes (i := 57) (v := ?v57g) rfl (by kernel_rfl) (by kernel_rfl) (by kernel_rfl) (fun _ _ _ h => h) (by rfl) ?hy57g hHeld ?rest57g
          case hy57g =>
            intro w' hSw
            obtain ⟨⟨u0, u1, u2, u3, u4, u5, u6⟩, ⟨v0, v1, v2, v3, v4, v5, v6⟩, r0, r1, r2, -⟩ := hSw
            go_simp <;> with_reducible rfl
          try simp only [Act.put, List.setIfInBounds_toArray, List.set_cons_zero, List.set_cons_succ]
          refine take_yes (i := 58) (v := ?v58g) rfl (by kernel_rfl) (by kernel_rfl) (by kernel_rfl) (fun _ _ _ h => h) (by rfl) ?hy58g hHeld ?rest58g
          case hy58g =>
            intro w' hSw
            obtain ⟨⟨u0, u1, u2, u3, u4, u5, u6⟩, ⟨v0, v1, v2, v3, v4, v5, v6⟩, r0, r1, r2, -⟩ := hSw
            go_simp <;> with_reducible rfl
          try simp only [Act.put, List.setIfInBounds_toArray, List.set_cons_zero, List.set_cons_succ]
          refine take_yes (i := 59) (v := ?v59g) rfl (by kernel_rfl) (by kernel_rfl) (by kernel_rfl) (fun _ _ _ h => h) (by rfl) ?hy59g hHeld ?rest59g
          case hy59g =>
            intro w' hSw
            obtain ⟨⟨u0, u1, u2, u3, u4, u5, u6⟩, ⟨v0, v1, v2, v3, v4, v5, v6⟩, r0, r1, r2, -⟩ := hSw
            go_simp <;> with_reducible rfl
          try simp only [Act.put, List.setIfInBounds_toArray, List.set_cons_zero, List.set_cons_succ]
          refine take_yes (i := 60) (v := ?v60g) rfl (by kernel_rfl) (by kernel_rfl) (by kernel_rfl) (fun _ _ _ h => h) (by rfl) ?hy60g hHeld ?rest60g
          case hy60g =>
            intro w' hSw
            obtain ⟨⟨u0, u1, u2, u3, u4, u5, u6⟩, ⟨v0, v1, v2, v3, v4, v5, v6⟩, r0, r1, r2, -⟩ := hSw
            go_simp <;> with_reducible rfl
          try simp only [Act.put, List.setIfInBounds_toArray, List.set_cons_zero, List.set_cons_succ]
          refine take_yes (i := 61) (v := ?v61g) rfl (by kernel_rfl) (by kernel_rfl) (by kernel_rfl) (fun _ _ _ h => h) (by rfl) ?hy61g hHeld ?rest61g
          case hy61g =>
            intro w' hSw
            obtain ⟨⟨u0, u1, u2, u3, u4, u5, u6⟩, ⟨v0, v1, v2, v3, v4, v5, v6⟩, r0, r1, r2, -⟩ := hSw
            go_simp <;> with_reducible rfl
          try simp only [Act.put, List.setIfInBounds_toArray, List.set_cons_zero, List.set_cons_succ]
          refine take_yes (i := 62) (v := ?v62g) rfl (by kernel_rfl) (by kernel_rfl) (by kernel_rfl) (fun _ _ _ h => h) (by rfl) ?hy62g hHeld ?rest62g
          case hy62g =>
            intro w' hSw
            obtain ⟨⟨u0, u1, u2, u3, u4, u5, u6⟩, ⟨v0, v1, v2, v3, v4, v5, v6⟩, r0, r1, r2, -⟩ := hSw
            go_simp <;> with_reducible rfl
          try simp only [Act.put, List.setIfInBounds_toArray, List.set_cons_zero, List.set_cons_succ]
          refine take_yes (i := 63) (v := ?v63g) rfl (by kernel_rfl) (by kernel_rfl) (by kernel_rfl) (fun _ _ _ h => h) (by rfl) ?hy63g hHeld ?rest63g
          case hy63g =>
            intro w' hSw
            obtain ⟨⟨u0, u1, u2, u3, u4, u5, u6⟩, ⟨v0, v1, v2, v3, v4, v5, v6⟩, r0, r1, r2, -⟩ := hSw
            go_simp <;> with_reducible rfl
          try simp only [Act.put, List.setIfInBounds_toArray, List.set_cons_zero, List.set_cons_succ]
          refine take_yes (i := 64) (v := ?v64g) rfl (by kernel_rfl) (by kernel_rfl) (by kernel_rfl) (fun _ _ _ h => h) (by rfl) ?hy64g hHeld ?rest64g
          case hy64g =>
            intro w' hSw
            obtain ⟨⟨u0, u1, u2, u3, u4, u5, u6⟩, ⟨v0, v1, v2, v3, v4, v5, v6⟩, r0, r1, r2, -⟩ := hSw
            go_simp <;> with_reducible rfl
          try simp only [Act.put, List.setIfInBounds_toArray, List.set_cons_zero, List.set_cons_succ]
          refine take_yes (i := 65) (v := ?v65g) rfl (by kernel_rfl) (by kernel_rfl) (by kernel_rfl) (fun _ _ _ h => h) (by rfl) ?hy65g hHeld ?rest65g
          case hy65g =>
            intro w' hSw
            obtain ⟨⟨u0, u1, u2, u3, u4, u5, u6⟩, ⟨v0, v1, v2, v3, v4, v5, v6⟩, r0, r1, r2, -⟩ := hSw
            go_simp <;> with_reducible rfl
          try simp only [Act.put, List.setIfInBounds_toArray, List.set_cons_zero, List.set_cons_succ]
          refine take_yes (i := 66) (v := ?v66g) rfl (by kernel_rfl) (by kernel_rfl) (by kernel_rfl) (fun _ _ _ h => h) (by rfl) ?hy66g hHeld ?rest66g
          case hy66g =>
            intro w' hSw
            obtain ⟨⟨u0, u1, u2, u3, u4, u5, u6⟩, ⟨v0, v1, v2, v3, v4, v5, v6⟩, r0, r1, r2, -⟩ := hSw
            go_simp <;> with_reducible rfl
          try simp only [Act.put, List.setIfInBounds_toArray, List.set_cons_zero, List.set_cons_succ]
          refine take_yes (i := 67) (v := ?v67g) rfl (by kernel_rfl) (by kernel_rfl) (by kernel_rfl) (fun _ _ _ h => h) (by rfl) ?hy67g hHeld ?rest67g
          case hy67g =>
            intro w' hSw
            obtain ⟨⟨u0, u1, u2, u3, u4, u5, u6⟩, ⟨v0, v1, v2, v3, v4, v5, v6⟩, r0, r1, r2, -⟩ := hSw
            go_simp <;> with_reducible rfl
          try simp only [Act.put, List.setIfInBounds_toArray, List.set_cons_zero, List.set_cons_succ]
          refine take_yes (i := 68) (v := ?v68g) rfl (by kernel_rfl) (by kernel_rfl) (by kernel_rfl) (fun _ _ _ h => h) (by rfl) ?hy68g hHeld ?rest68g
          case hy68g =>
            intro w' hSw
            obtain ⟨⟨u0, u1, u2, u3, u4, u5, u6⟩, ⟨v0, v1, v2, v3, v4, v5, v6⟩, r0, r1, r2, -⟩ := hSw
            go_simp <;> with_reducible rfl
          try simp only [Act.put, List.setIfInBounds_toArray, List.set_cons_zero, List.set_cons_succ]
          refine wpAnyH_done (by kernel_rfl) ?_ _
          obtain ⟨-, -, -, -, -, hb11⟩ := hHeld
          clear u0 u1 u2 u3 u4 u5 u6 v0 v1 v2 v3 v4 v5 v6 hcl kp0 kp1
          go_wp2_with fail
          go_roundw
          case rel => exact ⟨k + 1, by omega, by go_num, hbq.trans (hb11.mono hbq.size)⟩
          case measure => simp [intOf]; omega
        · clear f2
          go_upto_region 17 with fail
          refine wp_region_held_drew (S := fun w' => cells7 w' ab (k * 7) ⟨true, os, ost, ⟨o0, o1, o2, o3⟩⟩ ∧ cells7 w' nb (k * 7) ⟨true, ps, pst, ⟨p0, p1, p2, p3⟩⟩ ∧ w'.cell? ⟨b, off + i * 23 + 16, none⟩ = some (.int .i64 c.cl) ∧ w'.cell? ⟨pb, 0, none⟩ = some (.int .i64 a10) ∧ w'.cell? ⟨pb, 1, none⟩ = some (.int .i64 a11) ∧ Below wr.heap.size wr w') (by kernel_rfl) ⟨⟨u0, u1, u2, u3, u4, u5, u6⟩, ⟨v0, v1, v2, v3, v4, v5, v6⟩, hcl, kp0, kp1, (Below.refl _ _).drew⟩ (fun hHeld => ?_)
          refine take_yes (i := 0) (v := ?v0h) rfl (by kernel_rfl) (by kernel_rfl) (by kernel_rfl) (fun _ _ _ h => h) (by rfl) ?hy0h hHeld ?rest0h
          case hy0h =>
            intro w' hSw
            obtain ⟨⟨u0, u1, u2, u3, u4, u5, u6⟩, ⟨v0, v1, v2, v3, v4, v5, v6⟩, r0, r1, r2, -⟩ := hSw
            go_simp <;> with_reducible rfl
          try simp only [Act.put, List.setIfInBounds_toArray, List.set_cons_zero, List.set_cons_succ]
          refine take_yes (i := 1) (v := ?v1h) rfl (by kernel_rfl) (by kernel_rfl) (by kernel_rfl) (fun _ _ _ h => h) (by rfl) ?hy1h hHeld ?rest1h
          case hy1h =>
            intro w' hSw
            obtain ⟨⟨u0, u1, u2, u3, u4, u5, u6⟩, ⟨v0, v1, v2, v3, v4, v5, v6⟩, r0, r1, r2, -⟩ := hSw
            go_simp <;> with_reducible rfl
          try simp only [Act.put, List.setIfInBounds_toArray, List.set_cons_zero, List.set_cons_succ]
          refine take_yes (i := 2) (v := ?v2h) rfl (by kernel_rfl) (by kernel_rfl) (by kernel_rfl) (fun _ _ _ h => h) (by rfl) ?hy2h hHeld ?rest2h
          case hy2h =>
            intro w' hSw
            obtain ⟨⟨u0, u1, u2, u3, u4, u5, u6⟩, ⟨v0, v1, v2, v3, v4, v5, v6⟩, r0, r1, r2, -⟩ := hSw
            go_simp <;> with_reducible rfl
          try simp only [Act.put, List.setIfInBounds_toArray, List.set_cons_zero, List.set_cons_succ]
          refine take_yes (i := 3) (v := ?v3h) rfl (by kernel_rfl) (by kernel_rfl) (by kernel_rfl) (fun _ _ _ h => h) (by rfl) ?hy3h hHeld ?rest3h
          case hy3h =>
            intro w' hSw
            obtain ⟨⟨u0, u1, u2, u3, u4, u5, u6⟩, ⟨v0, v1, v2, v3, v4, v5, v6⟩, r0, r1, r2, -⟩ := hSw
            go_simp <;> with_reducible rfl
          try simp only [Act.put, List.setIfInBounds_toArray, List.set_cons_zero, List.set_cons_succ]
          refine take_yes (i := 4) (v := ?v4h) rfl (by kernel_rfl) (by kernel_rfl) (by kernel_rfl) (fun _ _ _ h => h) (by rfl) ?hy4h hHeld ?rest4h
          case hy4h =>
            intro w' hSw
            obtain ⟨⟨u0, u1, u2, u3, u4, u5, u6⟩, ⟨v0, v1, v2, v3, v4, v5, v6⟩, r0, r1, r2, -⟩ := hSw
            go_simp <;> with_reducible rfl
          try simp only [Act.put, List.setIfInBounds_toArray, List.set_cons_zero, List.set_cons_succ]
          refine take_yes (i := 5) (v := ?v5h) rfl (by kernel_rfl) (by kernel_rfl) (by kernel_rfl) (fun _ _ _ h => h) (by rfl) ?hy5h hHeld ?rest5h
          case hy5h =>
            intro w' hSw
            obtain ⟨⟨u0, u1, u2, u3, u4, u5, u6⟩, ⟨v0, v1, v2, v3, v4, v5, v6⟩, r0, r1, r2, -⟩ := hSw
            go_simp <;> with_reducible rfl
          try simp only [Act.put, List.setIfInBounds_toArray, List.set_cons_zero, List.set_cons_succ]
          refine take_yes (i := 6) (v := ?v6h) rfl (by kernel_rfl) (by kernel_rfl) (by kernel_rfl) (fun _ _ _ h => h) (by rfl) ?hy6h hHeld ?rest6h
          case hy6h =>
            intro w' hSw
            obtain ⟨⟨u0, u1, u2, u3, u4, u5, u6⟩, ⟨v0, v1, v2, v3, v4, v5, v6⟩, r0, r1, r2, -⟩ := hSw
            go_simp <;> with_reducible rfl
          try simp only [Act.put, List.setIfInBounds_toArray, List.set_cons_zero, List.set_cons_succ]
          refine take_yes (i := 7) (v := ?v7h) rfl (by kernel_rfl) (by kernel_rfl) (by kernel_rfl) (fun _ _ _ h => h) (by rfl) ?hy7h hHeld ?rest7h
          case hy7h =>
            intro w' hSw
            obtain ⟨⟨u0, u1, u2, u3, u4, u5, u6⟩, ⟨v0, v1, v2, v3, v4, v5, v6⟩, r0, r1, r2, -⟩ := hSw
            go_simp <;> with_reducible rfl
          try simp only [Act.put, List.setIfInBounds_toArray, List.set_cons_zero, List.set_cons_succ]
          refine take_yes (i := 8) (v := ?v8h) rfl (by kernel_rfl) (by kernel_rfl) (by kernel_rfl) (fun _ _ _ h => h) (by rfl) ?hy8h hHeld ?rest8h
          case hy8h =>
            intro w' hSw
            obtain ⟨⟨u0, u1, u2, u3, u4, u5, u6⟩, ⟨v0, v1, v2, v3, v4, v5, v6⟩, r0, r1, r2, -⟩ := hSw
            go_simp <;> with_reducible rfl
          try simp only [Act.put, List.setIfInBounds_toArray, List.set_cons_zero, List.set_cons_succ]
          refine take_yes (i := 9) (v := ?v9h) rfl (by kernel_rfl) (by kernel_rfl) (by kernel_rfl) (fun _ _ _ h => h) (by rfl) ?hy9h hHeld ?rest9h
          case hy9h =>
            intro w' hSw
            obtain ⟨⟨u0, u1, u2, u3, u4, u5, u6⟩, ⟨v0, v1, v2, v3, v4, v5, v6⟩, r0, r1, r2, -⟩ := hSw
            go_simp <;> with_reducible rfl
          try simp only [Act.put, List.setIfInBounds_toArray, List.set_cons_zero, List.set_cons_succ]
          refine take_yes (i := 10) (v := ?v10h) rfl (by kernel_rfl) (by kernel_rfl) (by kernel_rfl) (fun _ _ _ h => h) (by rfl) ?hy10h hHeld ?rest10h
          case hy10h =>
            intro w' hSw
            obtain ⟨⟨u0, u1, u2, u3, u4, u5, u6⟩, ⟨v0, v1, v2, v3, v4, v5, v6⟩, r0, r1, r2, -⟩ := hSw
            go_simp <;> with_reducible rfl
          try simp only [Act.put, List.setIfInBounds_toArray, List.set_cons_zero, List.set_cons_succ]
          refine take_yes (i := 11) (v := ?v11h) rfl (by kernel_rfl) (by kernel_rfl) (by kernel_rfl) (fun _ _ _ h => h) (by rfl) ?hy11h hHeld ?rest11h
          case hy11h =>
            intro w' hSw
            obtain ⟨⟨u0, u1, u2, u3, u4, u5, u6⟩, ⟨v0, v1, v2, v3, v4, v5, v6⟩, r0, r1, r2, -⟩ := hSw
            go_simp <;> with_reducible rfl
          try simp only [Act.put, List.setIfInBounds_toArray, List.set_cons_zero, List.set_cons_succ]
          refine take_yes (i := 12) (v := ?v12h) rfl (by kernel_rfl) (by kernel_rfl) (by kernel_rfl) (fun _ _ _ h => h) (by rfl) ?hy12h hHeld ?rest12h
          case hy12h =>
            intro w' hSw
            obtain ⟨⟨u0, u1, u2, u3, u4, u5, u6⟩, ⟨v0, v1, v2, v3, v4, v5, v6⟩, r0, r1, r2, -⟩ := hSw
            go_simp <;> with_reducible rfl
          try simp only [Act.put, List.setIfInBounds_toArray, List.set_cons_zero, List.set_cons_succ]
          refine take_no (i := 13) rfl (by kernel_rfl) (by kernel_rfl) (by kernel_rfl) (fun _ _ _ h => h) (by rfl) hHeld ?rest13h
          try simp only [Act.put, List.setIfInBounds_toArray, List.set_cons_zero, List.set_cons_succ]
          refine take_no (i := 14) rfl (by kernel_rfl) (by kernel_rfl) (by kernel_rfl) (fun _ _ _ h => h) (by rfl) hHeld ?rest14h
          try simp only [Act.put, List.setIfInBounds_toArray, List.set_cons_zero, List.set_cons_succ]
          refine take_no (i := 15) rfl (by kernel_rfl) (by kernel_rfl) (by kernel_rfl) (fun _ _ _ h => h) (by rfl) hHeld ?rest15h
          try simp only [Act.put, List.setIfInBounds_toArray, List.set_cons_zero, List.set_cons_succ]
          refine take_no (i := 16) rfl (by kernel_rfl) (by kernel_rfl) (by kernel_rfl) (fun _ _ _ h => h) (by rfl) hHeld ?rest16h
          try simp only [Act.put, List.setIfInBounds_toArray, List.set_cons_zero, List.set_cons_succ]
          refine take_no (i := 17) rfl (by kernel_rfl) (by kernel_rfl) (by kernel_rfl) (fun _ _ _ h => h) (by rfl) hHeld ?rest17h
          try simp only [Act.put, List.setIfInBounds_toArray, List.set_cons_zero, List.set_cons_succ]
          refine take_no (i := 18) rfl (by kernel_rfl) (by kernel_rfl) (by kernel_rfl) (fun _ _ _ h => h) (by rfl) hHeld ?rest18h
          try simp only [Act.put, List.setIfInBounds_toArray, List.set_cons_zero, List.set_cons_succ]
          refine take_no (i := 19) rfl (by kernel_rfl) (by kernel_rfl) (by kernel_rfl) (fun _ _ _ h => h) (by rfl) hHeld ?rest19h
          try simp only [Act.put, List.setIfInBounds_toArray, List.set_cons_zero, List.set_cons_succ]
          refine take_yes (i := 20) (v := ?v20h) rfl (by kernel_rfl) (by kernel_rfl) (by kernel_rfl) (fun _ _ _ h => h) (by rfl) ?hy20h hHeld ?rest20h
          case hy20h =>
            intro w' hSw
            obtain ⟨⟨u0, u1, u2, u3, u4, u5, u6⟩, ⟨v0, v1, v2, v3, v4, v5, v6⟩, r0, r1, r2, -⟩ := hSw
            go_simp <;> with_reducible rfl
          try simp only [Act.put, List.setIfInBounds_toArray, List.set_cons_zero, List.set_cons_succ]
          refine take_yes (i := 21) (v := ?v21h) rfl (by kernel_rfl) (by kernel_rfl) (by kernel_rfl) (fun _ _ _ h => h) (by rfl) ?hy21h hHeld ?rest21h
          case hy21h =>
            intro w' hSw
            obtain ⟨⟨u0, u1, u2, u3, u4, u5, u6⟩, ⟨v0, v1, v2, v3, v4, v5, v6⟩, r0, r1, r2, -⟩ := hSw
            go_simp <;> with_reducible rfl
          try simp only [Act.put, List.setIfInBounds_toArray, List.set_cons_zero, List.set_cons_succ]
          refine take_yes (i := 22) (v := ?v22h) rfl (by kernel_rfl) (by kernel_rfl) (by kernel_rfl) (fun _ _ _ h => h) (by rfl) ?hy22h hHeld ?rest22h
          case hy22h =>
            intro w' hSw
            obtain ⟨⟨u0, u1, u2, u3, u4, u5, u6⟩, ⟨v0, v1, v2, v3, v4, v5, v6⟩, r0, r1, r2, -⟩ := hSw
            go_simp <;> with_reducible rfl
          try simp only [Act.put, List.setIfInBounds_toArray, List.set_cons_zero, List.set_cons_succ]
          refine take_yes (i := 23) (v := ?v23h) rfl (by kernel_rfl) (by kernel_rfl) (by kernel_rfl) (fun _ _ _ h => h) (by rfl) ?hy23h hHeld ?rest23h
          case hy23h =>
            intro w' hSw
            obtain ⟨⟨u0, u1, u2, u3, u4, u5, u6⟩, ⟨v0, v1, v2, v3, v4, v5, v6⟩, r0, r1, r2, -⟩ := hSw
            go_simp <;> with_reducible rfl
          try simp only [Act.put, List.setIfInBounds_toArray, List.set_cons_zero, List.set_cons_succ]
          refine take_yes (i := 24) (v := ?v24h) rfl (by kernel_rfl) (by kernel_rfl) (by kernel_rfl) (fun _ _ _ h => h) (by rfl) ?hy24h hHeld ?rest24h
          case hy24h =>
            intro w' hSw
            obtain ⟨⟨u0, u1, u2, u3, u4, u5, u6⟩, ⟨v0, v1, v2, v3, v4, v5, v6⟩, r0, r1, r2, -⟩ := hSw
            go_simp <;> with_reducible rfl
          try simp only [Act.put, List.setIfInBounds_toArray, List.set_cons_zero, List.set_cons_succ]
          refine take_yes (i := 25) (v := ?v25h) rfl (by kernel_rfl) (by kernel_rfl) (by kernel_rfl) (fun _ _ _ h => h) (by rfl) ?hy25h hHeld ?rest25h
          case hy25h =>
            intro w' hSw
            obtain ⟨⟨u0, u1, u2, u3, u4, u5, u6⟩, ⟨v0, v1, v2, v3, v4, v5, v6⟩, r0, r1, r2, -⟩ := hSw
            go_simp <;> with_reducible rfl
          try simp only [Act.put, List.setIfInBounds_toArray, List.set_cons_zero, List.set_cons_succ]
          refine take_yes (i := 26) (v := ?v26h) rfl (by kernel_rfl) (by kernel_rfl) (by kernel_rfl) (fun _ _ _ h => h) (by rfl) ?hy26h hHeld ?rest26h
          case hy26h =>
            intro w' hSw
            obtain ⟨⟨u0, u1, u2, u3, u4, u5, u6⟩, ⟨v0, v1, v2, v3, v4, v5, v6⟩, r0, r1, r2, -⟩ := hSw
            go_simp <;> with_reducible rfl
          try simp only [Act.put, List.setIfInBounds_toArray, List.set_cons_zero, List.set_cons_succ]
          refine take_yes (i := 27) (v := ?v27h) rfl (by kernel_rfl) (by kernel_rfl) (by kernel_rfl) (fun _ _ _ h => h) (by rfl) ?hy27h hHeld ?rest27h
          case hy27h =>
            intro w' hSw
            obtain ⟨⟨u0, u1, u2, u3, u4, u5, u6⟩, ⟨v0, v1, v2, v3, v4, v5, v6⟩, r0, r1, r2, -⟩ := hSw
            go_simp <;> with_reducible rfl
          try simp only [Act.put, List.setIfInBounds_toArray, List.set_cons_zero, List.set_cons_succ]
          refine take_yes (i := 28) (v := ?v28h) rfl (by kernel_rfl) (by kernel_rfl) (by kernel_rfl) (fun _ _ _ h => h) (by rfl) ?hy28h hHeld ?rest28h
          case hy28h =>
            intro w' hSw
            obtain ⟨⟨u0, u1, u2, u3, u4, u5, u6⟩, ⟨v0, v1, v2, v3, v4, v5, v6⟩, r0, r1, r2, -⟩ := hSw
            go_simp <;> with_reducible rfl
          try simp only [Act.put, List.setIfInBounds_toArray, List.set_cons_zero, List.set_cons_succ]
          refine take_yes (i := 29) (v := ?v29h) rfl (by kernel_rfl) (by kernel_rfl) (by kernel_rfl) (fun _ _ _ h => h) (by rfl) ?hy29h hHeld ?rest29h
          case hy29h =>
            intro w' hSw
            obtain ⟨⟨u0, u1, u2, u3, u4, u5, u6⟩, ⟨v0, v1, v2, v3, v4, v5, v6⟩, r0, r1, r2, -⟩ := hSw
            go_simp <;> with_reducible rfl
          try simp only [Act.put, List.setIfInBounds_toArray, List.set_cons_zero, List.set_cons_succ]
          refine take_yes (i := 30) (v := ?v30h) rfl (by kernel_rfl) (by kernel_rfl) (by kernel_rfl) (fun _ _ _ h => h) (by rfl) ?hy30h hHeld ?rest30h
          case hy30h =>
            intro w' hSw
            obtain ⟨⟨u0, u1, u2, u3, u4, u5, u6⟩, ⟨v0, v1, v2, v3, v4, v5, v6⟩, r0, r1, r2, -⟩ := hSw
            go_simp <;> with_reducible rfl
          try simp only [Act.put, List.setIfInBounds_toArray, List.set_cons_zero, List.set_cons_succ]
          refine take_yes (i := 31) (v := ?v31h) rfl (by kernel_rfl) (by kernel_rfl) (by kernel_rfl) (fun _ _ _ h => h) (by rfl) ?hy31h hHeld ?rest31h
          case hy31h =>
            intro w' hSw
            obtain ⟨⟨u0, u1, u2, u3, u4, u5, u6⟩, ⟨v0, v1, v2, v3, v4, v5, v6⟩, r0, r1, r2, -⟩ := hSw
            go_simp <;> with_reducible rfl
          try simp only [Act.put, List.setIfInBounds_toArray, List.set_cons_zero, List.set_cons_succ]
          refine take_yes (i := 32) (v := ?v32h) rfl (by kernel_rfl) (by kernel_rfl) (by kernel_rfl) (fun _ _ _ h => h) (by rfl) ?hy32h hHeld ?rest32h
          case hy32h =>
            intro w' hSw
            obtain ⟨⟨u0, u1, u2, u3, u4, u5, u6⟩, ⟨v0, v1, v2, v3, v4, v5, v6⟩, r0, r1, r2, -⟩ := hSw
            go_simp <;> with_reducible rfl
          try simp only [Act.put, List.setIfInBounds_toArray, List.set_cons_zero, List.set_cons_succ]
          refine take_yes (i := 33) (v := ?v33h) rfl (by kernel_rfl) (by kernel_rfl) (by kernel_rfl) (fun _ _ _ h => h) (by rfl) ?hy33h hHeld ?rest33h
          case hy33h =>
            intro w' hSw
            obtain ⟨⟨u0, u1, u2, u3, u4, u5, u6⟩, ⟨v0, v1, v2, v3, v4, v5, v6⟩, r0, r1, r2, -⟩ := hSw
            go_simp <;> with_reducible rfl
          try simp only [Act.put, List.setIfInBounds_toArray, List.set_cons_zero, List.set_cons_succ]
          refine take_yes (i := 34) (v := ?v34h) rfl (by kernel_rfl) (by kernel_rfl) (by kernel_rfl) (fun _ _ _ h => h) (by rfl) ?hy34h hHeld ?rest34h
          case hy34h =>
            intro w' hSw
            obtain ⟨⟨u0, u1, u2, u3, u4, u5, u6⟩, ⟨v0, v1, v2, v3, v4, v5, v6⟩, r0, r1, r2, -⟩ := hSw
            go_simp <;> with_reducible rfl
          try simp only [Act.put, List.setIfInBounds_toArray, List.set_cons_zero, List.set_cons_succ]
          refine take_yes (i := 35) (v := ?v35h) rfl (by kernel_rfl) (by kernel_rfl) (by kernel_rfl) (fun _ _ _ h => h) (by rfl) ?hy35h hHeld ?rest35h
          case hy35h =>
            intro w' hSw
            obtain ⟨⟨u0, u1, u2, u3, u4, u5, u6⟩, ⟨v0, v1, v2, v3, v4, v5, v6⟩, r0, r1, r2, -⟩ := hSw
            go_simp <;> with_reducible rfl
          try simp only [Act.put, List.setIfInBounds_toArray, List.set_cons_zero, List.set_cons_succ]
          refine take_yes (i := 36) (v := ?v36h) rfl (by kernel_rfl) (by kernel_rfl) (by kernel_rfl) (fun _ _ _ h => h) (by rfl) ?hy36h hHeld ?rest36h
          case hy36h =>
            intro w' hSw
            obtain ⟨⟨u0, u1, u2, u3, u4, u5, u6⟩, ⟨v0, v1, v2, v3, v4, v5, v6⟩, r0, r1, r2, -⟩ := hSw
            go_simp <;> with_reducible rfl
          try simp only [Act.put, List.setIfInBounds_toArray, List.set_cons_zero, List.set_cons_succ]
          refine take_yes (i := 37) (v := ?v37h) rfl (by kernel_rfl) (by kernel_rfl) (by kernel_rfl) (fun _ _ _ h => h) (by rfl) ?hy37h hHeld ?rest37h
          case hy37h =>
            intro w' hSw
            obtain ⟨⟨u0, u1, u2, u3, u4, u5, u6⟩, ⟨v0, v1, v2, v3, v4, v5, v6⟩, r0, r1, r2, -⟩ := hSw
            go_simp <;> with_reducible rfl
          try simp only [Act.put, List.setIfInBounds_toArray, List.set_cons_zero, List.set_cons_succ]
          refine take_yes (i := 38) (v := ?v38h) rfl (by kernel_rfl) (by kernel_rfl) (by kernel_rfl) (fun _ _ _ h => h) (by rfl) ?hy38h hHeld ?rest38h
          case hy38h =>
            intro w' hSw
            obtain ⟨⟨u0, u1, u2, u3, u4, u5, u6⟩, ⟨v0, v1, v2, v3, v4, v5, v6⟩, r0, r1, r2, -⟩ := hSw
            go_simp <;> with_reducible rfl
          try simp only [Act.put, List.setIfInBounds_toArray, List.set_cons_zero, List.set_cons_succ]
          refine take_no (i := 39) rfl (by kernel_rfl) (by kernel_rfl) (by kernel_rfl) (fun _ _ _ h => h) (by rfl) hHeld ?rest39h
          try simp only [Act.put, List.setIfInBounds_toArray, List.set_cons_zero, List.set_cons_succ]
          refine take_no (i := 40) rfl (by kernel_rfl) (by kernel_rfl) (by kernel_rfl) (fun _ _ _ h => h) (by rfl) hHeld ?rest40h
          try simp only [Act.put, List.setIfInBounds_toArray, List.set_cons_zero, List.set_cons_succ]
          refine take_no (i := 41) rfl (by kernel_rfl) (by kernel_rfl) (by kernel_rfl) (fun _ _ _ h => h) (by rfl) hHeld ?rest41h
          try simp only [Act.put, List.setIfInBounds_toArray, List.set_cons_zero, List.set_cons_succ]
          refine take_no (i := 42) rfl (by kernel_rfl) (by kernel_rfl) (by kernel_rfl) (fun _ _ _ h => h) (by rfl) hHeld ?rest42h
          try simp only [Act.put, List.setIfInBounds_toArray, List.set_cons_zero, List.set_cons_succ]
          refine take_yes (i := 43) (v := ?v43h) rfl (by kernel_rfl) (by kernel_rfl) (by kernel_rfl) (fun _ _ _ h => h) (by rfl) ?hy43h hHeld ?rest43h
          case hy43h =>
            intro w' hSw
            obtain ⟨⟨u0, u1, u2, u3, u4, u5, u6⟩, ⟨v0, v1, v2, v3, v4, v5, v6⟩, r0, r1, r2, -⟩ := hSw
            go_simp <;> with_reducible rfl
          try simp only [Act.put, List.setIfInBounds_toArray, List.set_cons_zero, List.set_cons_succ]
          refine take_yes (i := 44) (v := ?v44h) rfl (by kernel_rfl) (by kernel_rfl) (by kernel_rfl) (fun _ _ _ h => h) (by rfl) ?hy44h hHeld ?rest44h
          case hy44h =>
            intro w' hSw
            obtain ⟨⟨u0, u1, u2, u3, u4, u5, u6⟩, ⟨v0, v1, v2, v3, v4, v5, v6⟩, r0, r1, r2, -⟩ := hSw
            go_simp <;> with_reducible rfl
          try simp only [Act.put, List.setIfInBounds_toArray, List.set_cons_zero, List.set_cons_succ]
          refine take_yes (i := 45) (v := ?v45h) rfl (by kernel_rfl) (by kernel_rfl) (by kernel_rfl) (fun _ _ _ h => h) (by rfl) ?hy45h hHeld ?rest45h
          case hy45h =>
            intro w' hSw
            obtain ⟨⟨u0, u1, u2, u3, u4, u5, u6⟩, ⟨v0, v1, v2, v3, v4, v5, v6⟩, r0, r1, r2, -⟩ := hSw
            go_simp <;> with_reducible rfl
          try simp only [Act.put, List.setIfInBounds_toArray, List.set_cons_zero, List.set_cons_succ]
          refine take_yes (i := 46) (v := ?v46h) rfl (by kernel_rfl) (by kernel_rfl) (by kernel_rfl) (fun _ _ _ h => h) (by rfl) ?hy46h hHeld ?rest46h
          case hy46h =>
            intro w' hSw
            obtain ⟨⟨u0, u1, u2, u3, u4, u5, u6⟩, ⟨v0, v1, v2, v3, v4, v5, v6⟩, r0, r1, r2, -⟩ := hSw
            go_simp <;> with_reducible rfl
          try simp only [Act.put, List.setIfInBounds_toArray, List.set_cons_zero, List.set_cons_succ]
          refine take_yes (i := 47) (v := ?v47h) rfl (by kernel_rfl) (by kernel_rfl) (by kernel_rfl) (fun _ _ _ h => h) (by rfl) ?hy47h hHeld ?rest47h
          case hy47h =>
            intro w' hSw
            obtain ⟨⟨u0, u1, u2, u3, u4, u5, u6⟩, ⟨v0, v1, v2, v3, v4, v5, v6⟩, r0, r1, r2, -⟩ := hSw
            go_simp <;> with_reducible rfl
          try simp only [Act.put, List.setIfInBounds_toArray, List.set_cons_zero, List.set_cons_succ]
          refine take_yes (i := 48) (v := ?v48h) rfl (by kernel_rfl) (by kernel_rfl) (by kernel_rfl) (fun _ _ _ h => h) (by rfl) ?hy48h hHeld ?rest48h
          case hy48h =>
            intro w' hSw
            obtain ⟨⟨u0, u1, u2, u3, u4, u5, u6⟩, ⟨v0, v1, v2, v3, v4, v5, v6⟩, r0, r1, r2, -⟩ := hSw
            go_simp <;> with_reducible rfl
          try simp only [Act.put, List.setIfInBounds_toArray, List.set_cons_zero, List.set_cons_succ]
          refine take_yes (i := 49) (v := ?v49h) rfl (by kernel_rfl) (by kernel_rfl) (by kernel_rfl) (fun _ _ _ h => h) (by rfl) ?hy49h hHeld ?rest49h
          case hy49h =>
            intro w' hSw
            obtain ⟨⟨u0, u1, u2, u3, u4, u5, u6⟩, ⟨v0, v1, v2, v3, v4, v5, v6⟩, r0, r1, r2, -⟩ := hSw
            go_simp <;> with_reducible rfl
          try simp only [Act.put, List.setIfInBounds_toArray, List.set_cons_zero, List.set_cons_succ]
          refine take_yes (i := 50) (v := ?v50h) rfl (by kernel_rfl) (by kernel_rfl) (by kernel_rfl) (fun _ _ _ h => h) (by rfl) ?hy50h hHeld ?rest50h
          case hy50h =>
            intro w' hSw
            obtain ⟨⟨u0, u1, u2, u3, u4, u5, u6⟩, ⟨v0, v1, v2, v3, v4, v5, v6⟩, r0, r1, r2, -⟩ := hSw
            go_simp <;> with_reducible rfl
          try simp only [Act.put, List.setIfInBounds_toArray, List.set_cons_zero, List.set_cons_succ]
          refine take_yes (i := 51) (v := ?v51h) rfl (by kernel_rfl) (by kernel_rfl) (by kernel_rfl) (fun _ _ _ h => h) (by rfl) ?hy51h hHeld ?rest51h
          case hy51h =>
            intro w' hSw
            obtain ⟨⟨u0, u1, u2, u3, u4, u5, u6⟩, ⟨v0, v1, v2, v3, v4, v5, v6⟩, r0, r1, r2, -⟩ := hSw
            go_simp <;> with_reducible rfl
          try simp only [Act.put, List.setIfInBounds_toArray, List.set_cons_zero, List.set_cons_succ]
          refine take_yes (i := 52) (v := ?v52h) rfl (by kernel_rfl) (by kernel_rfl) (by kernel_rfl) (fun _ _ _ h => h) (by rfl) ?hy52h hHeld ?rest52h
          case hy52h =>
            intro w' hSw
            obtain ⟨⟨u0, u1, u2, u3, u4, u5, u6⟩, ⟨v0, v1, v2, v3, v4, v5, v6⟩, r0, r1, r2, -⟩ := hSw
            go_simp <;> with_reducible rfl
          try simp only [Act.put, List.setIfInBounds_toArray, List.set_cons_zero, List.set_cons_succ]
          refine take_yes (i := 53) (v := ?v53h) rfl (by kernel_rfl) (by kernel_rfl) (by kernel_rfl) (fun _ _ _ h => h) (by rfl) ?hy53h hHeld ?rest53h
          case hy53h =>
            intro w' hSw
            obtain ⟨⟨u0, u1, u2, u3, u4, u5, u6⟩, ⟨v0, v1, v2, v3, v4, v5, v6⟩, r0, r1, r2, -⟩ := hSw
            go_simp <;> with_reducible rfl
          try simp only [Act.put, List.setIfInBounds_toArray, List.set_cons_zero, List.set_cons_succ]
          refine take_yes (i := 54) (v := ?v54h) rfl (by kernel_rfl) (by kernel_rfl) (by kernel_rfl) (fun _ _ _ h => h) (by rfl) ?hy54h hHeld ?rest54h
          case hy54h =>
            intro w' hSw
            obtain ⟨⟨u0, u1, u2, u3, u4, u5, u6⟩, ⟨v0, v1, v2, v3, v4, v5, v6⟩, r0, r1, r2, -⟩ := hSw
            go_simp <;> with_reducible rfl
          try simp only [Act.put, List.setIfInBounds_toArray, List.set_cons_zero, List.set_cons_succ]
          refine take_yes (i := 55) (v := ?v55h) rfl (by kernel_rfl) (by kernel_rfl) (by kernel_rfl) (fun _ _ _ h => h) (by rfl) ?hy55h hHeld ?rest55h
          case hy55h =>
            intro w' hSw
            obtain ⟨⟨u0, u1, u2, u3, u4, u5, u6⟩, ⟨v0, v1, v2, v3, v4, v5, v6⟩, r0, r1, r2, -⟩ := hSw
            go_simp <;> with_reducible rfl
          try simp only [Act.put, List.setIfInBounds_toArray, List.set_cons_zero, List.set_cons_succ]
          refine take_yes (i := 56) (v := ?v56h) rfl (by kernel_rfl) (by kernel_rfl) (by kernel_rfl) (fun _ _ _ h => h) (by rfl) ?hy56h hHeld ?rest56h
          case hy56h =>
            intro w' hSw
            obtain ⟨⟨u0, u1, u2, u3, u4, u5, u6⟩, ⟨v0, v1, v2, v3, v4, v5, v6⟩, r0, r1, r2, -⟩ := hSw
            go_simp <;> with_reducible rfl
          try simp only [Act.put, List.setIfInBounds_toArray, List.set_cons_zero, List.set_cons_succ]
          refine take_yes (i := 57) (v := ?v57h) rfl (by kernel_rfl) (by kernel_rfl) (by kernel_rfl) (fun _ _ _ h => h) (by rfl) ?hy57h hHeld ?rest57h
          case hy57h =>
            intro w' hSw
            obtain ⟨⟨u0, u1, u2, u3, u4, u5, u6⟩, ⟨v0, v1, v2, v3, v4, v5, v6⟩, r0, r1, r2, -⟩ := hSw
            go_simp <;> with_reducible rfl
          try simp only [Act.put, List.setIfInBounds_toArray, List.set_cons_zero, List.set_cons_succ]
          refine take_no (i := 58) rfl (by kernel_rfl) (by kernel_rfl) (by kernel_rfl) (fun _ _ _ h => h) (by rfl) hHeld ?rest58h
          try simp only [Act.put, List.setIfInBounds_toArray, List.set_cons_zero, List.set_cons_succ]
          refine take_no (i := 59) rfl (by kernel_rfl) (by kernel_rfl) (by kernel_rfl) (fun _ _ _ h => h) (by rfl) hHeld ?rest59h
          try simp only [Act.put, List.setIfInBounds_toArray, List.set_cons_zero, List.set_cons_succ]
          refine take_no (i := 60) rfl (by kernel_rfl) (by kernel_rfl) (by kernel_rfl) (fun _ _ _ h => h) (by rfl) hHeld ?rest60h
          try simp only [Act.put, List.setIfInBounds_toArray, List.set_cons_zero, List.set_cons_succ]
          refine take_no (i := 61) rfl (by kernel_rfl) (by kernel_rfl) (by kernel_rfl) (fun _ _ _ h => h) (by rfl) hHeld ?rest61h
          try simp only [Act.put, List.setIfInBounds_toArray, List.set_cons_zero, List.set_cons_succ]
          refine take_no (i := 62) rfl (by kernel_rfl) (by kernel_rfl) (by kernel_rfl) (fun _ _ _ h => h) (by rfl) hHeld ?rest62h
          try simp only [Act.put, List.setIfInBounds_toArray, List.set_cons_zero, List.set_cons_succ]
          refine take_no (i := 63) rfl (by kernel_rfl) (by kernel_rfl) (by kernel_rfl) (fun _ _ _ h => h) (by rfl) hHeld ?rest63h
          try simp only [Act.put, List.setIfInBounds_toArray, List.set_cons_zero, List.set_cons_succ]
          refine take_no (i := 64) rfl (by kernel_rfl) (by kernel_rfl) (by kernel_rfl) (fun _ _ _ h => h) (by rfl) hHeld ?rest64h
          try simp only [Act.put, List.setIfInBounds_toArray, List.set_cons_zero, List.set_cons_succ]
          refine take_no (i := 65) rfl (by kernel_rfl) (by kernel_rfl) (by kernel_rfl) (fun _ _ _ h => h) (by rfl) hHeld ?rest65h
          try simp only [Act.put, List.setIfInBounds_toArray, List.set_cons_zero, List.set_cons_succ]
          refine take_no (i := 66) rfl (by kernel_rfl) (by kernel_rfl) (by kernel_rfl) (fun _ _ _ h => h) (by rfl) hHeld ?rest66h
          try simp only [Act.put, List.setIfInBounds_toArray, List.set_cons_zero, List.set_cons_succ]
          refine take_yes (i := 67) (v := ?v67h) rfl (by kernel_rfl) (by kernel_rfl) (by kernel_rfl) (fun _ _ _ h => h) (by rfl) ?hy67h hHeld ?rest67h
          case hy67h =>
            intro w' hSw
            obtain ⟨⟨u0, u1, u2, u3, u4, u5, u6⟩, ⟨v0, v1, v2, v3, v4, v5, v6⟩, r0, r1, r2, -⟩ := hSw
            go_simp <;> with_reducible rfl
          try simp only [Act.put, List.setIfInBounds_toArray, List.set_cons_zero, List.set_cons_succ]
          refine take_yes (i := 68) (v := ?v68h) rfl (by kernel_rfl) (by kernel_rfl) (by kernel_rfl) (fun _ _ _ h => h) (by rfl) ?hy68h hHeld ?rest68h
          case hy68h =>
            intro w' hSw
            obtain ⟨⟨u0, u1, u2, u3, u4, u5, u6⟩, ⟨v0, v1, v2, v3, v4, v5, v6⟩, r0, r1, r2, -⟩ := hSw
            go_simp <;> with_reducible rfl
          try simp only [Act.put, List.setIfInBounds_toArray, List.set_cons_zero, List.set_cons_succ]
          refine wpAnyH_done (by kernel_rfl) ?_ _
          obtain ⟨-, -, -, -, -, hb11⟩ := hHeld
          clear u0 u1 u2 u3 u4 u5 u6 v0 v1 v2 v3 v4 v5 v6 hcl kp0 kp1
          go_wp2_with fail
          go_roundw
          case rel => exact ⟨k + 1, by omega, by go_num, hbq.trans (hb11.mono hbq.size)⟩
          case measure => simp [intOf]; omega

theorem watchSessions_own : ownKnob Try.prog.godebug = none := by kernel_rfl
theorem watchSessions_laidOut : laidOutB Try.prog = true := by kernel_rfl
set_option maxRecDepth 100000 in
theorem watchSessions_lifted (os : Os) (started : os.Started) (H : Type) (enc : TypeId × Value → H) :
    ReturnsInHanded {} Try.checked os 4 .any (Rows.watchSessionsSpec.pre6 enc Try.prog Try.f4 Rows.watchSessionsRow.domain false) (Rows.watchSessionsSpec.post enc Try.prog Try.f4 false true false false) := by
  refine returnsInHanded_of_change (C := Try.checked) watchSessions_own started (by kernel_rfl) Try.func4
    (ChangeSpec.witness6 (enc := enc) (C := Try.checked) false ⟨#[], #[.slice none 0 0, .agg #[.int .i64 0, .int .i64 0]], []⟩ 8 (by kernel_rfl) (by kernel_rfl) (by kernel_rfl) (by kernel_rfl)) ?_
  intro W base args ds gs before hval0 hW hcnd _
  have hval : ∀ (j : Nat) t v, Try.f4.params[j]? = some t → args[j]? = some v → Value.okWide Try.prog W .any base t v := hval0
  have hW' := hW
  obtain ⟨p, q, hA0, hV, rfl, hfz, hnd⟩ := hW
  have hA : DataW.TrodAll enc Try.prog W 0 (fun _ => true) true Try.f4.params.toList args.toList ds p := hA0
  rw [Try.params4] at hA hval
  obtain ⟨v0, vs0, d0, ds0, p0, q0, hargs, rfl, rfl, h0, r0⟩ := trodAll_cons hA
  obtain ⟨v1, vs1, d1, ds1, p1, q1, rfl, rfl, rfl, h1, r1⟩ := trodAll_cons r0
  obtain ⟨rfl, rfl, rfl⟩ := trodAll_nil r1
  obtain rfl : args = #[v0, v1] := by cases args; simp_all
  obtain ⟨rfl, rfl⟩ := trodVars_none hV
  have k0 := h0
  have lt0 : ∀ x ∈ p0, x.block < W.heap.size := by obtain ⟨m, hm⟩ := k0; exact DataW.trod_lt m _ _ _ hm
  have k1 := h1
  have lt1 : ∀ x ∈ p1, x.block < W.heap.size := by obtain ⟨m, hm⟩ := k1; exact DataW.trod_lt m _ _ _ hm
  obtain ⟨a0, cap0, L0, rfl, i0, r0', c0, m0⟩ := open_sbs (hval 0 22 v0 rfl rfl) h0
  obtain ⟨c10, c11, y10, y11, n1, rfl, rfl, rfl, t10, t11⟩ := Go.Joins.open_agg2 Try.underlying24 (by kernel_rfl) (by kernel_rfl) (hval 1 24 v1 rfl rfl) h1
  obtain ⟨a10, e10, -, w10⟩ := DataW.trod_int Try.underlying3 t10
  obtain rfl : c10 = .int .i64 a10 := by simpa using e10
  obtain ⟨a11, e11, -, w11⟩ := DataW.trod_int Try.underlying3 t11
  obtain rfl : c11 = .int .i64 a11 := by simpa using e11
  clear hA0 hval0
  refine (watchSessions_walk W a0 cap0 L0 i0 r0' c0 m0 a10 a11).mono fun e W' ⟨he, bel⟩ => ?_
  subst he
  exact ⟨_, rfl, _, _, _, [], _, [], hW', trodAll_mk1 (shut_bool Try.underlying4 _), (trodAll_cons_mk (Below.trod watchSessions_laidOut (by kernel_rfl) (of_decide_eq_true (by kernel_rfl)) k0 bel lt0) (trodAll_cons_mk (Below.trod watchSessions_laidOut (by kernel_rfl) (of_decide_eq_true (by kernel_rfl)) k1 bel lt1) trodAll_mk0)), rfl, bel.frame _, fun h => by cases h⟩

theorem watchSessions_over : Rows.watchSessionsRow.holds Try.pinned (OpenSpec.ofChange Rows.watchSessionsSpec) :=
  OpenClaim.holds_of_wide 4 Try.f4 rfl rfl rfl rfl rfl rfl rfl ⟨rfl, rfl, rfl, rfl, rfl⟩ rfl rfl rfl rfl rfl (by kernel_rfl) Try.func4 (by kernel_rfl)
    (of_decide_eq_true (by kernel_rfl)) (by unfold Func.isWrapper; first | (rw [if_pos (by decide +kernel)]; kernel_rfl) | (rw [if_neg (by decide +kernel)]; exact ⟨rfl, rfl⟩))
    (fun os started H enc _ => watchSessions_lifted os started H enc)

theorem watchSessions_holds : Rows.WatchSessionsSaid := watchSessions_over
#print axioms watchSessions_holds
end Go.Proofs.Ythgnmpgdlemdlaa
