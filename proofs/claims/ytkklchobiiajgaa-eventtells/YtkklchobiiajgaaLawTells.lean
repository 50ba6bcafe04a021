/- EventTells: of every events the package event and the document's own layer say the same: whether they are any, their bytes, whether two rows are alike; upon every row of things that rises what they make, or that they don't fit; for rows of at most 30, texts of at most 40 bytes (else the statement asks nothing). -/
import Derived.Test.YtkklchobiiajgaaEO
import Derived.ProofKit
import Derived.OpenShut
import Derived.ShutString
import Derived.ChangeOld
import Derived.Below
import Derived.SizedLaws
namespace Go.Proofs.Ytkklchobiiajgaa
open Go.ChangeShapes Go.WideShapes Go.ChangeAt Go.RowKit
open Go.ChangeMaps (open_string shut_string)
set_option linter.unusedVariables false

theorem same_true {w : World} {p p' : Option Addr} {cap cap' n : Nat} {L : List Th} (hr : RowT w p L) (hr' : RowT w p' L) (hn : Hid (L.length = n)) (hm : n ≤ 1000) :
    Calls Try.prog 16 #[.slice p n cap, .slice p' n cap'] w fun e w' => e = .returned (.bool true) ∧ Below w.heap.size w w' := by
  have := ref_sameAll w p p' cap cap' L L hr hr' (by rw [hn.out]; unfold maxLen; omega) (by rw [hn.out]; unfold maxLen; omega)
  rw [hn.out, sameL_self] at this
  exact this
theorem few_at' {w : World} {p : Option Addr} {cap n : Nat} {L : List Th} {q : Bool} (hq : Hid (fewL L = q)) (hn : Hid (L.length = n)) (hr : RowT w p L) (hi : ∀ t ∈ L, inT t) (hm : n ≤ maxLen) :
    Calls Try.prog 9 #[.slice p n cap] w fun e w' => e = .returned (.bool q) ∧ Below w.heap.size w w' := by
  have := few_things w p cap L hr hi (by rw [hn.out]; exact hm)
  rw [hq.out, hn.out] at this
  exact this
set_option maxRecDepth 100000 in
set_option maxHeartbeats 8000000 in
theorem eventTells_walk (w : World) (a0 : Option Addr) (cap0 : Nat) (L0 : List Th) (i0 : ∀ t ∈ L0, inT t) (r0 : RowT w a0 L0) (c0 : L0.length ≤ cap0) (m0 : cap0 ≤ maxLen) (a1 : Option Addr) (cap1 : Nat) (L1 : List Ev) (i1 : ∀ t ∈ L1, inE t) (r1 : RowE w a1 L1) (c1 : L1.length ≤ cap1) (m1 : cap1 ≤ maxLen) (a2 : Option Addr) (cap2 : Nat) (L2 : List Ev) (i2 : ∀ t ∈ L2, inE t) (r2 : RowE w a2 L2) (c2 : L2.length ≤ cap2) (m2 : cap2 ≤ maxLen) :
    Calls Try.prog 3 #[.slice a0 L0.length cap0, .slice a1 L1.length cap1, .slice a2 L2.length cap2] w fun e w' => e = .returned (.bool true) ∧ Below w.heap.size w w' := by
  obtain ⟨n0, hn0⟩ : ∃ n, Hid (L0.length = n) := ⟨_, rfl⟩
  obtain ⟨n1, hn1⟩ : ∃ n, Hid (L1.length = n) := ⟨_, rfl⟩
  obtain ⟨n2, hn2⟩ : ∃ n, Hid (L2.length = n) := ⟨_, rfl⟩
  obtain ⟨f0, hf0⟩ : ∃ q, Hid (fewL L0 = q) := ⟨_, rfl⟩
  obtain ⟨f1, hf1⟩ : ∃ q, Hid (fewE L1 = q) := ⟨_, rfl⟩
  obtain ⟨f2, hf2⟩ : ∃ q, Hid (fewE L2 = q) := ⟨_, rfl⟩
  obtain ⟨g0, hg0⟩ : ∃ q, Hid (good L0 = q) := ⟨_, rfl⟩
  have m0' : n0 ≤ maxLen := by rw [← hn0.out]; omega
  have m1' : n1 ≤ maxLen := by rw [← hn1.out]; omega
  have m2' : n2 ≤ maxLen := by rw [← hn2.out]; omega
  have k0 : n0 ≤ 9223372036854775807 := by unfold maxLen at m0'; omega
  have k1 : n1 ≤ 9223372036854775807 := by unfold maxLen at m1'; omega
  have k2 : n2 ≤ 9223372036854775807 := by unfold maxLen at m2'; omega
  have R0 := hid r0
  have R1 := hid r1
  have R2 := hid r2
  have I0 := hid i0
  have I1 := hid i1
  have I2 := hid i2
  rw [hn0.out, hn1.out, hn2.out]
  clear c0 m0 c1 m1 c2 m2 r0 r1 r2 i0 i1 i2
  go_enter Try.func3, Try.ntmps3
  go_wp2_with fail
  refine (known_holds _).mono ?_
  rintro x v1 ⟨rfl, hB1⟩
  go_wp2_with fail
  refine (few_at' hf0 hn0 (R0.out.later hB1) I0.out m0').mono ?_
  rintro x v2 ⟨rfl, hb2⟩
  have hB2 := below_on hB1 hb2
  clear hb2 hB1
  cases f0
  · go_wp2_with fail
    go_ret
    exact ⟨rfl, hB2⟩
  go_wp2_with fail
  refine (few_events _ _ _ _ _ _ hf1 hn1 (R1.out.later hB2) I1.out m1').mono ?_
  rintro x v3 ⟨rfl, hb3⟩
  have hB3 := below_on hB2 hb3
  clear hb3 hB2
  cases f1
  · go_wp2_with fail
    go_ret
    exact ⟨rfl, hB3⟩
  go_wp2_with fail
  refine (few_events _ _ _ _ _ _ hf2 hn2 (R2.out.later hB3) I2.out m2').mono ?_
  rintro x v4 ⟨rfl, hb4⟩
  have hB4 := below_on hB3 hb4
  clear hb4 hB3
  cases f2
  · go_wp2_with fail
    go_ret
    exact ⟨rfl, hB4⟩
  go_wp2_with fail
  refine (law_rising _ _ _ _ _ _ hg0 hn0 (R0.out.later hB4) I0.out m0').mono ?_
  rintro x v5 ⟨rfl, hb5⟩
  have hB5 := below_on hB4 hb5
  clear hb5 hB4
  cases g0
  · go_wp2_with fail
    go_ret
    exact ⟨rfl, hB5⟩
  have h30 : n0 ≤ 30 := by rw [← hn0.out]; exact fewL_len hf0.out
  have h31 : n1 ≤ 30 := by rw [← hn1.out]; exact fewE_len hf1.out
  have h32 : n2 ≤ 30 := by rw [← hn2.out]; exact fewE_len hf2.out
  have hGR := hid (good_goodR hg0.out I0.out)
  clear hf0 hf1 hf2 hg0
  obtain ⟨S, xe, hS⟩ : ∃ S xe, Hid (esB L1 = (S, xe)) := ⟨_, _, rfl⟩
  obtain ⟨M, ok, hF⟩ : ∃ M ok, Hid (foE L0 L1 = (M, ok)) := ⟨_, _, rfl⟩
  obtain ⟨nm, hnm⟩ : ∃ n, Hid (M.length = n) := ⟨_, rfl⟩
  obtain ⟨qs, hqs⟩ : ∃ q, Hid (sameE L1 L2 = q) := ⟨_, rfl⟩
  have hM60 : nm ≤ 60 := by
    have := foE_len hGR.out.rise hF.out
    rw [hnm.out, hn0.out, hn1.out] at this
    omega
  have hee : ((xe : Int) != (xe : Int)) = false := by simp
  have hoo : (ok != ok) = false := by simp
  have hqq : (qs != qs) = false := by simp
  go_wp2_with fail
  refine (event_bytes hS (R1.out.later hB5) I1.out hn1 (by omega)).mono ?_
  rintro x v6 ⟨rfl, hb6⟩
  have hB6 := below_on hB5 hb6
  clear hb6 hB5
  go_wp2_with fail
  refine (refev_bytes hS (R1.out.later hB6) I1.out hn1 (by omega)).mono ?_
  rintro x v7 ⟨rfl, hb7⟩
  have hB7 := below_on hB6 hb7
  clear hb7 hB6
  go_wp2_with fail
  refine (event_fold hF (R0.out.later hB7) hGR.out.rise hn0 (by omega) (R1.out.later hB7) hn1 (by omega) I1.out hnm).mono ?_
  rintro x v8 ⟨p8, c8, rfl, ho8, hb8⟩
  have hB8 := below_on hB7 hb8
  have HV8 := hid (row_own ho8 hnm.out.symm)
  clear hb8 hB7 ho8
  go_wp2_with fail
  refine (refev_fold hF (R0.out.later hB8) hGR.out.rise hn0 (by omega) (R1.out.later hB8) hn1 (by omega) I1.out hnm).mono ?_
  rintro x v9 ⟨p9, c9, rfl, hrow, hb9⟩
  have hB9 := below_on hB8 hb9
  have HV9 := hid (HV8.out.later hb9)
  have HW9 := hid hrow
  clear hb9 hB8 hrow HV8
  go_wp2_with fail
  refine (same_true HV9.out HW9.out hnm (by omega)).mono ?_
  rintro x u1 ⟨rfl, hd1⟩
  have hC1 := below_on hB9 hd1
  clear hd1 hB9 HV9 HW9
  go_wp2_with fail
  refine (event_same hqs (R1.out.later hC1) (R2.out.later hC1) hn1 hn2 (by omega) (by omega)).mono ?_
  rintro x u2 ⟨rfl, hd2⟩
  have hC2 := below_on hC1 hd2
  clear hd2 hC1
  go_wp2_with fail
  refine (refev_same hqs (R1.out.later hC2) (R2.out.later hC2) hn1 hn2 (by omega) (by omega)).mono ?_
  rintro x u3 ⟨rfl, hd3⟩
  have hC3 := below_on hC2 hd3
  clear hd3 hC2
  go_wp2_with fail
  go_loopw [15] (fun i wr => ∃ k : Nat, k ≤ n1 ∧ i = .int .i64 k ∧ Below w.heap.size w wr) (fun i _ => n1 - (intOf i).toNat)
  case atStart => exact ⟨0, by omega, rfl, hC3⟩
  case round =>
    clear hC3 hee hoo hqq hS hF hnm hqs
    obtain ⟨k, hk, rfl, hb⟩ := hrel
    by_cases hlt : k < n1
    · have hlt' : (k : Int) < (n1 : Int) := by omega
      obtain ⟨t, ht⟩ := get_some L1 k (by rw [hn1.out]; exact hlt)
      obtain ⟨bq, oq, rfl, hcc⟩ := (R1.out.later hb).at ht
      have HG := hid hcc
      have hit := I1.out t (List.mem_of_getElem? ht)
      clear ht hcc
      obtain ⟨A, ok, hF⟩ : ∃ A ok, Hid (doE L0 t = (A, ok)) := ⟨_, _, rfl⟩
      obtain ⟨na, hna⟩ : ∃ n, Hid (A.length = n) := ⟨_, rfl⟩
      obtain ⟨qi, hqi⟩ : ∃ q, Hid (isE t = q) := ⟨_, rfl⟩
      have hA31 : na ≤ 31 := by
        cases ok
        · have := doE_same hF.out
          rw [← hna.out, this, hn0.out]; omega
        · have := doE_len hGR.out.rise hF.out
          rw [hna.out, hn0.out] at this; omega
      have hoo : (ok != ok) = false := by simp
      have hqq : (qi != qi) = false := by simp
      go_wp2_with (with_reducible refine wpList_load_mid_ev rfl (.tmp 100) rfl rfl HG.out ?_)
      refine (event_apply hF (R0.out.later hb) hGR.out.rise hn0 (by omega) hit hna).mono ?_
      rintro x y1 ⟨p1, d1, rfl, ho1, hd1⟩
      have hD1 := below_on hb hd1
      have HA1 := hid (row_own ho1 hna.out.symm)
      have HG1 := hid (range_on HG.out hd1)
      clear hd1 ho1 hb HG
      go_wp2_with (with_reducible refine wpList_load_mid_ev rfl (.tmp 109) rfl rfl HG1.out ?_)
      refine (refev_apply hF (R0.out.later hD1) hGR.out.rise hn0 (by omega) hit hna).mono ?_
      rintro x y2 ⟨p2, d2, rfl, hrow2, hd2⟩
      have hD2 := below_on hD1 hd2
      have HA2 := hid (HA1.out.later hd2)
      have HC2 := hid hrow2
      have hG2 := range_on HG1.out hd2
      clear hd2 hrow2 hD1 HG1 HA1
      have hG : ∀ W', (∃ p : Regrown, W' = Sort.grow (redrawn y2 p.d) p.os) → W'.rangeAt bq (oq + k * 25) t.cs := fun W' ⟨p, e⟩ => by rw [e]; exact range_on hG2 (below_regrown y2 p.d p.os)
      have hfin : ∀ d os, Hid (Below w.heap.size w (Sort.grow (redrawn y2 d) os)) := fun d os => below_on hD2 (below_regrown y2 d os)
      have IS1 := fun w => event_is hqi hit w
      have IS2 := fun w => refev_is hqi hit w
      have SA := fun d os => same_true (cap := d1) (cap' := d2) (HA2.out.later (below_regrown y2 d os)) (HC2.out.later (below_regrown y2 d os)) hna (by omega)
      clear hG2 hD2
      go_upto_region 16 with fail
      refine wp_region_quiet_below (by kernel_rfl) (by kernel_rfl) ?_
      repeat (first | go_big_quiet_skip | ((with_reducible refine quiet_load_mid_ev ?_ (.tmp 116) rfl rfl hG ?_); (· rfl); simp only [Act.put, List.setIfInBounds_toArray, List.set_cons_zero, List.set_cons_succ]) | ((with_reducible refine quiet_load_mid_ev ?_ (.tmp 121) rfl rfl hG ?_); (· rfl); simp only [Act.put, List.setIfInBounds_toArray, List.set_cons_zero, List.set_cons_succ]) | (go_big_quiet_want; go_big_quiet_op; first | go_big_quiet_on | go_big_quiet_call (first | with_reducible exact Calls.regrown_of (IS1 _) | with_reducible exact Calls.regrown_of (IS2 _) | with_reducible exact Calls.regrown_of (SA _ _))))
      refine wpQuiet_nil ?_
      intro _ hw'
      obtain ⟨⟨dq, osq⟩, hw''⟩ := hw'
      subst hw''
      have hB := hfin dq osq
      obtain ⟨W8, hW8⟩ : ∃ W8, Sort.grow (redrawn y2 dq) osq = W8 := ⟨_, rfl⟩
      rw [hW8] at hB ⊢
      clear hW8 hG hfin SA IS1 IS2
      go_wp2_with fail
      go_roundw
      case rel => exact ⟨k + 1, by omega, by go_num, hB.out⟩
      case measure => simp [intOf]; omega
    · obtain rfl : k = n1 := by omega
      have hlt' : ¬ (k : Int) < (k : Int) := by omega
      go_wp2_with fail
      go_ret
      exact ⟨rfl, hb⟩

theorem eventTells_own : ownKnob Try.prog.godebug = none := by kernel_rfl
theorem eventTells_laidOut : laidOutB Try.prog = true := by kernel_rfl
set_option maxRecDepth 100000 in
theorem eventTells_lifted (os : Os) (started : os.Started) (H : Type) (enc : TypeId × Value → H) :
    ReturnsInHanded {} Try.checked os 3 .any (Rows.eventTellsSpec.pre6 enc Try.prog Try.f3 Rows.eventTellsRow.domain false) (Rows.eventTellsSpec.post enc Try.prog Try.f3 false true false false) := by
  refine returnsInHanded_of_change (C := Try.checked) eventTells_own started (by kernel_rfl) Try.func3
    (ChangeSpec.witness6 (enc := enc) (C := Try.checked) false ⟨#[], #[.slice none 0 0, .slice none 0 0, .slice none 0 0], []⟩ 8 (by kernel_rfl) (by kernel_rfl) (by kernel_rfl) (by kernel_rfl)) ?_
  intro W base args ds gs before hval0 hW hcnd _
  have hval : ∀ (j : Nat) t v, Try.f3.params[j]? = some t → args[j]? = some v → Value.okWide Try.prog W .any base t v := hval0
  have hW' := hW
  obtain ⟨p, q, hA0, hV, rfl, hfz, hnd⟩ := hW
  have hA : DataW.TrodAll enc Try.prog W 0 (fun _ => true) true Try.f3.params.toList args.toList ds p := hA0
  rw [Try.params3] at hA hval
  obtain ⟨v0, vs0, d0, ds0, p0, q0, hargs, rfl, rfl, h0, r0⟩ := trodAll_cons hA
  obtain ⟨v1, vs1, d1, ds1, p1, q1, rfl, rfl, rfl, h1, r1⟩ := trodAll_cons r0
  obtain ⟨v2, vs2, d2, ds2, p2, q2, rfl, rfl, rfl, h2, r2⟩ := trodAll_cons r1
  obtain ⟨rfl, rfl, rfl⟩ := trodAll_nil r2
  obtain rfl : args = #[v0, v1, v2] := by cases args; simp_all
  obtain ⟨rfl, rfl⟩ := trodVars_none hV
  have k0 := h0
  have lt0 : ∀ x ∈ p0, x.block < W.heap.size := by obtain ⟨m, hm⟩ := k0; exact DataW.trod_lt m _ _ _ hm
  have k1 := h1
  have lt1 : ∀ x ∈ p1, x.block < W.heap.size := by obtain ⟨m, hm⟩ := k1; exact DataW.trod_lt m _ _ _ hm
  have k2 := h2
  have lt2 : ∀ x ∈ p2, x.block < W.heap.size := by obtain ⟨m, hm⟩ := k2; exact DataW.trod_lt m _ _ _ hm
  obtain ⟨a0, cap0, L0, rfl, i0, r0', c0, m0⟩ := open_ths (hval 0 22 v0 rfl rfl) h0
  obtain ⟨a1, cap1, L1, rfl, i1, r1', c1, m1⟩ := open_evs (hval 1 23 v1 rfl rfl) h1
  obtain ⟨a2, cap2, L2, rfl, i2, r2', c2, m2⟩ := open_evs (hval 2 23 v2 rfl rfl) h2
  clear hA0 hval0
  refine (eventTells_walk W a0 cap0 L0 i0 r0' c0 m0 a1 cap1 L1 i1 r1' c1 m1 a2 cap2 L2 i2 r2' c2 m2).mono fun e W' ⟨he, bel⟩ => ?_
  subst he
  exact ⟨_, rfl, _, _, _, [], _, [], hW', trodAll_mk1 (shut_bool Try.underlying4 _), (trodAll_cons_mk (Below.trod eventTells_laidOut (by kernel_rfl) (of_decide_eq_true (by kernel_rfl)) k0 bel lt0) (trodAll_cons_mk (Below.trod eventTells_laidOut (by kernel_rfl) (of_decide_eq_true (by kernel_rfl)) k1 bel lt1) (trodAll_cons_mk (Below.trod eventTells_laidOut (by kernel_rfl) (of_decide_eq_true (by kernel_rfl)) k2 bel lt2) trodAll_mk0))), rfl, bel.frame _, fun h => by cases h⟩

theorem eventTells_over : Rows.eventTellsRow.holds Try.pinned (OpenSpec.ofChange Rows.eventTellsSpec) :=
  OpenClaim.holds_of_wide 3 Try.f3 rfl rfl rfl rfl rfl rfl rfl ⟨rfl, rfl, rfl, rfl, rfl⟩ rfl rfl rfl rfl rfl (by kernel_rfl) Try.func3 (by kernel_rfl)
    (of_decide_eq_true (by kernel_rfl)) (by unfold Func.isWrapper; first | (rw [if_pos (by decide +kernel)]; kernel_rfl) | (rw [if_neg (by decide +kernel)]; exact ⟨rfl, rfl⟩))
    (fun os started H enc _ => eventTells_lifted os started H enc)

theorem eventTells_holds : Rows.EventTellsSaid := eventTells_over
#print axioms eventTells_holds
end Go.Proofs.Ytkklchobiiajgaa
