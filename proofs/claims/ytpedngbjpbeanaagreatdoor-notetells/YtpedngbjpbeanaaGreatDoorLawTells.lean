/- Of every two notes and every number of servers NoteTells returns true. -/
import Derived.Test.YtpedngbjpbeanaaGreatDoorNtTe
import Derived.Test.YtpedngbjpbeanaaGreatDoorNtB
import Derived.Test.YtpedngbjpbeanaaGreatDoorCards
import Derived.Test.YtpedngbjpbeanaaGreatDoorTie
import Derived.SevenTiedAt
import Derived.ProofKit
import Derived.OpenShut
import Derived.ShutString
import Derived.ChangeOld
import Derived.Below
import Derived.SizedLaws
namespace Go.Proofs.YtpedngbjpbeanaaGreatDoor
open Go.ChangeShapes Go.WideShapes Go.ChangeAt Go.RowKit
open Go.ChangeMaps (open_string shut_string)
set_option linter.unusedVariables false

set_option maxRecDepth 100000 in
set_option maxHeartbeats 8000000 in
theorem noteTells_walk (w : World) (hL : Masks w) (a0 : Nt) (s0 : Ns) (f0 : FitN a0) (r0 : RowN w s0 a0) (m0 : LenN a0) (a1 : Nt) (s1 : Ns) (f1 : FitN a1) (r1 : RowN w s1 a1) (m1 : LenN a1) (a2 : Int) (w2 : (Lit.int .i64 a2).wf = true) :
    Calls Tryz.prog 3 #[a0.v s0, a1.v s1, .int .i64 a2] w fun e w' => e = .returned (.bool true) ∧ Below w.heap.size w w' := by
  obtain ⟨Q, hQ⟩ : ∃ Q : Ending → World → Prop, Hid ((fun e w' => e = .returned (.bool true) ∧ Below w.heap.size w w') = Q) := ⟨_, rfl⟩
  have QQ := hid (fun w' (h : Below w.heap.size w w') => (show Q (.returned (.bool true)) w' by rw [← hQ.out]; exact ⟨rfl, h⟩))
  rw [hQ.out]
  clear hQ
  clear w2
  obtain ⟨W_0, hW⟩ : ∃ W, W = (w.alloc (a0.o s0)).alloc (a1.o s1) := ⟨_, rfl⟩
  have hB_0 := hid (show Below w.heap.size w W_0 by rw [hW]; exact Go.Joins.below_alloc2 _ _ _)
  have hA_0 := hid (show W_0.heap[w.heap.size]? = some (a0.o s0) by rw [hW]; exact old_at (new_at _ _ _ rfl) _)
  have hD_0 := hid (show W_0.heap[w.heap.size + 1]? = some (a1.o s1) by rw [hW]; exact new_at _ _ _ (by simp))
  have hR_0 := hid (r0.later hB_0.out)
  have hS_0 := hid (r1.later hB_0.out)
  have HM := hid hL
  have F0 := hid f0
  have F1 := hid f1
  clear r0 r1 hL f0 f1
  go_enter Tryz.func3, Tryz.ntmps3
  go_upto_region 1 with fail
  rw [← hW]
  clear hW
  have C := known_holds _ (HM.out.below hB_0.out)
  go_wp2_with fail
  refine C.mono ?_
  rintro x W_1 ⟨rfl, hb⟩
  have hB_1 := hid (below_on hB_0.out hb)
  have hA_1 := hid (var_on hb hA_0.out (at_lt hA_0.out))
  have hD_1 := hid (var_on hb hD_0.out (at_lt hD_0.out))
  have hR_1 := hid (hR_0.out.later hb)
  have hS_1 := hid (hS_0.out.later hb)
  clear hb hB_0 C hA_0 hD_0 hR_0 hS_0
  have C := few_note hR_1.out F0.out m0
  go_wp2_with (first
      | ((with_reducible refine wpList_load_ntG ?_ (.tmp 3) rfl rfl hA_1.out ?_); · rfl)
      | ((with_reducible refine wpList_load_ntG ?_ (.tmp 4) rfl rfl hD_1.out ?_); · rfl))
  refine C.mono ?_
  rintro x W_2 ⟨q, rfl, hf0, hb⟩
  have hB_2 := hid (below_on hB_1.out hb)
  have hA_2 := hid (var_on hb hA_1.out (at_lt hA_1.out))
  have hD_2 := hid (var_on hb hD_1.out (at_lt hD_1.out))
  have hR_2 := hid (hR_1.out.later hb)
  have hS_2 := hid (hS_1.out.later hb)
  clear hb hB_1 C hA_1 hD_1 hR_1 hS_1
  cases q
  · go_wp2_with fail
    first
      | exact QQ.out _ hB_2.out
      | (go_ret; exact QQ.out _ hB_2.out)
  have e0 := hid (hf0 rfl)
  clear hf0
  have C := few_note hS_2.out F1.out m1
  go_wp2_with (first
      | ((with_reducible refine wpList_load_ntG ?_ (.tmp 3) rfl rfl hA_2.out ?_); · rfl)
      | ((with_reducible refine wpList_load_ntG ?_ (.tmp 4) rfl rfl hD_2.out ?_); · rfl))
  refine C.mono ?_
  rintro x W_3 ⟨q, rfl, hf0, hb⟩
  have hB_3 := hid (below_on hB_2.out hb)
  have hA_3 := hid (var_on hb hA_2.out (at_lt hA_2.out))
  have hD_3 := hid (var_on hb hD_2.out (at_lt hD_2.out))
  have hR_3 := hid (hR_2.out.later hb)
  have hS_3 := hid (hS_2.out.later hb)
  clear hb hB_2 C hA_2 hD_2 hR_2 hS_2
  cases q
  · go_wp2_with fail
    first
      | exact QQ.out _ hB_3.out
      | (go_ret; exact QQ.out _ hB_3.out)
  clear hf0
  obtain ⟨R, hRR⟩ : ∃ R, Hid (isN a0 4 = R) := ⟨_, rfl⟩
  obtain ⟨e, he⟩ : ∃ e : Nat, Hid (e = if R = true then 0 else 11) := ⟨_, rfl⟩
  obtain ⟨B, hBB⟩ : ∃ B, Hid (bytesN a0 = (B, e)) := by
    cases R with
    | true => exact ⟨wrap (noteB a0), by rw [he.out, if_pos rfl]; exact (bytes_few hRR.out e0.out.mo e0.out.gi).1⟩
    | false => exact ⟨[], by rw [he.out, if_neg (by simp)]; show bytesN a0 = _; unfold bytesN; rw [if_neg (by rw [hRR.out]; simp)]⟩
  have C := note_bytes (HM.out.below hB_3.out) hR_3.out F0.out m0 hBB
  go_wp2_with (first
      | ((with_reducible refine wpList_load_ntG ?_ (.tmp 3) rfl rfl hA_3.out ?_); · rfl)
      | ((with_reducible refine wpList_load_ntG ?_ (.tmp 4) rfl rfl hD_3.out ?_); · rfl))
  refine C.mono ?_
  rintro x W_4 ⟨rfl, hb⟩
  have hB_4 := hid (below_on hB_3.out hb)
  have hA_4 := hid (var_on hb hA_3.out (at_lt hA_3.out))
  have hD_4 := hid (var_on hb hD_3.out (at_lt hD_3.out))
  have hR_4 := hid (hR_3.out.later hb)
  have hS_4 := hid (hS_3.out.later hb)
  clear hb hB_3 C hA_3 hD_3 hR_3 hS_3
  have C := refnote_is hR_4.out (ask_of F0.out m0) hRR
  go_wp2_with (first
      | ((with_reducible refine wpList_load_ntG ?_ (.tmp 3) rfl rfl hA_4.out ?_); · rfl)
      | ((with_reducible refine wpList_load_ntG ?_ (.tmp 4) rfl rfl hD_4.out ?_); · rfl))
  refine C.mono ?_
  rintro x W_5 ⟨rfl, hb⟩
  have hB_5 := hid (below_on hB_4.out hb)
  have hA_5 := hid (var_on hb hA_4.out (at_lt hA_4.out))
  have hD_5 := hid (var_on hb hD_4.out (at_lt hD_4.out))
  have hR_5 := hid (hR_4.out.later hb)
  have hS_5 := hid (hS_4.out.later hb)
  clear hb hB_4 C hA_4 hD_4 hR_4 hS_4
  obtain ⟨K, hK⟩ : ∃ K, Hid (isN a0 a2 = K) := ⟨_, rfl⟩
  obtain ⟨q, hq⟩ := pick (a0 = a1)
  have hb := fun d os => below_regrown W_5 d os
  have hG1 : ∀ W', (∃ p : Regrown, W' = Sort.grow (redrawn W_5 p.d) p.os) → W'.heap[w.heap.size]? = some (a0.o s0) := fun W' ⟨p, e⟩ => by rw [e]; exact var_on (hb p.d p.os) hA_5.out (at_lt hA_5.out)
  have hG2 : ∀ W', (∃ p : Regrown, W' = Sort.grow (redrawn W_5 p.d) p.os) → W'.heap[w.heap.size + 1]? = some (a1.o s1) := fun W' ⟨p, e⟩ => by rw [e]; exact var_on (hb p.d p.os) hD_5.out (at_lt hD_5.out)
  have C1 := hid (fun d os => note_is (HM.out.below (below_on hB_5.out (hb d os))) (hR_5.out.later (hb d os)) (ask_of F0.out m0) hK)
  have C2 := hid (fun d os => refnote_is (hR_5.out.later (hb d os)) (ask_of F0.out m0) hK)
  have C3 := hid (fun d os => note_same hq (hR_5.out.later (hb d os)) (hS_5.out.later (hb d os)) m0 m1)
  have C4 := hid (fun d os => refnote_same hq (hR_5.out.later (hb d os)) (hS_5.out.later (hb d os)) m0 m1)
  have hfin : ∀ d os, Hid (Below w.heap.size w (Sort.grow (redrawn W_5 d) os)) := fun d os => below_on hB_5.out (hb d os)
  clear hb hq hA_5 hD_5 hR_5 hS_5 hB_5
  have hKK : (K == K) = true := by simp
  have hqq : (q == q) = true := by simp
  cases R
  · obtain rfl : e = 11 := he.out
    go_upto_region 7 with fail
    refine wp_region_quiet_below (by kernel_rfl) (by kernel_rfl) ?_
    repeat (first | go_big_quiet_skip | ((with_reducible refine quiet_load_nt ?_ (.tmp 3) rfl rfl hG1 ?_); (· rfl); simp only [Act.put, List.setIfInBounds_toArray, List.set_cons_zero, List.set_cons_succ]) | ((with_reducible refine quiet_load_nt ?_ (.tmp 4) rfl rfl hG2 ?_); (· rfl); simp only [Act.put, List.setIfInBounds_toArray, List.set_cons_zero, List.set_cons_succ]) | (go_big_quiet_want; go_big_quiet_op; first | go_big_quiet_on | go_big_quiet_call (first | exact Calls.regrown_of (C1.out _ _) | exact Calls.regrown_of (C2.out _ _) | exact Calls.regrown_of (C3.out _ _) | exact Calls.regrown_of (C4.out _ _))))
    refine wpQuiet_nil ?_
    intro _ hw'
    obtain ⟨⟨dq, osq⟩, hw''⟩ := hw'
    subst hw''
    have hB := hfin dq osq
    obtain ⟨W8, hW8⟩ : ∃ W8, Sort.grow (redrawn W_5 dq) osq = W8 := ⟨_, rfl⟩
    rw [hW8] at hB ⊢
    clear hW8 hG1 hG2 hfin C1 C2 C3 C4
    go_wp2_with fail
    first
      | exact QQ.out _ hB.out
      | (go_ret; exact QQ.out _ hB.out)
  · obtain rfl : e = 0 := he.out
    go_upto_region 7 with fail
    refine wp_region_quiet_below (by kernel_rfl) (by kernel_rfl) ?_
    repeat (first | go_big_quiet_skip | ((with_reducible refine quiet_load_nt ?_ (.tmp 3) rfl rfl hG1 ?_); (· rfl); simp only [Act.put, List.setIfInBounds_toArray, List.set_cons_zero, List.set_cons_succ]) | ((with_reducible refine quiet_load_nt ?_ (.tmp 4) rfl rfl hG2 ?_); (· rfl); simp only [Act.put, List.setIfInBounds_toArray, List.set_cons_zero, List.set_cons_succ]) | (go_big_quiet_want; go_big_quiet_op; first | go_big_quiet_on | go_big_quiet_call (first | exact Calls.regrown_of (C1.out _ _) | exact Calls.regrown_of (C2.out _ _) | exact Calls.regrown_of (C3.out _ _) | exact Calls.regrown_of (C4.out _ _))))
    refine wpQuiet_nil ?_
    intro _ hw'
    obtain ⟨⟨dq, osq⟩, hw''⟩ := hw'
    subst hw''
    have hB := hfin dq osq
    obtain ⟨W8, hW8⟩ : ∃ W8, Sort.grow (redrawn W_5 dq) osq = W8 := ⟨_, rfl⟩
    rw [hW8] at hB ⊢
    clear hW8 hG1 hG2 hfin C1 C2 C3 C4
    go_wp2_with fail
    first
      | exact QQ.out _ hB.out
      | (go_ret; exact QQ.out _ hB.out)


theorem noteTells_own : ownKnob Tryz.prog.godebug = none := by kernel_rfl
theorem noteTells_laidOut : laidOutB Tryz.prog = true := by kernel_rfl
set_option maxRecDepth 100000 in
theorem noteTells_lifted (os : Os) (started : os.Started) (H : Type) (enc : TypeId × Value → H) :
    ReturnsInHanded {} Tryz.checked os 3 .any (fun w args => (Rows.noteTellsSpec.pre enc Tryz.prog Tryz.f3 [] false w args ∧ laidMetH Tryz.prog laids w) ∧ sizedMet enc Tryz.prog Tryz.f3 (OpenSpec.ofChange Rows.noteTellsSpec) false w args) (Rows.noteTellsSpec.post enc Tryz.prog Tryz.f3 false true false false) := by
  refine returnsInHanded_of_change_and (C := Tryz.checked) (X := fun w _ => laidMetH Tryz.prog laids w) (fun _ _ _ hh h => h.of_heap hh) own_knob started (by kernel_rfl) Tryz.func3
    (ChangeSpec.witness_shaped (enc := enc) (C := Tryz.checked) (os := os) (X := fun w _ => laidMetH Tryz.prog laids w) false (World.laidAll Tryz.prog os laids) #[.agg #[.int .i64 0, .int .i64 0, .slice none 0 0, .slice none 0 0, .slice none 0 0, .slice none 0 0], .agg #[.int .i64 0, .int .i64 0, .slice none 0 0, .slice none 0 0, .slice none 0 0, .slice none 0 0], .int .i64 0] 8 rfl (World.shaped_of_ZipB (by kernel_rfl) (by kernel_rfl)) (by kernel_rfl) (by kernel_rfl) (by kernel_rfl) (door_met os _)) ?_
  intro W base args ds gs before hval0 hW _ _ hL _
  have hval : ∀ (j : Nat) t v, Tryz.f3.params[j]? = some t → args[j]? = some v → Value.okWide Tryz.prog W .any base t v := hval0
  have hW' := hW
  obtain ⟨p, q, hA0, hV, rfl, hfz, hnd⟩ := hW
  have hA : DataW.TrodAll enc Tryz.prog W 0 (fun _ => true) true Tryz.f3.params.toList args.toList ds p := hA0
  rw [Tryz.params3] at hA hval
  obtain ⟨v0, vs0, d0, ds0, p0, q0, hargs, rfl, rfl, h0, r0⟩ := trodAll_cons hA
  obtain ⟨v1, vs1, d1, ds1, p1, q1, rfl, rfl, rfl, h1, r1⟩ := trodAll_cons r0
  obtain ⟨v2, vs2, d2, ds2, p2, q2, rfl, rfl, rfl, h2, r2⟩ := trodAll_cons r1
  obtain ⟨rfl, rfl, rfl⟩ := trodAll_nil r2
  obtain rfl : args = #[v0, v1, v2] := by cases args; simp_all
  obtain ⟨rfl, rfl⟩ := trodVars_none hV
  have k0 := h0
  have lt0 : ∀ x ∈ p0, x.block < W.heap.size := by obtain ⟨m, hm⟩ := k0; exact DataW.trod_lt m _ _ _ hm
  have k1 := h1
  have lt1 : ∀ x ∈ p1, x.block < W.heap.size := by obtain ⟨m, hm⟩ := k1; exact DataW.trod_lt m _ _ _ hm
  have k2 := h2
  have lt2 : ∀ x ∈ p2, x.block < W.heap.size := by obtain ⟨m, hm⟩ := k2; exact DataW.trod_lt m _ _ _ hm
  obtain ⟨a0, s0, rfl, f0, r0', m0⟩ := open_nt (hval 0 26 v0 rfl rfl) h0
  obtain ⟨a1, s1, rfl, f1, r1', m1⟩ := open_nt (hval 1 26 v1 rfl rfl) h1
  obtain ⟨a2, rfl, rfl, rfl, w2⟩ := open_int Tryz.underlying3 (hval 2 3 v2 rfl rfl) h2
  clear hA0 hval0
  refine (noteTells_walk W (of_laid hL) a0 s0 f0 r0' m0 a1 s1 f1 r1' m1 a2 w2).mono fun e W' ⟨he, bel⟩ => ?_
  subst he
  exact ⟨_, rfl, _, _, _, [], _, [], hW', trodAll_mk1 (shut_bool Tryz.underlying4 _), (trodAll_cons_mk (Below.trod noteTells_laidOut (by kernel_rfl) (of_decide_eq_true (by kernel_rfl)) k0 bel lt0) (trodAll_cons_mk (Below.trod noteTells_laidOut (by kernel_rfl) (of_decide_eq_true (by kernel_rfl)) k1 bel lt1) (trodAll_cons_mk (Below.trod noteTells_laidOut (by kernel_rfl) (of_decide_eq_true (by kernel_rfl)) k2 bel lt2) trodAll_mk0))), rfl, bel.frame _, fun h => by cases h⟩

theorem noteTells_over : Rows.noteTellsRow.holds Tryz.pinned (OpenSpec.ofChange Rows.noteTellsSpec) :=
  OpenClaim.holds_of_wide 3 Tryz.f3 rfl rfl rfl rfl rfl rfl rfl ⟨rfl, rfl, rfl, rfl, rfl⟩ rfl rfl rfl rfl rfl (by kernel_rfl) Tryz.func3 (by kernel_rfl)
    (of_decide_eq_true (by kernel_rfl)) (by unfold Func.isWrapper; first | (rw [if_pos (by decide +kernel)]; kernel_rfl) | (rw [if_neg (by decide +kernel)]; exact ⟨rfl, rfl⟩))
    (fun os started H enc _ => noteTells_lifted os started H enc)

theorem noteTells_holds : Rows.NoteTellsCardSaid :=
  Claim7.holds_tied_plain_at .later [] [.data] true (true, "b542daed004d59ef4065571a5db5b4c41c846d3fcd0aa270d7060032301f52b6") false
    noteTells_over (fun _ h => by cases h) (by kernel_rfl) (fun _ h => by cases h) noteTells_row_tie rfl ⟨rfl, rfl⟩ (by kernel_rfl) rfl
    (fun f fn hf hfn => by
      obtain rfl : f = 3 := Option.some.inj ((show Tryz.prog.funcNamed "vedette/vedettelaw17.NoteTells" = some 3 by kernel_rfl).symm.trans hf) |>.symm
      obtain rfl : fn = Tryz.f3 := (Option.some.inj (Tryz.func3.symm.trans hfn)).symm
      exact ⟨by kernel_rfl, fun j t ht => by
        rw [Tryz.params3] at ht
        have hm : t ∈ [26, 26, 3] := by simpa using Array.mem_of_getElem? ht
        have hall : ([26, 26, 3].all fun u => !Tryz.prog.wantsStandIn u) = true := by kernel_rfl
        exact (show Tryz.prog.wantsStandIn t = false by simpa using List.all_eq_true.1 hall t hm)⟩)
    (by kernel_rfl)
#print axioms noteTells_holds
end Go.Proofs.YtpedngbjpbeanaaGreatDoor
