/- NoteReads (P17.2): of whatever bytes: a note that is written so, or the frame's error, or that it is none. -/
import Derived.Test.YtpedngbjpbeanaaGreatDoorNtRw
import Derived.Test.YtpedngbjpbeanaaGreatDoorNtB
import Derived.Test.YtpedngbjpbeanaaGreatDoorCards
import Derived.Test.YtpedngbjpbeanaaGreatDoorTie
import Derived.SevenTiedAt
import Derived.ProofKit
import Derived.OpenShut
import Derived.ShutString
import Derived.ChangeOld
import Derived.Below
import Derived.SizedLaws
namespace Go.Proofs.YtpedngbjpbeanaaGreatDoor
open Go.ChangeShapes Go.WideShapes Go.ChangeAt Go.RowKit
open Go.ChangeMaps (open_string shut_string)
set_option linter.unusedVariables false

set_option maxRecDepth 100000 in
set_option maxHeartbeats 8000000 in
theorem noteReads_walk (w : World) (hL : Masks w) (a0 : Nt) (s0 : Ns) (f0 : FitN a0) (r0 : RowN w s0 a0) (m0 : LenN a0) (a1 : Int) (w1 : (Lit.int .u8 a1).wf = true) (a2 : Int) (w2 : (Lit.int .u16 a2).wf = true) (a3 : ByteArray) (w3 : a3.size ≤ maxLen) :
    Calls Tryz.prog 4 #[a0.v s0, .int .u8 a1, .int .u16 a2, .string a3] w fun e w' => e = .returned (.bool true) ∧ Below w.heap.size w w' := by
  obtain ⟨Q, hQ⟩ : ∃ Q : Ending → World → Prop, Hid ((fun e w' => e = .returned (.bool true) ∧ Below w.heap.size w w') = Q) := ⟨_, rfl⟩
  have QQ := hid (fun w' (h : Below w.heap.size w w') => (show Q (.returned (.bool true)) w' by rw [← hQ.out]; exact ⟨rfl, h⟩))
  rw [hQ.out]
  clear hQ
  have hr1 := bounds_u8 w1
  have hr2 := bounds_u16 w2
  obtain ⟨n1, rfl⟩ := Int.eq_ofNat_of_zero_le hr1.1
  obtain ⟨n2, rfl⟩ := Int.eq_ofNat_of_zero_le hr2.1
  clear w1 w2 w3
  obtain ⟨W_0, hW⟩ : ∃ W, W = w.alloc (a0.o s0) := ⟨_, rfl⟩
  have hB_0 := hid (show Below w.heap.size w W_0 by rw [hW]; exact below1 _ _)
  have hA_0 := hid (show W_0.heap[w.heap.size]? = some (a0.o s0) by rw [hW]; exact new_at _ _ _ rfl)
  have hR_0 := hid (r0.later hB_0.out)
  have HM := hid hL
  have F0 := hid f0
  clear r0 hL f0
  go_enter Tryz.func4, Tryz.ntmps4
  go_upto_region 1 with fail
  rw [← hW]
  clear hW
  have C := known_holds _ (HM.out.below hB_0.out)
  go_wp2_with fail
  refine C.mono ?_
  rintro x W_1 ⟨rfl, hb⟩
  have hB_1 := hid (below_on hB_0.out hb)
  have hA_1 := hid (var_on hb hA_0.out (at_lt hA_0.out))
  have hR_1 := hid (hR_0.out.later hb)
  clear hb hB_0 C hA_0 hR_0
  have C := few_note hR_1.out F0.out m0
  go_wp2_with (first
      | ((with_reducible refine wpList_load_ntG ?_ (.tmp 4) rfl rfl hA_1.out ?_); · rfl))
  refine C.mono ?_
  rintro x W_2 ⟨q, rfl, hf0, hb⟩
  have hB_2 := hid (below_on hB_1.out hb)
  have hA_2 := hid (var_on hb hA_1.out (at_lt hA_1.out))
  have hR_2 := hid (hR_1.out.later hb)
  clear hb hB_1 C hA_1 hR_1
  cases q
  · go_wp2_with fail
    first
      | exact QQ.out _ hB_2.out
      | (go_ret; exact QQ.out _ hB_2.out)
  have e0 := hid (hf0 rfl)
  clear hf0
  by_cases h400 : a3.size ≤ 400
  rotate_left
  · have d0 : (400 : Int) < (a3.size : Int) := by omega
    have d1 : decide ((400 : Int) < (a3.size : Int)) = true := by simpa using d0
    go_wp2_with fail
    first
      | exact QQ.out _ hB_2.out
      | (go_ret; exact QQ.out _ hB_2.out)
  have d0 : ¬ (400 : Int) < (a3.size : Int) := by omega
  have d1 : decide ((400 : Int) < (a3.size : Int)) = false := by simpa using d0
  obtain ⟨L2, hL2⟩ : ∃ L, Hid (L = wrap a3.data.toList) := ⟨_, rfl⟩
  have hL2l : L2.length ≤ 100000 := by
    rw [hL2.out]
    exact wrap_len (show a3.size ≤ 40000 by omega)
  obtain ⟨R, hRR⟩ : ∃ R, Hid (isN a0 4 = R) := ⟨_, rfl⟩
  cases R
  rotate_left
  · have hbf := bytes_few hRR.out e0.out.mo e0.out.gi
    obtain ⟨N0, hN0⟩ : ∃ N0, Hid (noteB a0 = N0) := ⟨_, rfl⟩
    have lN0 := note_pos a0
    rw [hN0.out] at hbf lN0
    obtain ⟨hb0, hlN⟩ := hbf
    obtain ⟨B, hBq⟩ : ∃ B, Hid (wrap N0 = B) := ⟨_, rfl⟩
    rw [hBq.out] at hb0
    have HB0 := hid hb0
    have hBl : B.length ≤ 100000 := by rw [← hBq.out]; exact wrap_len hlN
    have HO := hid (show unwrap (⟨B.toArray⟩ : ByteArray).data.toList = ((⟨N0.toArray⟩ : ByteArray).data.toList, B.length, 0) by
      have := unwrap_wrap N0 [] hlN
      rw [List.append_nil, hBq.out] at this
      exact this)
    obtain ⟨k, hk⟩ : ∃ k, Hid (n2 % N0.length = k) := ⟨_, rfl⟩
    have hkl : k < N0.length := by rw [← hk.out]; exact Nat.mod_lt _ lN0
    have hmod : ((n2 : Int) % (N0.length : Int)) = (k : Int) := by rw [← hk.out]; simp
    obtain ⟨b, hb⟩ : ∃ b, N0[k]? = some b := ⟨N0[k]'hkl, by simp⟩
    have HBt := hid hb
    obtain ⟨y, hxor⟩ := byte_xor b n1 (by omega)
    obtain ⟨X, hX⟩ : ∃ X, Hid (N0.set k y = X) := ⟨_, rfl⟩
    have hXl := hid (show X.length = N0.length by rw [← hX.out, List.length_set])
    obtain ⟨LX, hLX⟩ : ∃ L, Hid (L = wrap (⟨X.toArray⟩ : ByteArray).data.toList) := ⟨_, rfl⟩
    have hXb : X.length ≤ 40000 := by rw [hXl.out]; exact hlN
    have hLXl : LX.length ≤ 100000 := by
      rw [hLX.out]
      exact wrap_len hXb
    have j1 : (0 : Int) < (N0.length : Int) := by omega
    have j2 : ¬ (N0.length : Int) = 0 := by omega
    have j2' : ¬ N0 = [] := by intro e; rw [e] at lN0; simp at lN0
    have j3 : (k : Int) < (N0.length : Int) := by omega
    have j4 : (0 : Int) ≤ (k : Int) := by omega
    clear hb hb0 hRR
    have C := note_bytes (HM.out.below hB_2.out) hR_2.out F0.out m0 HB0
    go_wp2_with (first
        | ((with_reducible refine wpList_load_ntG ?_ (.tmp 4) rfl rfl hA_2.out ?_); · rfl))
    refine C.mono ?_
    rintro x W_3 ⟨rfl, hb⟩
    have hB_3 := hid (below_on hB_2.out hb)
    clear hb hB_2 C hA_2 hR_2 
    have C := refopen_at (s := ⟨B.toArray⟩) (u := ⟨N0.toArray⟩) (k := B.length) (e := 0) HO (show B.length ≤ 140737488355328 by omega) W_3
    go_wp2_with fail
    refine C.mono ?_
    rintro x W_4 ⟨rfl, hb⟩
    have hB_4 := hid (below_on hB_3.out hb)
    clear hb hB_3 C 
    obtain ⟨w8, cap, hcv1, hv1, hb4⟩ := bytes_row (P := Tryz.prog) W_4 9 38 5 ⟨N0.toArray⟩ Tryz.underlying9 Tryz.underlying38 Tryz.underlying5
    have hsz : (⟨N0.toArray⟩ : ByteArray).size = N0.length := rfl
    rw [hsz] at hcv1
    rw [show (⟨N0.toArray⟩ : ByteArray).data.toList = N0 from rfl] at hv1
    have hcell : w8.cell? ⟨W_4.heap.size, k, none⟩ = some (.int .u8 b.toNat) := by
      rw [hv1.cell? k (by rw [u8s_length]; exact hkl)]
      simp [u8s, HBt.out]
    have hfro := hv1.frozen k (by rw [u8s_length]; exact hkl)
    have hv2 := hv1.setByte k y
    rw [hX.out] at hv2
    have hE8 := below_on hB_4.out hb4
    have hb5 : Below w.heap.size w (w8.setCell ⟨W_4.heap.size, k, none⟩ (.int .u8 y.toNat)) := hE8.setCell hB_4.out.size _
    have V2 := hid hv2
    have B5 := hid hb5
    clear hv1 hb4 hB_4 hv2 hb5 hE8
    go_upto_region 12 with fail
    go_region
    have hcv2 := V2.out.drew.text (P := Tryz.prog) (src := 38) (dst := 9) (cap := cap) Tryz.underlying38 Tryz.underlying5 Tryz.underlying9 hXl.out
    have hB_5 := hid B5.out.drew
    clear V2 B5 hcell hfro hcv1
    generalize (w8.setCell _ _).drew = W_5 at hcv2 hB_5 ⊢
    have C := refwrap_at (s := ⟨X.toArray⟩) (L := LX) hLX (show X.length ≤ 140737488355328 by omega) W_5
    go_wp2_with fail
    refine C.mono ?_
    rintro x W_6 ⟨rfl, hb⟩
    have hB_6 := hid (below_on hB_5.out hb)
    clear hb hB_5 C 
    clear hcv2
    have C := note_reads (HM.out.below hB_6.out) (s := ⟨LX.toArray⟩) (show LX.length ≤ 1000000 by omega)
    go_wp2_with fail
    refine C.mono ?_
    rintro x W_7 ⟨rfl, hb⟩
    have hB_7 := hid (below_on hB_6.out hb)
    clear hb hB_6 C 
    have C := note_reads (HM.out.below hB_7.out) (s := a3) (by omega)
    go_wp2_with fail
    refine C.mono ?_
    rintro x W_8 ⟨rfl, hb⟩
    have hB_8 := hid (below_on hB_7.out hb)
    clear hb hB_7 C 
    have C := refwrap_at hL2 (by omega) W_8
    go_wp2_with fail
    refine C.mono ?_
    rintro x W_9 ⟨rfl, hb⟩
    have hB_9 := hid (below_on hB_8.out hb)
    clear hb hB_8 C 
    have C := note_reads (HM.out.below hB_9.out) (s := ⟨L2.toArray⟩) (show L2.length ≤ 1000000 by omega)
    go_wp2_with fail
    refine C.mono ?_
    rintro x W_10 ⟨rfl, hb⟩
    have hB_10 := hid (below_on hB_9.out hb)
    clear hb hB_9 C 
    go_wp2_with fail
    first
      | exact QQ.out _ hB_10.out
      | (go_ret; exact QQ.out _ hB_10.out)
  · have hb0 : bytesN a0 = ([], 11) := by unfold bytesN; rw [if_neg (by rw [hRR.out]; simp)]
    have C := note_bytes (HM.out.below hB_2.out) hR_2.out F0.out m0 (hid hb0)
    go_wp2_with (first
        | ((with_reducible refine wpList_load_ntG ?_ (.tmp 4) rfl rfl hA_2.out ?_); · rfl))
    refine C.mono ?_
    rintro x W_3 ⟨rfl, hb⟩
    have hB_3 := hid (below_on hB_2.out hb)
    clear hb hB_2 C hb0 hA_2 hR_2 
    have C := note_reads (HM.out.below hB_3.out) (s := a3) (by omega)
    go_wp2_with fail
    refine C.mono ?_
    rintro x W_4 ⟨rfl, hb⟩
    have hB_4 := hid (below_on hB_3.out hb)
    clear hb hB_3 C 
    have C := refwrap_at hL2 (by omega) W_4
    go_wp2_with fail
    refine C.mono ?_
    rintro x W_5 ⟨rfl, hb⟩
    have hB_5 := hid (below_on hB_4.out hb)
    clear hb hB_4 C 
    have C := note_reads (HM.out.below hB_5.out) (s := ⟨L2.toArray⟩) (show L2.length ≤ 1000000 by omega)
    go_wp2_with fail
    refine C.mono ?_
    rintro x W_6 ⟨rfl, hb⟩
    have hB_6 := hid (below_on hB_5.out hb)
    clear hb hB_5 C 
    go_wp2_with fail
    first
      | exact QQ.out _ hB_6.out
      | (go_ret; exact QQ.out _ hB_6.out)


theorem noteReads_own : ownKnob Tryz.prog.godebug = none := by kernel_rfl
theorem noteReads_laidOut : laidOutB Tryz.prog = true := by kernel_rfl
set_option maxRecDepth 100000 in
theorem noteReads_lifted (os : Os) (started : os.Started) (H : Type) (enc : TypeId × Value → H) :
    ReturnsInHanded {} Tryz.checked os 4 .any (fun w args => (Rows.noteReadsSpec.pre enc Tryz.prog Tryz.f4 [] false w args ∧ laidMetH Tryz.prog laids w) ∧ sizedMet enc Tryz.prog Tryz.f4 (OpenSpec.ofChange Rows.noteReadsSpec) false w args) (Rows.noteReadsSpec.post enc Tryz.prog Tryz.f4 false true false false) := by
  refine returnsInHanded_of_change_and (C := Tryz.checked) (X := fun w _ => laidMetH Tryz.prog laids w) (fun _ _ _ hh h => h.of_heap hh) own_knob started (by kernel_rfl) Tryz.func4
    (ChangeSpec.witness_shaped (enc := enc) (C := Tryz.checked) (os := os) (X := fun w _ => laidMetH Tryz.prog laids w) false (World.laidAll Tryz.prog os laids) #[.agg #[.int .i64 0, .int .i64 0, .slice none 0 0, .slice none 0 0, .slice none 0 0, .slice none 0 0], .int .u8 0, .int .u16 0, .string ByteArray.empty] 8 rfl (World.shaped_of_ZipB (by kernel_rfl) (by kernel_rfl)) (by kernel_rfl) (by kernel_rfl) (by kernel_rfl) (door_met os _)) ?_
  intro W base args ds gs before hval0 hW _ _ hL _
  have hval : ∀ (j : Nat) t v, Tryz.f4.params[j]? = some t → args[j]? = some v → Value.okWide Tryz.prog W .any base t v := hval0
  have hW' := hW
  obtain ⟨p, q, hA0, hV, rfl, hfz, hnd⟩ := hW
  have hA : DataW.TrodAll enc Tryz.prog W 0 (fun _ => true) true Tryz.f4.params.toList args.toList ds p := hA0
  rw [Tryz.params4] at hA hval
  obtain ⟨v0, vs0, d0, ds0, p0, q0, hargs, rfl, rfl, h0, r0⟩ := trodAll_cons hA
  obtain ⟨v1, vs1, d1, ds1, p1, q1, rfl, rfl, rfl, h1, r1⟩ := trodAll_cons r0
  obtain ⟨v2, vs2, d2, ds2, p2, q2, rfl, rfl, rfl, h2, r2⟩ := trodAll_cons r1
  obtain ⟨v3, vs3, d3, ds3, p3, q3, rfl, rfl, rfl, h3, r3⟩ := trodAll_cons r2
  obtain ⟨rfl, rfl, rfl⟩ := trodAll_nil r3
  obtain rfl : args = #[v0, v1, v2, v3] := by cases args; simp_all
  obtain ⟨rfl, rfl⟩ := trodVars_none hV
  have k0 := h0
  have lt0 : ∀ x ∈ p0, x.block < W.heap.size := by obtain ⟨m, hm⟩ := k0; exact DataW.trod_lt m _ _ _ hm
  have k1 := h1
  have lt1 : ∀ x ∈ p1, x.block < W.heap.size := by obtain ⟨m, hm⟩ := k1; exact DataW.trod_lt m _ _ _ hm
  have k2 := h2
  have lt2 : ∀ x ∈ p2, x.block < W.heap.size := by obtain ⟨m, hm⟩ := k2; exact DataW.trod_lt m _ _ _ hm
  have k3 := h3
  have lt3 : ∀ x ∈ p3, x.block < W.heap.size := by obtain ⟨m, hm⟩ := k3; exact DataW.trod_lt m _ _ _ hm
  obtain ⟨a0, s0, rfl, f0, r0', m0⟩ := open_nt (hval 0 26 v0 rfl rfl) h0
  obtain ⟨a1, rfl, rfl, rfl, w1⟩ := open_int Tryz.underlying5 (hval 1 5 v1 rfl rfl) h1
  obtain ⟨a2, rfl, rfl, rfl, w2⟩ := open_int Tryz.underlying35 (hval 2 35 v2 rfl rfl) h2
  obtain ⟨a3, rfl, rfl, rfl, w3⟩ := open_string Tryz.underlying9 (hval 3 9 v3 rfl rfl) h3
  clear hA0 hval0
  refine (noteReads_walk W (of_laid hL) a0 s0 f0 r0' m0 a1 w1 a2 w2 a3 w3).mono fun e W' ⟨he, bel⟩ => ?_
  subst he
  exact ⟨_, rfl, _, _, _, [], _, [], hW', trodAll_mk1 (shut_bool Tryz.underlying4 _), (trodAll_cons_mk (Below.trod noteReads_laidOut (by kernel_rfl) (of_decide_eq_true (by kernel_rfl)) k0 bel lt0) (trodAll_cons_mk (Below.trod noteReads_laidOut (by kernel_rfl) (of_decide_eq_true (by kernel_rfl)) k1 bel lt1) (trodAll_cons_mk (Below.trod noteReads_laidOut (by kernel_rfl) (of_decide_eq_true (by kernel_rfl)) k2 bel lt2) (trodAll_cons_mk (Below.trod noteReads_laidOut (by kernel_rfl) (of_decide_eq_true (by kernel_rfl)) k3 bel lt3) trodAll_mk0)))), rfl, bel.frame _, fun h => by cases h⟩

theorem noteReads_over : Rows.noteReadsRow.holds Tryz.pinned (OpenSpec.ofChange Rows.noteReadsSpec) :=
  OpenClaim.holds_of_wide 4 Tryz.f4 rfl rfl rfl rfl rfl rfl rfl ⟨rfl, rfl, rfl, rfl, rfl⟩ rfl rfl rfl rfl rfl (by kernel_rfl) Tryz.func4 (by kernel_rfl)
    (of_decide_eq_true (by kernel_rfl)) (by unfold Func.isWrapper; first | (rw [if_pos (by decide +kernel)]; kernel_rfl) | (rw [if_neg (by decide +kernel)]; exact ⟨rfl, rfl⟩))
    (fun os started H enc _ => noteReads_lifted os started H enc)

theorem noteReads_holds : Rows.NoteReadsCardSaid :=
  Claim7.holds_tied_plain_at .later [] [.data] true (true, "b542daed004d59ef4065571a5db5b4c41c846d3fcd0aa270d7060032301f52b6") false
    noteReads_over (fun _ h => by cases h) (by kernel_rfl) (fun _ h => by cases h) noteReads_row_tie rfl ⟨rfl, rfl⟩ (by kernel_rfl) rfl
    (fun f fn hf hfn => by
      obtain rfl : f = 4 := Option.some.inj ((show Tryz.prog.funcNamed "vedette/vedettelaw17.NoteReads" = some 4 by kernel_rfl).symm.trans hf) |>.symm
      obtain rfl : fn = Tryz.f4 := (Option.some.inj (Tryz.func4.symm.trans hfn)).symm
      exact ⟨by kernel_rfl, fun j t ht => by
        rw [Tryz.params4] at ht
        have hm : t ∈ [26, 5, 35, 9] := by simpa using Array.mem_of_getElem? ht
        have hall : ([26, 5, 35, 9].all fun u => !Tryz.prog.wantsStandIn u) = true := by kernel_rfl
        exact (show Tryz.prog.wantsStandIn t = false by simpa using List.all_eq_true.1 hall t hm)⟩)
    (by kernel_rfl)
#print axioms noteReads_holds
end Go.Proofs.YtpedngbjpbeanaaGreatDoor
