/- For every row of things, every command, every number: of the table that Of makes of the row Check answers as the document says and changes nothing, and Do tells and leaves what the document says. No conditions. -/
import Derived.Test.YthmnbphpjmfckaaGreatDoorKnown11
import Derived.Test.YthmnbphpjmfckaaGreatDoorAcS
import Derived.Test.YthmnbphpjmfckaaGreatDoorAcT
import Derived.Test.YthmnbphpjmfckaaGreatDoorCO
import Derived.Test.YthmnbphpjmfckaaGreatDoorTC
import Derived.Test.YthmnbphpjmfckaaGreatDoorLaid
import Derived.Test.YthmnbphpjmfckaaGreatDoorCards
import Derived.Test.YthmnbphpjmfckaaGreatDoorTie
import Derived.SevenTiedAt
import Derived.ProofKit
import Derived.OpenShut
import Derived.ShutString
import Derived.ChangeOld
import Derived.Below
import Derived.SizedLaws
namespace Go.Proofs.YthmnbphpjmfckaaGreatDoor
open Go.ChangeShapes Go.WideShapes Go.ChangeAt Go.RowKit
open Go.ChangeMaps (open_string shut_string)
set_option linter.unusedVariables false

set_option maxRecDepth 100000 in
set_option maxHeartbeats 8000000 in
theorem actTells_walk (w : World) (hL : Masks w) (a0 : Option Addr) (cap0 : Nat) (L0 : List Th) (i0 : ∀ t ∈ L0, inT t) (r0 : RowT w a0 L0) (c0 : L0.length ≤ cap0) (m0 : cap0 ≤ maxLen) (a1 : Cm) (w1 : inC a1) (a2 : Int) (w2 : (Lit.int .i64 a2).wf = true) :
    Calls Tryz.prog 3 #[.slice a0 L0.length cap0, a1.v, .int .i64 a2] w fun e w' => e = .returned (.bool true) ∧ Below w.heap.size w w' := by
  have HI2 := hid (show inI a2 from i64_bounds w2)
  obtain ⟨W, hW⟩ : ∃ W, W = w.alloc a1.o := ⟨_, rfl⟩
  have hB : Below w.heap.size w W := by rw [hW]; exact below1 _ _
  have K1 := hid (show W.heap[w.heap.size]? = some a1.o by rw [hW]; exact new_at _ _ _ rfl)
  have HM := hid (hL.below hB)
  have HR := hid (r0.later hB)
  have HI := hid i0
  have HC := hid w1
  have CK := known11 W HM.out
  obtain ⟨n, hn⟩ : ∃ n, Hid (L0.length = n) := ⟨_, rfl⟩
  have hm : n ≤ maxLen := by rw [← hn.out]; omega
  obtain ⟨q, hq⟩ : ∃ q, Hid (fewL L0 = q) := ⟨_, rfl⟩
  obtain ⟨q2, hq2⟩ : ∃ q, Hid (fewC a1 = q) := ⟨_, rfl⟩
  obtain ⟨L, hLL⟩ : ∃ L, Hid (ofT L0 = L) := ⟨_, rfl⟩
  rw [hn.out]
  clear c0 m0 hL r0 i0 w1 w2
  go_enter Tryz.func3, Tryz.ntmps3
  go_upto_region 1 with fail
  rw [← hW]
  clear hW
  go_wp2_with fail
  refine CK.mono ?_
  rintro z W0 ⟨rfl, hb0⟩
  have HM0 := hid (HM.out.below hb0)
  have HR0 := hid (HR.out.later hb0)
  have K0 := hid (var_on hb0 K1.out (lt_of_at K1.out))
  have hB0 := below_on hB hb0
  clear CK HM HR K1 hB hb0
  have CF := few_things W0 a0 cap0 L0 HR0.out HI.out (by rw [hn.out]; exact hm)
  rw [hn.out, hq.out] at CF
  go_wp2_with fail
  with_reducible refine CF.mono ?_
  rintro z W1 ⟨rfl, hb1⟩
  have HM1 := hid (HM0.out.below hb1)
  have HR1 := hid (HR0.out.later hb1)
  have K1 := hid (var_on hb1 K0.out (lt_of_at K0.out))
  have hB1 := below_on hB0 hb1
  clear CF HM0 HR0 K0 hB0 hb1
  cases q
  · go_wp2_with fail
    go_ret
    exact ⟨rfl, hB1⟩
  · have CF := few_cmd W1 a1 (in_sized HC.out)
    rw [hq2.out] at CF
    go_wp2_with (with_reducible refine wpList_load_cmG rfl (.tmp 4) rfl rfl K1.out ?_)
    with_reducible refine CF.mono ?_
    rintro z W2 ⟨rfl, hb2⟩
    have HM2 := hid (HM1.out.below hb2)
    have HR2 := hid (HR1.out.later hb2)
    have K2 := hid (var_on hb2 K1.out (lt_of_at K1.out))
    have hB2 := below_on hB1 hb2
    clear CF HM1 HR1 K1 hB1 hb2
    cases q2
    · go_wp2_with fail
      go_ret
      exact ⟨rfl, hB2⟩
    · go_wp2_with fail
      with_reducible refine (tk_of HM2.out HR2.out hn hm HI hLL).mono ?_
      rintro z W3 ⟨tb, rfl, T3⟩
      have hG := hid T3.good
      obtain ⟨m, hmL⟩ : ∃ m, Hid (L.length = m) := ⟨_, rfl⟩
      have hml : m ≤ 200 := by rw [← hmL.out]; exact hG.out.len
      obtain ⟨x, hx⟩ : ∃ x, Hid (chk L a1 = x) := ⟨_, rfl⟩
      obtain ⟨L', hL'⟩ : ∃ L', Hid (doL L a1 a2 = L') := ⟨_, rfl⟩
      obtain ⟨m', hm'⟩ : ∃ m', Hid (L'.length = m') := ⟨_, rfl⟩
      obtain ⟨N, hN⟩ : ∃ N, Hid (doN L a1 a2 = N) := ⟨_, rfl⟩
      obtain ⟨E, hE⟩ : ∃ E, Hid (doE L a1 a2 = E) := ⟨_, rfl⟩
      have hml' : m' ≤ 200 := by
        rw [← hm'.out, ← hL'.out]
        exact (do_good hG.out HC.out a2).len
      clear HM2 HR2 hLL hn hm hq hq2 HI
      go_wp2_with fail
      with_reducible refine (tk_all2 T3 hmL).mono ?_
      rintro z W4 ⟨p4, c4, rfl, R4, T4, hb4⟩
      have K4 := hid (var_on T4.below K2.out (lt_of_at K2.out))
      have HR4 := hid R4
      have HT4 := hid T4
      clear T3 hb4 R4 T4
      go_wp2_with (with_reducible refine wpList_load_cm rfl (.tmp 4) rfl rfl K4.out ?_)
      refine (act_check HT4.out (in_sized HC.out) hx).mono ?_
      rintro z W5 ⟨rfl, hb5⟩
      have HT5 := hid (HT4.out.later hb5)
      have HR5 := hid (HR4.out.later hb5)
      clear HT4 HR4 K4 hb5
      go_wp2_with fail
      with_reducible refine (tk_all2 HT5.out hmL).mono ?_
      rintro z W6 ⟨p6, c6, rfl, R6, T6, hb6⟩
      have K6 := hid (var_on T6.below K2.out (lt_of_at K2.out))
      have HR6 := hid R6
      have HS6 := hid (HR5.out.later hb6)
      have HT6 := hid T6
      clear HT5 HR5 R6 T6 hb6
      go_wp2_with (with_reducible refine wpList_load_cm rfl (.tmp 4) rfl rfl K6.out ?_)
      refine (act_do HT6.out HC.out HI2.out hN hE hL').mono ?_
      rintro z W7 ⟨rfl, T7, hK7⟩
      have K7 := hid (var_on T7.below K2.out (lt_of_at K2.out))
      have HR7 := hid (HR6.out.kept hK7 (fun k hk => List.mem_append_left _ hk))
      have HS7 := hid (HS6.out.kept hK7 (fun k hk => List.mem_append_right _ (List.mem_append_left _ hk)))
      have HT7 := hid T7
      clear HT6 HR6 HS6 K6 T7 hK7
      go_wp2_with (with_reducible refine wpList_load_cm rfl (.tmp 4) rfl rfl K7.out ?_)
      refine (ref_do HS7.out hG.out hmL (in_sized HC.out) hL' hm' hN hE).mono ?_
      rintro z W8 ⟨p8, c8, rfl, R8, hb8⟩
      have K8 := hid (var_on hb8 K7.out (lt_of_at K7.out))
      have HQ8 := hid R8
      have HR8 := hid (HR7.out.later hb8)
      have HS8 := hid (HS7.out.later hb8)
      have HT8 := hid (HT7.out.later hb8)
      clear HT7 HR7 HS7 K7 R8 hb8
      go_wp2_with (with_reducible refine wpList_load_cm rfl (.tmp 4) rfl rfl K8.out ?_)
      refine (ref_check HS8.out hG.out hmL (in_sized HC.out) hx).mono ?_
      rintro z W9 ⟨rfl, hb9⟩
      have HQ9 := hid (HQ8.out.later hb9)
      have HR9 := hid (HR8.out.later hb9)
      have HS9 := hid (HS8.out.later hb9)
      have HT9 := hid (HT8.out.later hb9)
      clear HT8 HR8 HS8 HQ8 K8 hb9
      go_wp2_with fail
      with_reducible refine (same_rows HR9.out HS9.out hmL (by omega)).mono ?_
      rintro z W10 ⟨rfl, hb10⟩
      have HQ10 := hid (HQ9.out.later hb10)
      have HT10 := hid (HT9.out.later hb10)
      clear HT9 HR9 HS9 HQ9 hb10
      go_wp2_with fail
      with_reducible refine (tk_all HT10.out hm').mono ?_
      rintro z W11 ⟨p11, c11, rfl, R11, hb11⟩
      have HQ11 := hid (HQ10.out.later hb11)
      have hB11 := below_on hB2 (HT10.out.later hb11).below
      clear HT10 HQ10 hb11
      go_wp2_with fail
      with_reducible refine (same_rows R11 HQ11.out hm' (by omega)).mono ?_
      rintro z W12 ⟨rfl, hb12⟩
      go_wp2
      go_ret
      exact ⟨rfl, below_on hB11 hb12⟩

theorem actTells_own : ownKnob Tryz.prog.godebug = none := by kernel_rfl
theorem actTells_laidOut : laidOutB Tryz.prog = true := by kernel_rfl
set_option maxRecDepth 100000 in
theorem actTells_lifted (os : Os) (started : os.Started) (H : Type) (enc : TypeId × Value → H) :
    ReturnsInHanded {} Tryz.checked os 3 .any (fun w args => (Rows.actTellsSpec.pre enc Tryz.prog Tryz.f3 [] false w args ∧ laidMetH Tryz.prog laids w) ∧ sizedMet enc Tryz.prog Tryz.f3 (OpenSpec.ofChange Rows.actTellsSpec) false w args) (Rows.actTellsSpec.post enc Tryz.prog Tryz.f3 false true false false) := by
  refine returnsInHanded_of_change_and (C := Tryz.checked) (X := fun w _ => laidMetH Tryz.prog laids w) (fun _ _ _ hh h => h.of_heap hh) own_knob started (by kernel_rfl) Tryz.func3
    (ChangeSpec.witness_shaped (enc := enc) (C := Tryz.checked) (os := os) (X := fun w _ => laidMetH Tryz.prog laids w) false (World.laidAll Tryz.prog os laids) #[.slice none 0 0, .agg #[.int .i64 0, .int .i64 0, .int .i64 0, .int .i64 0, .int .i64 0, .int .i64 0, .int .i64 0, .string ByteArray.empty, .int .i64 0, .string ByteArray.empty, .int .i64 0, .string ByteArray.empty, .int .i64 0, .string ByteArray.empty, .int .i64 0, .string ByteArray.empty, .int .i64 0, .int .i64 0, .int .i64 0, .int .i64 0, .int .i64 0, .int .i64 0], .int .i64 0] 8 rfl (World.shaped_of_ZipB (by kernel_rfl) (by kernel_rfl)) (by kernel_rfl) (by kernel_rfl) (by kernel_rfl) (door_met os _)) ?_
  intro W base args ds gs before hval0 hW _ _ hL _
  have hval : ∀ (j : Nat) t v, Tryz.f3.params[j]? = some t → args[j]? = some v → Value.okWide Tryz.prog W .any base t v := hval0
  have hW' := hW
  obtain ⟨p, q, hA0, hV, rfl, hfz, hnd⟩ := hW
  have hA : DataW.TrodAll enc Tryz.prog W 0 (fun _ => true) true Tryz.f3.params.toList args.toList ds p := hA0
  rw [Tryz.params3] at hA hval
  obtain ⟨v0, vs0, d0, ds0, p0, q0, hargs, rfl, rfl, h0, r0⟩ := trodAll_cons hA
  obtain ⟨v1, vs1, d1, ds1, p1, q1, rfl, rfl, rfl, h1, r1⟩ := trodAll_cons r0
  obtain ⟨v2, vs2, d2, ds2, p2, q2, rfl, rfl, rfl, h2, r2⟩ := trodAll_cons r1
  obtain ⟨rfl, rfl, rfl⟩ := trodAll_nil r2
  obtain rfl : args = #[v0, v1, v2] := by cases args; simp_all
  obtain ⟨rfl, rfl⟩ := trodVars_none hV
  have k0 := h0
  have lt0 : ∀ x ∈ p0, x.block < W.heap.size := by obtain ⟨m, hm⟩ := k0; exact DataW.trod_lt m _ _ _ hm
  have k1 := h1
  have lt1 : ∀ x ∈ p1, x.block < W.heap.size := by obtain ⟨m, hm⟩ := k1; exact DataW.trod_lt m _ _ _ hm
  have k2 := h2
  have lt2 : ∀ x ∈ p2, x.block < W.heap.size := by obtain ⟨m, hm⟩ := k2; exact DataW.trod_lt m _ _ _ hm
  obtain ⟨a0, cap0, L0, rfl, i0, r0', c0, m0⟩ := open_ths (hval 0 22 v0 rfl rfl) h0
  obtain ⟨a1, rfl, w1⟩ := open_cm (hval 1 31 v1 rfl rfl) h1
  obtain ⟨a2, rfl, rfl, rfl, w2⟩ := open_int Tryz.underlying3 (hval 2 3 v2 rfl rfl) h2
  clear hA0 hval0
  refine (actTells_walk W (of_laid hL) a0 cap0 L0 i0 r0' c0 m0 a1 w1 a2 w2).mono fun e W' ⟨he, bel⟩ => ?_
  subst he
  exact ⟨_, rfl, _, _, _, [], _, [], hW', trodAll_mk1 (shut_bool Tryz.underlying4 _), (trodAll_cons_mk (Below.trod actTells_laidOut (by kernel_rfl) (of_decide_eq_true (by kernel_rfl)) k0 bel lt0) (trodAll_cons_mk (Below.trod actTells_laidOut (by kernel_rfl) (of_decide_eq_true (by kernel_rfl)) k1 bel lt1) (trodAll_cons_mk (Below.trod actTells_laidOut (by kernel_rfl) (of_decide_eq_true (by kernel_rfl)) k2 bel lt2) trodAll_mk0))), rfl, bel.frame _, fun h => by cases h⟩

theorem actTells_over : Rows.actTellsRow.holds Tryz.pinned (OpenSpec.ofChange Rows.actTellsSpec) :=
  OpenClaim.holds_of_wide 3 Tryz.f3 rfl rfl rfl rfl rfl rfl rfl ⟨rfl, rfl, rfl, rfl, rfl⟩ rfl rfl rfl rfl rfl (by kernel_rfl) Tryz.func3 (by kernel_rfl)
    (of_decide_eq_true (by kernel_rfl)) (by unfold Func.isWrapper; first | (rw [if_pos (by decide +kernel)]; kernel_rfl) | (rw [if_neg (by decide +kernel)]; exact ⟨rfl, rfl⟩))
    (fun os started H enc _ => actTells_lifted os started H enc)

theorem actTells_holds : Rows.ActTellsCardSaid :=
  Claim7.holds_tied_plain_at .later [] [.data] true (true, "1919ae3e01ed290595ecd728dedadbf3595aed4e12085d5cd48cf18869062282") false
    actTells_over (fun _ h => by cases h) (by kernel_rfl) (fun _ h => by cases h) actTells_row_tie rfl ⟨rfl, rfl⟩ (by kernel_rfl) rfl
    (fun f fn hf hfn => by
      obtain rfl : f = 3 := Option.some.inj ((show Tryz.prog.funcNamed "vedette/vedettelaw11.ActTells" = some 3 by kernel_rfl).symm.trans hf) |>.symm
      obtain rfl : fn = Tryz.f3 := (Option.some.inj (Tryz.func3.symm.trans hfn)).symm
      exact ⟨by kernel_rfl, fun j t ht => by
        rw [Tryz.params3] at ht
        have hm : t ∈ [22, 31, 3] := by simpa using Array.mem_of_getElem? ht
        have hall : ([22, 31, 3].all fun u => !Tryz.prog.wantsStandIn u) = true := by kernel_rfl
        exact (show Tryz.prog.wantsStandIn t = false by simpa using List.all_eq_true.1 hall t hm)⟩)
    (by kernel_rfl)
#print axioms actTells_holds
end Go.Proofs.YthmnbphpjmfckaaGreatDoor
