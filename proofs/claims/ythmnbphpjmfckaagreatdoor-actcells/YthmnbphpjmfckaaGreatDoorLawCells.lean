/- For every cell, every number of things, every point of the cell: so many are put into it and no more, a thing beside it moves in just while there is room, one within it moves. No conditions. -/
import Derived.Test.YthmnbphpjmfckaaGreatDoorAcC
import Derived.Test.YthmnbphpjmfckaaGreatDoorCO
import Derived.Test.YthmnbphpjmfckaaGreatDoorLaid
import Derived.Test.YthmnbphpjmfckaaGreatDoorCards
import Derived.Test.YthmnbphpjmfckaaGreatDoorTie
import Derived.SevenTiedAt
import Derived.ProofKit
import Derived.OpenShut
import Derived.ShutString
import Derived.ChangeOld
import Derived.Below
import Derived.SizedLaws
namespace Go.Proofs.YthmnbphpjmfckaaGreatDoor
open Go.ChangeShapes Go.WideShapes Go.ChangeAt Go.RowKit
open Go.ChangeMaps (open_string shut_string)
set_option linter.unusedVariables false

/-- the places of the statement: a point, its cell's first one, the first one of the cell beside it -/
theorem cells_places {c x y : Nat} {X Y U CX CY : Int} (hX : (c : Int) % 4 * 16 + (x : Int) % 16 = X) (hY : (c : Int) / 4 % 4 * 16 + (y : Int) % 16 = Y) (hCX : (c : Int) % 4 * 16 = CX) (hCY : (c : Int) / 4 % 4 * 16 = CY) (hU : (CX + 16) % 64 = U) :
    onB X Y = true ∧ onB U CY = true ∧ onB CX CY = true ∧ ¬ ofI U CY = ofI X Y ∧ ofI X Y = ofI CX CY := by
  have a : onB X Y = true := by rw [onB_iff]; omega
  have b : onB U CY = true := by rw [onB_iff]; omega
  have d : onB CX CY = true := by rw [onB_iff]; omega
  refine ⟨a, b, d, ?_, ?_⟩
  · rw [of_eq a b]; omega
  · rw [of_eq d a]; omega
set_option maxRecDepth 100000 in
set_option maxHeartbeats 4000000 in
theorem actCells_walk (w : World) (hL : Masks w) (a0 : Int) (w0 : (Lit.int .u8 a0).wf = true) (a1 : Int) (w1 : (Lit.int .u8 a1).wf = true) (a2 : Int) (w2 : (Lit.int .u8 a2).wf = true) (a3 : Int) (w3 : (Lit.int .u8 a3).wf = true) :
    Calls Tryz.prog 5 #[.int .u8 a0, .int .u8 a1, .int .u8 a2, .int .u8 a3] w fun e w' => e = .returned (.bool true) ∧ Below w.heap.size w w' := by
  obtain ⟨c, rfl, hc⟩ := nat_u8 w0
  obtain ⟨n, rfl, hn⟩ := nat_u8 w1
  obtain ⟨x, rfl, hx⟩ := nat_u8 w2
  obtain ⟨y, rfl, hy⟩ := nat_u8 w3
  clear w0 w1 w2 w3
  have CK := known11 w hL
  have HM := hid hL
  clear hL
  go_enter Tryz.func5, Tryz.ntmps5
  go_wp2_with fail
  refine CK.mono ?_
  rintro z W0 ⟨rfl, hb0⟩
  have HM0 := hid (HM.out.below hb0)
  clear CK HM
  go_upto_region 5 with fail
  obtain ⟨X, hX⟩ : ∃ X, (c : Int) % 4 * 16 + (x : Int) % 16 = X := ⟨_, rfl⟩
  obtain ⟨Y, hY⟩ : ∃ Y, (c : Int) / 4 % 4 * 16 + (y : Int) % 16 = Y := ⟨_, rfl⟩
  obtain ⟨CX, hCX⟩ : ∃ CX, (c : Int) % 4 * 16 = CX := ⟨_, rfl⟩
  obtain ⟨CY, hCY⟩ : ∃ CY, (c : Int) / 4 % 4 * 16 = CY := ⟨_, rfl⟩
  obtain ⟨U, hU⟩ : ∃ U, (CX + 16) % 64 = U := ⟨_, rfl⟩
  have HP := hid (cells_places hX hY hCX hCY hU)
  have hcx1 : 0 ≤ CX := by omega
  have hcx2 : CX < 64 := by omega
  rw [hX, hY, hCX, hCY]
  have hUt : (CX + 16).tmod 64 = U := by rw [Int.tmod_eq_emod_of_nonneg (by omega)]; exact hU
  have hUh := hid hU
  clear hX hY hCX hCY hx hy hc hU
  obtain ⟨W1, hW1⟩ : ∃ W1, W0.alloc (.cells #[.int .i64 X, .int .i64 Y] 24) = W1 := ⟨_, rfl⟩
  have hb1 : Below W0.heap.size W0 W1 := by rw [← hW1]; exact below1 _ _
  have P1 := hid (show W1.heap[W0.heap.size]? = some (.cells #[.int .i64 X, .int .i64 Y] 24 (0, 0)) by rw [← hW1]; exact new_at _ _ _ rfl)
  have HM1 := hid (HM0.out.below hb1)
  have hB1 := below_on hb0 hb1
  rw [hW1]
  clear hW1 HM0 hb0 hb1
  obtain ⟨pb, hpb⟩ : ∃ pb, W0.heap.size = pb := ⟨_, rfl⟩
  rw [hpb] at P1 ⊢
  clear hpb
  go_wp2_with fail
  with_reducible refine (tk_new HM1.out).mono ?_
  rintro z W2 ⟨tb, rfl, T2⟩
  clear HM1
  obtain ⟨KN, hKN⟩ : ∃ KN : Nat, n % 12 = KN := ⟨_, rfl⟩
  have hkn : KN < 12 := by omega
  have hKI : (n : Int) % 12 = (KN : Int) := by omega
  go_upto_region 8 with fail
  rw [hKI]
  clear hKI hKN hn
  have G2 : Hid (TK W1 W2 tb (CL X Y 0) []) := T2
  go_wp2_with fail
  go_loopw [14] (fun i wr => ∃ (k j : Nat), k ≤ KN ∧ j ≤ 8 ∧ i = .int .i64 (k : Nat) ∧ Hid ((k < 8 → j = k) ∧ (8 ≤ k → j = 8)) ∧ Hid (TK W1 wr tb (CL X Y j) [])) (fun i _ => KN - (intOf i).toNat)
  case atStart => exact ⟨0, 0, by omega, by omega, rfl, (show Hid _ from ⟨fun _ => rfl, fun h => by omega⟩), G2⟩
  case round =>
    obtain ⟨k, j, hk, hj8, rfl, hkj, T⟩ := hrel
    clear T2 G2
    have P := hid (var_on T.out.below P1.out (lt_of_at P1.out))
    by_cases hlt : k < KN
    · have hlt' : (k : Int) < (KN : Int) := by omega
      have cP := cells_at P.out
      by_cases h8 : k < 8
      · have h8' : (k : Int) < 8 := by omega
        obtain rfl := hkj.out.1 h8
        obtain ⟨f1, f2⟩ := CL_put HP.out.1 h8 T.out.good
        obtain ⟨N, hN⟩ : ∃ N, Hid (doN (CL X Y j) (cmPut X Y) (j : Int) = N) := ⟨_, rfl⟩
        have C := act_do (c := cmPut X Y) (id := (j : Int)) T.out cm_in0 (inI_small (by omega) (by omega)) hN (hid f1) (hid f2)
        clear f1 f2
        go_wp2_with fail
        with_reducible refine C.mono ?_
        rintro z W3 ⟨rfl, T3, -⟩
        have T3h := hid T3
        clear C T cP P T3
        go_wp2_with fail
        go_roundw
        case rel => exact ⟨j + 1, j + 1, by omega, by omega, by go_num, (show Hid _ from ⟨fun _ => rfl, fun h => by omega⟩), T3h⟩
        case measure => simp [intOf]; omega
      · have h8' : ¬ (k : Int) < 8 := by omega
        obtain rfl := hkj.out.2 (by omega)
        obtain ⟨f1, f2⟩ := CL_full HP.out.1 (k : Int)
        obtain ⟨N, hN⟩ : ∃ N, Hid (doN (CL X Y 8) (cmPut X Y) (k : Int) = N) := ⟨_, rfl⟩
        have C := act_do (c := cmPut X Y) (id := (k : Int)) T.out cm_in0 (inI_small (by omega) (by omega)) hN (hid f1) (hid f2)
        clear f1 f2
        go_wp2_with fail
        with_reducible refine C.mono ?_
        rintro z W3 ⟨rfl, T3, -⟩
        have T3h := hid T3
        clear C T cP P T3
        go_wp2_with fail
        go_roundw
        case rel => exact ⟨k + 1, 8, by omega, by omega, by go_num, (show Hid _ from ⟨fun h => by omega, fun _ => rfl⟩), T3h⟩
        case measure => simp [intOf]; omega
    · obtain rfl : k = KN := by omega
      have hlt' : ¬ (k : Int) < (k : Int) := by omega
      obtain ⟨p1, p2, p3, p4, p5⟩ := HP.out
      obtain ⟨L2, f1, f2, f3⟩ := CL_all hj8 p1 p2 p3 p4 p5 T.out.good
      have F1 := hid f1
      have F2 := hid f2
      have F3 := hid f3
      clear f1 f2 f3 p1 p2 p3 p4 p5
      obtain ⟨N1, hN1⟩ : ∃ N, Hid (doN (CL X Y j) (cmPut U CY) 100 = N) := ⟨_, rfl⟩
      obtain ⟨W4, hW4⟩ : ∃ W4, wr.alloc (.cells #[.int .i64 U, .int .i64 CY] 24) = W4 := ⟨_, rfl⟩
      have hb4 : Below wr.heap.size wr W4 := by rw [← hW4]; exact below1 _ _
      have Q4 := hid (show W4.heap[wr.heap.size]? = some (.cells #[.int .i64 U, .int .i64 CY] 24 (0, 0)) by rw [← hW4]; exact new_at _ _ _ rfl)
      have T4 := hid (T.out.later hb4)
      have HW4 := hid hW4
      clear hW4 hb4 T P
      go_upto_region 14 with fail
      rw [HW4.out]
      clear HW4
      obtain ⟨ob7, hob⟩ : ∃ ob7, wr.heap.size = ob7 := ⟨_, rfl⟩
      rw [hob] at Q4 ⊢
      clear hob
      have cQ := cells_at Q4.out
      go_wp2_with fail
      with_reducible refine (act_do (c := cmPut U CY) (id := 100) T4.out cm_in0 (inI_small (by decide) (by decide)) hN1 F1 F2).mono ?_
      rintro z W5 ⟨rfl, T5, -⟩
      obtain ⟨L3, g1, g2, g3⟩ := F3.out T5.good
      have T5h := hid T5
      have G1 := hid g1
      have G2 := hid g2
      have G3 := hid g3
      clear g1 g2 g3 T4 Q4 cQ T5 F1 F2 F3 hN1
      obtain ⟨N2, hN2⟩ : ∃ N, Hid (doN L2 (cmMove 100 X Y) 0 = N) := ⟨_, rfl⟩
      obtain ⟨G, hG⟩ : ∃ G : Int, Hid ((if j < 8 then 0 else 16) = G) := ⟨_, rfl⟩
      rw [hG.out] at G1
      have P5 := hid (var_on T5h.out.below P1.out (lt_of_at P1.out))
      have cP := cells_at P5.out
      go_wp2_with fail
      with_reducible refine (act_do (c := cmMove 100 X Y) (id := 0) T5h.out cm_in0 (inI_small (by decide) (by decide)) hN2 G1 G2).mono ?_
      rintro z W6 ⟨rfl, T6, -⟩
      have g3 := G3.out T6.good
      have T6h := hid T6
      have G4 := hid g3
      clear g3 G1 G2 G3 T5h T6 cP P5 hN2
      obtain ⟨N3, hN3⟩ : ∃ N, Hid (doN L3 (cmMove 0 CX CY) 0 = N) := ⟨_, rfl⟩
      obtain ⟨L4, hL4⟩ : ∃ L, Hid (doL L3 (cmMove 0 CX CY) 0 = L) := ⟨_, rfl⟩
      obtain ⟨H, hH⟩ : ∃ G : Int, Hid ((if 0 < j then 0 else 15) = G) := ⟨_, rfl⟩
      rw [hH.out] at G4
      go_wp2_with fail
      with_reducible refine (act_do (c := cmMove 0 CX CY) (id := 0) T6h.out cm_in0 (inI_small (by decide) (by decide)) hN3 G4 hL4).mono ?_
      rintro z W7 ⟨rfl, T7, -⟩
      have hB7 := below_on hB1 T7.below
      clear T7 T6h G4 hN3 hL4
      by_cases k8 : k < 8
      · have k8' : (k : Int) < 8 := by omega
        obtain rfl := hkj.out.1 k8
        obtain rfl : 0 = G := by rw [← hG.out, if_pos k8]
        by_cases k0 : 0 < j
        · have k0' : (0 : Int) < (j : Int) := by omega
          obtain rfl : 0 = H := by rw [← hH.out, if_pos k0]
          clear hG hH hkj k8
          go_wp2_with fail
          go_ret
          exact ⟨rfl, hB7⟩
        · have k0' : ¬ (0 : Int) < (j : Int) := by omega
          obtain rfl : 15 = H := by rw [← hH.out, if_neg k0]
          clear hG hH hkj k8
          go_wp2_with fail
          go_ret
          exact ⟨rfl, hB7⟩
      · have k8' : ¬ (k : Int) < 8 := by omega
        have k0' : (0 : Int) < (k : Int) := by omega
        obtain rfl := hkj.out.2 (by omega)
        obtain rfl : 16 = G := by rw [← hG.out]; rfl
        obtain rfl : 0 = H := by rw [← hH.out]; rfl
        clear hG hH hkj k8
        go_wp2_with fail
        go_ret
        exact ⟨by simp; omega, hB7⟩

theorem actCells_own : ownKnob Tryz.prog.godebug = none := by kernel_rfl
theorem actCells_laidOut : laidOutB Tryz.prog = true := by kernel_rfl
set_option maxRecDepth 100000 in
theorem actCells_lifted (os : Os) (started : os.Started) (H : Type) (enc : TypeId × Value → H) :
    ReturnsInHanded {} Tryz.checked os 5 .any (fun w args => (Rows.actCellsSpec.pre enc Tryz.prog Tryz.f5 [] false w args ∧ laidMetH Tryz.prog laids w) ∧ sizedMet enc Tryz.prog Tryz.f5 (OpenSpec.ofChange Rows.actCellsSpec) false w args) (Rows.actCellsSpec.post enc Tryz.prog Tryz.f5 false true false false) := by
  refine returnsInHanded_of_change_and (C := Tryz.checked) (X := fun w _ => laidMetH Tryz.prog laids w) (fun _ _ _ hh h => h.of_heap hh) own_knob started (by kernel_rfl) Tryz.func5
    (ChangeSpec.witness_shaped (enc := enc) (C := Tryz.checked) (os := os) (X := fun w _ => laidMetH Tryz.prog laids w) false (World.laidAll Tryz.prog os laids) #[.int .u8 0, .int .u8 0, .int .u8 0, .int .u8 0] 8 rfl (World.shaped_of_ZipB (by kernel_rfl) (by kernel_rfl)) (by kernel_rfl) (by kernel_rfl) (by kernel_rfl) (door_met os _)) ?_
  intro W base args ds gs before hval0 hW _ _ hL _
  have hval : ∀ (j : Nat) t v, Tryz.f5.params[j]? = some t → args[j]? = some v → Value.okWide Tryz.prog W .any base t v := hval0
  have hW' := hW
  obtain ⟨p, q, hA0, hV, rfl, hfz, hnd⟩ := hW
  have hA : DataW.TrodAll enc Tryz.prog W 0 (fun _ => true) true Tryz.f5.params.toList args.toList ds p := hA0
  rw [Tryz.params5] at hA hval
  obtain ⟨v0, vs0, d0, ds0, p0, q0, hargs, rfl, rfl, h0, r0⟩ := trodAll_cons hA
  obtain ⟨v1, vs1, d1, ds1, p1, q1, rfl, rfl, rfl, h1, r1⟩ := trodAll_cons r0
  obtain ⟨v2, vs2, d2, ds2, p2, q2, rfl, rfl, rfl, h2, r2⟩ := trodAll_cons r1
  obtain ⟨v3, vs3, d3, ds3, p3, q3, rfl, rfl, rfl, h3, r3⟩ := trodAll_cons r2
  obtain ⟨rfl, rfl, rfl⟩ := trodAll_nil r3
  obtain rfl : args = #[v0, v1, v2, v3] := by cases args; simp_all
  obtain ⟨rfl, rfl⟩ := trodVars_none hV
  have k0 := h0
  have lt0 : ∀ x ∈ p0, x.block < W.heap.size := by obtain ⟨m, hm⟩ := k0; exact DataW.trod_lt m _ _ _ hm
  have k1 := h1
  have lt1 : ∀ x ∈ p1, x.block < W.heap.size := by obtain ⟨m, hm⟩ := k1; exact DataW.trod_lt m _ _ _ hm
  have k2 := h2
  have lt2 : ∀ x ∈ p2, x.block < W.heap.size := by obtain ⟨m, hm⟩ := k2; exact DataW.trod_lt m _ _ _ hm
  have k3 := h3
  have lt3 : ∀ x ∈ p3, x.block < W.heap.size := by obtain ⟨m, hm⟩ := k3; exact DataW.trod_lt m _ _ _ hm
  obtain ⟨a0, rfl, rfl, rfl, w0⟩ := open_int Tryz.underlying5 (hval 0 5 v0 rfl rfl) h0
  obtain ⟨a1, rfl, rfl, rfl, w1⟩ := open_int Tryz.underlying5 (hval 1 5 v1 rfl rfl) h1
  obtain ⟨a2, rfl, rfl, rfl, w2⟩ := open_int Tryz.underlying5 (hval 2 5 v2 rfl rfl) h2
  obtain ⟨a3, rfl, rfl, rfl, w3⟩ := open_int Tryz.underlying5 (hval 3 5 v3 rfl rfl) h3
  clear hA0 hval0
  refine (actCells_walk W (of_laid hL) a0 w0 a1 w1 a2 w2 a3 w3).mono fun e W' ⟨he, bel⟩ => ?_
  subst he
  exact ⟨_, rfl, _, _, _, [], _, [], hW', trodAll_mk1 (shut_bool Tryz.underlying4 _), (trodAll_cons_mk (Below.trod actCells_laidOut (by kernel_rfl) (of_decide_eq_true (by kernel_rfl)) k0 bel lt0) (trodAll_cons_mk (Below.trod actCells_laidOut (by kernel_rfl) (of_decide_eq_true (by kernel_rfl)) k1 bel lt1) (trodAll_cons_mk (Below.trod actCells_laidOut (by kernel_rfl) (of_decide_eq_true (by kernel_rfl)) k2 bel lt2) (trodAll_cons_mk (Below.trod actCells_laidOut (by kernel_rfl) (of_decide_eq_true (by kernel_rfl)) k3 bel lt3) trodAll_mk0)))), rfl, bel.frame _, fun h => by cases h⟩

theorem actCells_over : Rows.actCellsRow.holds Tryz.pinned (OpenSpec.ofChange Rows.actCellsSpec) :=
  OpenClaim.holds_of_wide 5 Tryz.f5 rfl rfl rfl rfl rfl rfl rfl ⟨rfl, rfl, rfl, rfl, rfl⟩ rfl rfl rfl rfl rfl (by kernel_rfl) Tryz.func5 (by kernel_rfl)
    (of_decide_eq_true (by kernel_rfl)) (by unfold Func.isWrapper; first | (rw [if_pos (by decide +kernel)]; kernel_rfl) | (rw [if_neg (by decide +kernel)]; exact ⟨rfl, rfl⟩))
    (fun os started H enc _ => actCells_lifted os started H enc)

theorem actCells_holds : Rows.ActCellsCardSaid :=
  Claim7.holds_tied_plain_at .later [] [.data] true (true, "1919ae3e01ed290595ecd728dedadbf3595aed4e12085d5cd48cf18869062282") false
    actCells_over (fun _ h => by cases h) (by kernel_rfl) (fun _ h => by cases h) actCells_row_tie rfl ⟨rfl, rfl⟩ (by kernel_rfl) rfl
    (fun f fn hf hfn => by
      obtain rfl : f = 5 := Option.some.inj ((show Tryz.prog.funcNamed "vedette/vedettelaw11.ActCells" = some 5 by kernel_rfl).symm.trans hf) |>.symm
      obtain rfl : fn = Tryz.f5 := (Option.some.inj (Tryz.func5.symm.trans hfn)).symm
      exact ⟨by kernel_rfl, fun j t ht => by
        rw [Tryz.params5] at ht
        have hm : t ∈ [5, 5, 5, 5] := by simpa using Array.mem_of_getElem? ht
        have hall : ([5, 5, 5, 5].all fun u => !Tryz.prog.wantsStandIn u) = true := by kernel_rfl
        exact (show Tryz.prog.wantsStandIn t = false by simpa using List.all_eq_true.1 hall t hm)⟩)
    (by kernel_rfl)
#print axioms actCells_holds
end Go.Proofs.YthmnbphpjmfckaaGreatDoor
