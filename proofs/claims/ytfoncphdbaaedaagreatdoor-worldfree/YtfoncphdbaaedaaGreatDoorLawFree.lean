/- For every two numbers: so many things are put to one place of the world, another one is put elsewhere and moves there; none is refused, and all are seen there. No conditions. -/
import Derived.Test.YtfoncphdbaaedaaGreatDoorWdC
import Derived.Test.YtfoncphdbaaedaaGreatDoorAcT
import Derived.Test.YtfoncphdbaaedaaGreatDoorLaid
import Derived.Test.YtfoncphdbaaedaaGreatDoorLaid
import Derived.Test.YtfoncphdbaaedaaGreatDoorCards
import Derived.Test.YtfoncphdbaaedaaGreatDoorTie
import Derived.SevenTiedAt
import Derived.ProofKit
import Derived.OpenShut
import Derived.ShutString
import Derived.ChangeOld
import Derived.Below
import Derived.SizedLaws
namespace Go.Proofs.YtfoncphdbaaedaaGreatDoor
open Go.ChangeShapes Go.WideShapes Go.ChangeAt Go.RowKit
open Go.ChangeMaps (open_string shut_string)
set_option linter.unusedVariables false

set_option maxRecDepth 100000 in
set_option maxHeartbeats 4000000 in
theorem worldFree_walk (w : World) (hL : Masks w) (a0 : Int) (w0 : (Lit.int .u8 a0).wf = true) (a1 : Int) (w1 : (Lit.int .u8 a1).wf = true) :
    Calls Tryz.prog 5 #[.int .u8 a0, .int .u8 a1] w fun e w' => e = .returned (.bool true) ∧ Below w.heap.size w w' := by
  obtain ⟨n, rfl, hn⟩ := nat_u8 w0
  obtain ⟨p, rfl, hp⟩ := nat_u8 w1
  clear w0 w1
  have CK := known12 w hL
  have HM := hid hL
  clear hL
  go_enter Tryz.func5, Tryz.ntmps5
  go_wp2_with fail
  refine CK.mono ?_
  rintro z W0 ⟨rfl, hb0⟩
  have HM0 := hid (HM.out.below hb0)
  clear CK HM
  go_wp2_with fail
  with_reducible refine (wd_new HM0.out).mono ?_
  rintro z W1 ⟨wb, rfl, T1⟩
  obtain ⟨KN, hKN⟩ : ∃ KN : Nat, n % 40 + 8 = KN := ⟨_, rfl⟩
  have hkn : KN < 48 := by omega
  have hKI : (n : Int) % 40 + 8 = (KN : Int) := by omega
  obtain ⟨X, hX⟩ : ∃ X : Int, (p : Int) % 64 = X := ⟨_, rfl⟩
  obtain ⟨Y, hY⟩ : ∃ Y : Int, (p : Int) / 4 = Y := ⟨_, rfl⟩
  have hx0 : 0 ≤ X := by omega
  have hx1 : X < 64 := by omega
  have hy0 : 0 ≤ Y := by omega
  have hy1 : Y < 64 := by omega
  have HO := hid (show onB X Y = true from by rw [onB_iff]; exact ⟨hx0, hx1, hy0, hy1⟩)
  clear HM0
  go_upto_region 6 with fail
  try rw [hKI]
  try rw [hX]
  try rw [hY]
  clear hKI hX hY hKN hn hp
  obtain ⟨W2, hW2⟩ : ∃ W2, W1.alloc (.cells #[.int .i64 X, .int .i64 Y] 32) = W2 := ⟨_, rfl⟩
  have hb2 : Below W1.heap.size W1 W2 := by rw [← hW2]; exact below1 _ _
  have P2 := hid (show W2.heap[W1.heap.size]? = some (.cells #[.int .i64 X, .int .i64 Y] 32 (0, 0)) by rw [← hW2]; exact new_at _ _ _ rfl)
  have T2' := hid (T1.also hb2 (Nat.le_refl _) (lt_of_at P2.out))
  try rw [hW2]
  clear hW2 hb2 T1
  obtain ⟨pb, hpb⟩ : ∃ pb, W1.heap.size = pb := ⟨_, rfl⟩
  rw [hpb] at P2 T2' ⊢
  clear hpb
  have G2 : Hid (TK W0 W2 wb (CL X Y 0) [pb]) := T2'
  clear T2'
  go_wp2_with fail
  go_loopw [8] (fun i wr => ∃ k : Nat, k ≤ KN ∧ i = .int .i64 (k : Nat) ∧ Hid (TK W0 wr wb (CL X Y k) [pb]) ∧ Hid (wr.heap[pb]? = some (.cells #[.int .i64 X, .int .i64 Y] 32 (0, 0)))) (fun i _ => KN - (intOf i).toNat)
  case atStart => exact ⟨0, by omega, rfl, G2, P2⟩
  case round =>
    obtain ⟨k, hk, rfl, T, P⟩ := hrel
    clear G2 P2
    by_cases hlt : k < KN
    · have hlt' : (k : Int) < (KN : Int) := by omega
      have cP := cells_at P.out
      obtain ⟨f1, f2⟩ := CL_put HO.out (j := k) (by omega) T.out.good
      obtain ⟨N, hN⟩ : ∃ N, Hid (wdN (CL X Y k) (cmPut X Y) (k : Int) = N) := ⟨_, rfl⟩
      have C := wd_do (c := cmPut X Y) (id := (k : Int)) T.out cm_in0 (inI_small (by omega) (by omega)) hN (hid f1) (hid f2)
      clear f1 f2
      go_wp2_with fail
      with_reducible refine C.mono ?_
      rintro z W3 ⟨rfl, T3, hK3⟩
      have P3 := hid (hK3.at (g := pb) (by simp) P.out)
      have T3h := hid T3
      clear C T cP P T3 hK3
      go_wp2_with fail
      go_roundw
      case rel => exact ⟨k + 1, by omega, by go_num, T3h, P3⟩
      case measure => simp [intOf]; omega
    · obtain rfl : k = KN := by omega
      have hlt' : ¬ (k : Int) < (k : Int) := by omega
      obtain ⟨U, hU⟩ : ∃ U : Int, 63 - X = U := ⟨_, rfl⟩
      obtain ⟨V, hV⟩ : ∃ V : Int, 63 - Y = V := ⟨_, rfl⟩
      have hOU : onB U V = true := by rw [onB_iff]; omega
      obtain ⟨f1, f2⟩ := CM_put (x := X) (y := Y) (k := k) hOU (by omega) T.out.good
      obtain ⟨N, hN⟩ : ∃ N, Hid (wdN (CL X Y k) (cmPut U V) 999 = N) := ⟨_, rfl⟩
      have C := wd_do (c := cmPut U V) (id := 999) T.out cm_in0 (inI_small (by omega) (by omega)) hN (hid f1) (hid f2)
      have cP := cells_at P.out
      clear f1 f2
      go_upto_region 12 with fail
      go_wp2_with fail
      try rw [hU]
      try rw [hV]
      clear hU hV hOU
      with_reducible refine C.mono ?_
      rintro z W3 ⟨rfl, T3, hK3⟩
      have P3 := hid (hK3.at (g := pb) (by simp) P.out)
      have T3h := hid T3
      clear C T cP P T3 hK3
      obtain ⟨f1, f2⟩ := CM_move (x := X) (y := Y) (k := k) HO.out (by omega) T3h.out.good
      obtain ⟨N2, hN2⟩ : ∃ N, Hid (wdN (CM X Y k U V) (cmMove 999 X Y) 0 = N) := ⟨_, rfl⟩
      have C := wd_do (c := cmMove 999 X Y) (id := 0) T3h.out cm_in0 (inI_small (by omega) (by omega)) hN2 (hid f1) (hid f2)
      have cP := cells_at P3.out
      clear f1 f2
      go_wp2_with fail
      with_reducible refine C.mono ?_
      rintro z W4 ⟨rfl, T4, hK4⟩
      have P4 := hid (hK4.at (g := pb) (by simp) P3.out)
      have T4h := hid T4
      clear C T3h cP P3 T4 hK4
      have cP := cells_at P4.out
      obtain ⟨m, hm⟩ : ∃ m, Hid ((CM X Y k X Y).length = m) := ⟨_, rfl⟩
      have hmk : ((m : Int) == (k : Int) + 1) = true := by
        have : m = k + 1 := by rw [← hm.out]; exact CM_len _ _ _ _ _
        subst this; simp
      have C := wd_see T4h.out X Y (X + 1) (Y + 1) (hid CM_see) hm
      go_wp2_with fail
      with_reducible refine C.mono ?_
      rintro z W5 ⟨p5, c5, rfl, -, hb5⟩
      have T5 := hid (T4h.out.later hb5)
      clear C cP T4h P4 hb5
      go_wp2_with fail
      with_reducible refine (wd_len T5.out hm).mono ?_
      rintro z W6 ⟨rfl, hw⟩
      rw [hw]
      clear hw W6
      have hB := below_on hb0 T5.out.below
      go_wp2
      go_ret
      exact ⟨rfl, hB⟩

theorem worldFree_own : ownKnob Tryz.prog.godebug = none := by kernel_rfl
theorem worldFree_laidOut : laidOutB Tryz.prog = true := by kernel_rfl
set_option maxRecDepth 100000 in
theorem worldFree_lifted (os : Os) (started : os.Started) (H : Type) (enc : TypeId × Value → H) :
    ReturnsInHanded {} Tryz.checked os 5 .any (fun w args => (Rows.worldFreeSpec.pre enc Tryz.prog Tryz.f5 [] false w args ∧ laidMetH Tryz.prog laids w) ∧ sizedMet enc Tryz.prog Tryz.f5 (OpenSpec.ofChange Rows.worldFreeSpec) false w args) (Rows.worldFreeSpec.post enc Tryz.prog Tryz.f5 false true false false) := by
  refine returnsInHanded_of_change_and (C := Tryz.checked) (X := fun w _ => laidMetH Tryz.prog laids w) (fun _ _ _ hh h => h.of_heap hh) own_knob started (by kernel_rfl) Tryz.func5
    (ChangeSpec.witness_shaped (enc := enc) (C := Tryz.checked) (os := os) (X := fun w _ => laidMetH Tryz.prog laids w) false (World.laidAll Tryz.prog os laids) #[.int .u8 0, .int .u8 0] 8 rfl (World.shaped_of_ZipB (by kernel_rfl) (by kernel_rfl)) (by kernel_rfl) (by kernel_rfl) (by kernel_rfl) (door_met os _)) ?_
  intro W base args ds gs before hval0 hW _ _ hL _
  have hval : ∀ (j : Nat) t v, Tryz.f5.params[j]? = some t → args[j]? = some v → Value.okWide Tryz.prog W .any base t v := hval0
  have hW' := hW
  obtain ⟨p, q, hA0, hV, rfl, hfz, hnd⟩ := hW
  have hA : DataW.TrodAll enc Tryz.prog W 0 (fun _ => true) true Tryz.f5.params.toList args.toList ds p := hA0
  rw [Tryz.params5] at hA hval
  obtain ⟨v0, vs0, d0, ds0, p0, q0, hargs, rfl, rfl, h0, r0⟩ := trodAll_cons hA
  obtain ⟨v1, vs1, d1, ds1, p1, q1, rfl, rfl, rfl, h1, r1⟩ := trodAll_cons r0
  obtain ⟨rfl, rfl, rfl⟩ := trodAll_nil r1
  obtain rfl : args = #[v0, v1] := by cases args; simp_all
  obtain ⟨rfl, rfl⟩ := trodVars_none hV
  have k0 := h0
  have lt0 : ∀ x ∈ p0, x.block < W.heap.size := by obtain ⟨m, hm⟩ := k0; exact DataW.trod_lt m _ _ _ hm
  have k1 := h1
  have lt1 : ∀ x ∈ p1, x.block < W.heap.size := by obtain ⟨m, hm⟩ := k1; exact DataW.trod_lt m _ _ _ hm
  obtain ⟨a0, rfl, rfl, rfl, w0⟩ := open_int Tryz.underlying5 (hval 0 5 v0 rfl rfl) h0
  obtain ⟨a1, rfl, rfl, rfl, w1⟩ := open_int Tryz.underlying5 (hval 1 5 v1 rfl rfl) h1
  clear hA0 hval0
  refine (worldFree_walk W (of_laid hL) a0 w0 a1 w1).mono fun e W' ⟨he, bel⟩ => ?_
  subst he
  exact ⟨_, rfl, _, _, _, [], _, [], hW', trodAll_mk1 (shut_bool Tryz.underlying4 _), (trodAll_cons_mk (Below.trod worldFree_laidOut (by kernel_rfl) (of_decide_eq_true (by kernel_rfl)) k0 bel lt0) (trodAll_cons_mk (Below.trod worldFree_laidOut (by kernel_rfl) (of_decide_eq_true (by kernel_rfl)) k1 bel lt1) trodAll_mk0)), rfl, bel.frame _, fun h => by cases h⟩

theorem worldFree_over : Rows.worldFreeRow.holds Tryz.pinned (OpenSpec.ofChange Rows.worldFreeSpec) :=
  OpenClaim.holds_of_wide 5 Tryz.f5 rfl rfl rfl rfl rfl rfl rfl ⟨rfl, rfl, rfl, rfl, rfl⟩ rfl rfl rfl rfl rfl (by kernel_rfl) Tryz.func5 (by kernel_rfl)
    (of_decide_eq_true (by kernel_rfl)) (by unfold Func.isWrapper; first | (rw [if_pos (by decide +kernel)]; kernel_rfl) | (rw [if_neg (by decide +kernel)]; exact ⟨rfl, rfl⟩))
    (fun os started H enc _ => worldFree_lifted os started H enc)

theorem worldFree_holds : Rows.WorldFreeCardSaid :=
  Claim7.holds_tied_plain_at .later [] [.data] true (true, "dedd6cb34770d93af0edbf2928e7be5c3a09ebc128949375eb309686618b9df1") true
    worldFree_over (fun _ h => by cases h) (by kernel_rfl) (fun _ h => by cases h) worldFree_row_tie rfl ⟨rfl, rfl⟩ (by kernel_rfl) rfl
    (fun f fn hf hfn => by
      obtain rfl : f = 5 := Option.some.inj ((show Tryz.prog.funcNamed "vedette/vedettelaw12.WorldFree" = some 5 by kernel_rfl).symm.trans hf) |>.symm
      obtain rfl : fn = Tryz.f5 := (Option.some.inj (Tryz.func5.symm.trans hfn)).symm
      exact ⟨by kernel_rfl, fun j t ht => by
        rw [Tryz.params5] at ht
        have hm : t ∈ [5, 5] := by simpa using Array.mem_of_getElem? ht
        have hall : ([5, 5].all fun u => !Tryz.prog.wantsStandIn u) = true := by kernel_rfl
        exact (show Tryz.prog.wantsStandIn t = false by simpa using List.all_eq_true.1 hall t hm)⟩)
    (by kernel_rfl)
#print axioms worldFree_holds
end Go.Proofs.YtfoncphdbaaedaaGreatDoor
