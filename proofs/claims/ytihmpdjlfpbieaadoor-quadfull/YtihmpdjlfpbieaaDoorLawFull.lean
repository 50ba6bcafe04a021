/- QuadFull holds (tied card): as many as there may be, and one more; behind a drop there is room; the package's table of masks starts as the program's text lays it. -/
import Derived.Test.YtihmpdjlfpbieaaDoorKnown8
import Derived.Test.YtihmpdjlfpbieaaDoorQdZ
import Derived.Test.YtihmpdjlfpbieaaDoorLaid
import Derived.Test.YtihmpdjlfpbieaaDoorCards
import Derived.Test.YtihmpdjlfpbieaaDoorTie
import Derived.SevenTiedAt
import Derived.ProofKit
import Derived.OpenShut
import Derived.ShutString
import Derived.ChangeOld
import Derived.Below
import Derived.SizedLaws
namespace Go.Proofs.YtihmpdjlfpbieaaDoor
open Go.ChangeShapes Go.WideShapes Go.ChangeAt Go.RowKit
open Go.ChangeMaps (open_string shut_string)
set_option linter.unusedVariables false

set_option maxRecDepth 100000 in
set_option maxHeartbeats 2000000 in
theorem quadFull_walk (w : World) (hL : Masks w) (a0 : Int) (w0 : (Lit.int .u8 a0).wf = true) (a1 : Int) (w1 : (Lit.int .u16 a1).wf = true) :
    Calls Tryd.prog 5 #[.int .u8 a0, .int .u16 a1] w fun e w' => e = .returned (.bool true) ∧ Below w.heap.size w w' := by
  obtain ⟨m, rfl, hm⟩ := nat_u8 w0
  obtain ⟨s, rfl, hs⟩ := nat_u16 w1
  clear w0 w1
  have CK := known8 w hL
  have HM := hid hL
  clear hL
  go_enter Tryd.func5, Tryd.ntmps5
  go_wp2_with fail
  refine CK.mono ?_
  rintro z W0 ⟨rfl, hb0⟩
  have HM0 := hid (HM.out.below hb0)
  clear CK HM
  go_wp2_with fail
  refine (tf_new HM0.out).mono ?_
  rintro z W1 ⟨rfl, T1⟩
  clear HM0
  go_wp2_with fail
  go_loopw [6] (fun i wr => ∃ k : Nat, k ≤ 200 ∧ i = .int .i64 (k : Nat) ∧ TF W0 wr W0.heap.size (FL s k) []) (fun i _ => 200 - (intOf i).toNat)
  case atStart => exact ⟨0, by omega, rfl, T1⟩
  case round =>
    obtain ⟨k, hk, rfl, T⟩ := hrel
    clear T1
    by_cases hlt : k < 200
    · have hlt' : (k : Int) < 200 := by omega
      obtain ⟨f1, f2⟩ := FL_put (s := s) hlt
      have C := tf_put T (by rw [FL_len]; omega) (k : Nat) ((k * 7 + s) % 64 : Nat) ((k * 13 + s / 64) % 64 : Nat)
      rw [f1, f2] at C
      clear f1 f2
      have e1 : ((k : Int) * 7 + (s : Int)).tmod 64 = (((k * 7 + s) % 64 : Nat) : Int) := by rw [Int.tmod_eq_emod_of_nonneg (by omega)]; omega
      have e2 : (s : Int).tdiv 64 = ((s / 64 : Nat) : Int) := by rw [Int.tdiv_eq_ediv_of_nonneg (by omega)]; omega
      have e3 : ((k : Int) * 13 + ((s / 64 : Nat) : Int)).tmod 64 = (((k * 13 + s / 64) % 64 : Nat) : Int) := by rw [Int.tmod_eq_emod_of_nonneg (by omega)]; omega
      have hq : s / 64 < 1024 := by omega
      obtain ⟨x, hx⟩ : ∃ x : Nat, (k * 7 + s) % 64 = x := ⟨_, rfl⟩
      obtain ⟨y, hy⟩ : ∃ y : Nat, (k * 13 + s / 64) % 64 = y := ⟨_, rfl⟩
      obtain ⟨q, hq'⟩ : ∃ q : Nat, s / 64 = q := ⟨_, rfl⟩
      rw [hx, hy] at C
      rw [hx] at e1
      rw [hy] at e3
      rw [hq'] at e2 e3 hq
      clear hx hy hq'
      go_wp2_with fail
      refine C.mono ?_
      rintro z W2 ⟨rfl, T2, -⟩
      clear C T
      go_wp2_with fail
      go_roundw
      case rel => exact ⟨k + 1, by omega, by go_num, T2⟩
      case measure => simp [intOf]; omega
    · obtain rfl : k = 200 := by omega
      have hlt' : ¬ ((200 : Nat) : Int) < 200 := by omega
      obtain ⟨f1, f2⟩ := put_full (id := 1000) (x := 0) (y := 0) (L := FL s 200) (by decide) (by decide) (fun a ha => by have := (FL_mem ha).2.1; omega) (by rw [FL_len]; exact Nat.le_refl _)
      have C := tf_put T (by rw [FL_len]; omega) 1000 0 0
      rw [f1, f2] at C
      clear f1 f2
      go_wp2_with fail
      refine C.mono ?_
      rintro z W2 ⟨rfl, T2, -⟩
      clear C T
      have e1 : (m : Int).tmod 200 = ((m % 200 : Nat) : Int) := by rw [Int.tmod_eq_emod_of_nonneg (by omega)]; omega
      have hml : m % 200 < 200 := Nat.mod_lt _ (by decide)
      obtain ⟨j, hj⟩ : ∃ j : Nat, m % 200 = j := ⟨_, rfl⟩
      rw [hj] at e1 hml
      clear hj
      obtain ⟨f1, f2, f3⟩ := drop_one (FL_has (s := s) (k := 200) hml)
      have C := tf_drop T2 (by rw [FL_len]; omega) (j : Nat)
      rw [f1] at C
      obtain ⟨M, hM⟩ : ∃ M, rdrS (j : Nat) (FL s 200) = M := ⟨_, rfl⟩
      rw [hM] at C f2 f3
      rw [FL_len] at f2
      clear f1 hM
      have g1 : ∀ a ∈ M, a.id < 1000 ∧ onB a.x a.y = true := fun a ha => by
        obtain ⟨h1, h2, h3⟩ := FL_mem (f3 a ha)
        exact ⟨by omega, h3⟩
      have G1 := hid g1
      have F2 := hid f2
      clear g1 f3 f2
      go_wp2_with fail
      refine C.mono ?_
      rintro z W3 ⟨rfl, T3, -⟩
      clear C T2
      obtain ⟨f1, f2⟩ := put_end (id := 1000) (x := 0) (y := 0) (L := M) (by decide) (by decide) (fun a ha => (G1.out a ha).1) (by have := F2.out; omega)
      have C := tf_put T3 (by have := F2.out; omega) 1000 0 0
      rw [f1, f2] at C
      clear f1 f2
      go_wp2_with fail
      refine C.mono ?_
      rintro z W4 ⟨rfl, T4, -⟩
      clear C T3
      have l4 : Hid ((M ++ [(⟨1000, 0, 0⟩ : Mk)]).length = 200) := by show _ = _; rw [List.length_append]; have := F2.out; simp; omega
      have r4 : Hid ((rinL (M ++ [(⟨1000, 0, 0⟩ : Mk)]) ⟨0, 0, 64, 64⟩).length = 200) := by
        show _ = _
        rw [rin_whole, l4.out]
        intro a ha
        rcases List.mem_append.1 ha with ha | ha
        · exact (G1.out a ha).2
        · rw [List.mem_singleton.1 ha]; decide
      go_wp2_with fail
      refine (tf_len T4 l4).mono ?_
      rintro z W5 ⟨rfl, hw⟩
      rw [hw]
      clear hw
      go_wp2_with fail
      obtain ⟨R, hR⟩ : ∃ R, Hid (rinL (M ++ [(⟨1000, 0, 0⟩ : Mk)]) ⟨0, 0, 64, 64⟩ = R) := ⟨_, rfl⟩
      have C := tf_in T4 (by rw [l4.out]; decide) 0 0 64 64 hR
      rw [hR.out] at r4
      rw [r4.out] at C
      refine C.mono ?_
      rintro z W6 ⟨p, cap, rfl, hown, hb6⟩
      have hB := (T4.later hb6).below
      clear C T4 hown hb6
      go_wp2
      go_ret
      exact ⟨rfl, below_on hb0 hB⟩

theorem quadFull_own : ownKnob Tryd.prog.godebug = none := by kernel_rfl
theorem quadFull_laidOut : laidOutB Tryd.prog = true := by kernel_rfl
set_option maxRecDepth 100000 in
theorem quadFull_lifted (os : Os) (started : os.Started) (H : Type) (enc : TypeId × Value → H) :
    ReturnsInHanded {} Tryd.checked os 5 .any (fun w args => (Rows.quadFullSpec.pre enc Tryd.prog Tryd.f5 [] false w args ∧ laidMetH Tryd.prog laids w) ∧ sizedMet enc Tryd.prog Tryd.f5 (OpenSpec.ofChange Rows.quadFullSpec) false w args) (Rows.quadFullSpec.post enc Tryd.prog Tryd.f5 false true false false) := by
  refine returnsInHanded_of_change_and (C := Tryd.checked) (X := fun w _ => laidMetH Tryd.prog laids w) (fun _ _ _ hh h => h.of_heap hh) own_knob started (by kernel_rfl) Tryd.func5
    (ChangeSpec.witness_shaped (enc := enc) (C := Tryd.checked) (os := os) (X := fun w _ => laidMetH Tryd.prog laids w) false (World.laidAll Tryd.prog os laids) #[.int .u8 0, .int .u16 0] 8 rfl (World.shaped_of_ZipB (by kernel_rfl) (by kernel_rfl)) (by kernel_rfl) (by kernel_rfl) (by kernel_rfl) (door_met os _)) ?_
  intro W base args ds gs before hval0 hW _ _ hL _
  have hval : ∀ (j : Nat) t v, Tryd.f5.params[j]? = some t → args[j]? = some v → Value.okWide Tryd.prog W .any base t v := hval0
  have hW' := hW
  obtain ⟨p, q, hA0, hV, rfl, hfz, hnd⟩ := hW
  have hA : DataW.TrodAll enc Tryd.prog W 0 (fun _ => true) true Tryd.f5.params.toList args.toList ds p := hA0
  rw [Tryd.params5] at hA hval
  obtain ⟨v0, vs0, d0, ds0, p0, q0, hargs, rfl, rfl, h0, r0⟩ := trodAll_cons hA
  obtain ⟨v1, vs1, d1, ds1, p1, q1, rfl, rfl, rfl, h1, r1⟩ := trodAll_cons r0
  obtain ⟨rfl, rfl, rfl⟩ := trodAll_nil r1
  obtain rfl : args = #[v0, v1] := by cases args; simp_all
  obtain ⟨rfl, rfl⟩ := trodVars_none hV
  have k0 := h0
  have lt0 : ∀ x ∈ p0, x.block < W.heap.size := by obtain ⟨m, hm⟩ := k0; exact DataW.trod_lt m _ _ _ hm
  have k1 := h1
  have lt1 : ∀ x ∈ p1, x.block < W.heap.size := by obtain ⟨m, hm⟩ := k1; exact DataW.trod_lt m _ _ _ hm
  obtain ⟨a0, rfl, rfl, rfl, w0⟩ := open_int Tryd.underlying5 (hval 0 5 v0 rfl rfl) h0
  obtain ⟨a1, rfl, rfl, rfl, w1⟩ := open_int Tryd.underlying54 (hval 1 54 v1 rfl rfl) h1
  clear hA0 hval0
  refine (quadFull_walk W (of_laid hL) a0 w0 a1 w1).mono fun e W' ⟨he, bel⟩ => ?_
  subst he
  exact ⟨_, rfl, _, _, _, [], _, [], hW', trodAll_mk1 (shut_bool Tryd.underlying4 _), (trodAll_cons_mk (Below.trod quadFull_laidOut (by kernel_rfl) (of_decide_eq_true (by kernel_rfl)) k0 bel lt0) (trodAll_cons_mk (Below.trod quadFull_laidOut (by kernel_rfl) (of_decide_eq_true (by kernel_rfl)) k1 bel lt1) trodAll_mk0)), rfl, bel.frame _, fun h => by cases h⟩

theorem quadFull_over : Rows.quadFullRow.holds Tryd.pinned (OpenSpec.ofChange Rows.quadFullSpec) :=
  OpenClaim.holds_of_wide 5 Tryd.f5 rfl rfl rfl rfl rfl rfl rfl ⟨rfl, rfl, rfl, rfl, rfl⟩ rfl rfl rfl rfl rfl (by kernel_rfl) Tryd.func5 (by kernel_rfl)
    (of_decide_eq_true (by kernel_rfl)) (by unfold Func.isWrapper; first | (rw [if_pos (by decide +kernel)]; kernel_rfl) | (rw [if_neg (by decide +kernel)]; exact ⟨rfl, rfl⟩))
    (fun os started H enc _ => quadFull_lifted os started H enc)

theorem quadFull_holds : Rows.QuadFullCardSaid :=
  Claim7.holds_tied_plain_at .later [] [.data] true (true, "a3d3f3cb190d71e3138e9286177bb5d40067a19e978e45158a4118de4e4999b4") false
    quadFull_over (fun _ h => by cases h) (by kernel_rfl) (fun _ h => by cases h) quadFull_row_tie rfl ⟨rfl, rfl⟩ (by kernel_rfl) rfl
    (fun f fn hf hfn => by
      obtain rfl : f = 5 := Option.some.inj ((show Tryd.prog.funcNamed "vedette/vedettelaw8.QuadFull" = some 5 by kernel_rfl).symm.trans hf) |>.symm
      obtain rfl : fn = Tryd.f5 := (Option.some.inj (Tryd.func5.symm.trans hfn)).symm
      exact ⟨by kernel_rfl, fun j t ht => by
        rw [Tryd.params5] at ht
        have hm : t ∈ [5, 54] := by simpa using Array.mem_of_getElem? ht
        have hall : ([5, 54].all fun u => !Tryd.prog.wantsStandIn u) = true := by kernel_rfl
        exact (show Tryd.prog.wantsStandIn t = false by simpa using List.all_eq_true.1 hall t hm)⟩)
    (by kernel_rfl)
#print axioms quadFull_holds
end Go.Proofs.YtihmpdjlfpbieaaDoor
