/- MortonTells holds (tied card): the package weaves, parts, orders and halves as the reference does; the package's table of masks starts as the program's text lays it. -/
import Derived.Test.YtlkphkpalckgnaaDoorLaid4
import Derived.Test.YtlkphkpalckgnaaDoorCards
import Derived.Test.YtlkphkpalckgnaaDoorTie
import Derived.SevenTiedAt
import Derived.ProofKit
import Derived.OpenShut
import Derived.ShutString
import Derived.ChangeOld
import Derived.Below
import Derived.SizedLaws
namespace Go.Proofs.YtlkphkpalckgnaaDoor
open Go.ChangeShapes Go.WideShapes Go.ChangeAt Go.RowKit
open Go.ChangeMaps (open_string shut_string)
set_option linter.unusedVariables false

set_option maxRecDepth 100000 in
set_option maxHeartbeats 400000 in
theorem mortonTells_walk (w : World) (hL : Masks w) (a0 : Int) (w0 : (Lit.int .u16 a0).wf = true) (a1 : Int) (w1 : (Lit.int .u16 a1).wf = true) (a2 : Int) (w2 : (Lit.int .u32 a2).wf = true) (a3 : Int) (w3 : (Lit.int .u32 a3).wf = true) (n : Int) (w4 : (Lit.int .i64 n).wf = true) :
    Calls Tryd.prog 3 #[.int .u16 a0, .int .u16 a1, .int .u32 a2, .int .u32 a3, .int .i64 n] w fun e w' => e = .returned (.bool true) ∧ Below w.heap.size w w' := by
  obtain ⟨x, rfl, hx⟩ := nat_u16 w0
  obtain ⟨y, rfl, hy⟩ := nat_u16 w1
  obtain ⟨a, rfl, ha⟩ := nat_u32 w2
  clear w0 w1 w2 w3 w4
  have HL : Hid (Masks w) := hL
  clear hL
  obtain ⟨m, hm⟩ : ∃ m, Hid (m = weave x y) := ⟨_, rfl⟩
  obtain ⟨s, hs⟩ : ∃ s, Hid (s = gat a) := ⟨_, rfl⟩
  obtain ⟨t, ht⟩ : ∃ t, Hid (t = gat (a / 2)) := ⟨_, rfl⟩
  obtain ⟨p, hp⟩ : ∃ p, Hid (p = a >>> (2 * held n)) := ⟨_, rfl⟩
  go_enter Tryd.func3, Tryd.ntmps3
  go_wp2_with fail
  go_at_call 6
  refine (known_true _ HL.out).mono ?_
  rintro z w1 ⟨rfl, hb⟩
  have HM : Hid (Masks w1) := HL.out.below hb
  go_wp2_with fail
  go_at_call 7
  refine (split_at a ha _ HM.out).mono ?_
  rintro z w2 ⟨rfl, hb2⟩
  rw [← hs.out, ← ht.out]
  have HM2 : Hid (Masks w2) := HM.out.below hb2
  go_wp2_with fail
  go_at_call 8
  refine (ref_split a ha _).mono ?_
  rintro z w3 ⟨rfl, rfl⟩
  rw [← hs.out, ← ht.out]
  go_wp2_with fail
  go_at_call 9
  refine (weave_at x y hx hy _ HM2.out).mono ?_
  rintro z w4 ⟨rfl, rfl⟩
  rw [← hm.out]
  go_wp2_with fail
  go_at_call 10
  refine (ref_weave x y hx hy _).mono ?_
  rintro z w5 ⟨rfl, rfl⟩
  rw [← hm.out]
  go_wp2_with fail
  go_at_call 11
  refine (less_at a a3 _).mono ?_
  rintro z w6 ⟨rfl, rfl⟩
  go_wp2_with fail
  go_at_call 12
  refine (parent_at a ha n _).mono ?_
  rintro z w7 ⟨rfl, rfl⟩
  rw [← hp.out]
  go_wp2_with fail
  go_at_call 13
  refine (ref_parent a ha n _).mono ?_
  rintro z w8 ⟨rfl, rfl⟩
  rw [← hp.out]
  go_wp2
  go_ret
  exact ⟨rfl, below_on hb hb2⟩

theorem mortonTells_own : ownKnob Tryd.prog.godebug = none := by kernel_rfl
theorem mortonTells_laidOut : laidOutB Tryd.prog = true := by kernel_rfl
set_option maxRecDepth 100000 in
theorem mortonTells_lifted (os : Os) (started : os.Started) (H : Type) (enc : TypeId × Value → H) :
    ReturnsInHanded {} Tryd.checked os 3 .any (fun w args => (Rows.mortonTellsSpec.pre enc Tryd.prog Tryd.f3 [] false w args ∧ laidMetH Tryd.prog laids w) ∧ sizedMet enc Tryd.prog Tryd.f3 (OpenSpec.ofChange Rows.mortonTellsSpec) false w args) (Rows.mortonTellsSpec.post enc Tryd.prog Tryd.f3 false true false false) := by
  refine returnsInHanded_of_change_and (C := Tryd.checked) (X := fun w _ => laidMetH Tryd.prog laids w) (fun _ _ _ hh h => h.of_heap hh) own_knob started (by kernel_rfl) Tryd.func3
    (ChangeSpec.witness_shaped (enc := enc) (C := Tryd.checked) (os := os) (X := fun w _ => laidMetH Tryd.prog laids w) false (World.laidAll Tryd.prog os laids) #[.int .u16 0, .int .u16 0, .int .u32 0, .int .u32 0, .int .i64 0] 8 rfl (World.shaped_of_ZipB (by kernel_rfl) (by kernel_rfl)) (by kernel_rfl) (by kernel_rfl) (by kernel_rfl) (door_met os _)) ?_
  intro W base args ds gs before hval0 hW _ _ hL _
  have hval : ∀ (j : Nat) t v, Tryd.f3.params[j]? = some t → args[j]? = some v → Value.okWide Tryd.prog W .any base t v := hval0
  have hW' := hW
  obtain ⟨p, q, hA0, hV, rfl, hfz, hnd⟩ := hW
  have hA : DataW.TrodAll enc Tryd.prog W 0 (fun _ => true) true Tryd.f3.params.toList args.toList ds p := hA0
  rw [Tryd.params3] at hA hval
  obtain ⟨v0, vs0, d0, ds0, p0, q0, hargs, rfl, rfl, h0, r0⟩ := trodAll_cons hA
  obtain ⟨v1, vs1, d1, ds1, p1, q1, rfl, rfl, rfl, h1, r1⟩ := trodAll_cons r0
  obtain ⟨v2, vs2, d2, ds2, p2, q2, rfl, rfl, rfl, h2, r2⟩ := trodAll_cons r1
  obtain ⟨v3, vs3, d3, ds3, p3, q3, rfl, rfl, rfl, h3, r3⟩ := trodAll_cons r2
  obtain ⟨v4, vs4, d4, ds4, p4, q4, rfl, rfl, rfl, h4, r4⟩ := trodAll_cons r3
  obtain ⟨rfl, rfl, rfl⟩ := trodAll_nil r4
  obtain rfl : args = #[v0, v1, v2, v3, v4] := by cases args; simp_all
  obtain ⟨rfl, rfl⟩ := trodVars_none hV
  have k0 := h0
  have lt0 : ∀ x ∈ p0, x.block < W.heap.size := by obtain ⟨m, hm⟩ := k0; exact DataW.trod_lt m _ _ _ hm
  have k1 := h1
  have lt1 : ∀ x ∈ p1, x.block < W.heap.size := by obtain ⟨m, hm⟩ := k1; exact DataW.trod_lt m _ _ _ hm
  have k2 := h2
  have lt2 : ∀ x ∈ p2, x.block < W.heap.size := by obtain ⟨m, hm⟩ := k2; exact DataW.trod_lt m _ _ _ hm
  have k3 := h3
  have lt3 : ∀ x ∈ p3, x.block < W.heap.size := by obtain ⟨m, hm⟩ := k3; exact DataW.trod_lt m _ _ _ hm
  have k4 := h4
  have lt4 : ∀ x ∈ p4, x.block < W.heap.size := by obtain ⟨m, hm⟩ := k4; exact DataW.trod_lt m _ _ _ hm
  obtain ⟨a0, rfl, rfl, rfl, w0⟩ := open_int Tryd.underlying22 (hval 0 22 v0 rfl rfl) h0
  obtain ⟨a1, rfl, rfl, rfl, w1⟩ := open_int Tryd.underlying22 (hval 1 22 v1 rfl rfl) h1
  obtain ⟨a2, rfl, rfl, rfl, w2⟩ := open_int Tryd.underlying23 (hval 2 23 v2 rfl rfl) h2
  obtain ⟨a3, rfl, rfl, rfl, w3⟩ := open_int Tryd.underlying23 (hval 3 23 v3 rfl rfl) h3
  obtain ⟨a4, rfl, rfl, rfl, w4⟩ := open_int Tryd.underlying3 (hval 4 3 v4 rfl rfl) h4
  clear hA0 hval0
  refine (mortonTells_walk W (of_laid hL) a0 w0 a1 w1 a2 w2 a3 w3 a4 w4).mono fun e W' ⟨he, bel⟩ => ?_
  subst he
  exact ⟨_, rfl, _, _, _, [], _, [], hW', trodAll_mk1 (shut_bool Tryd.underlying4 _), (trodAll_cons_mk (Below.trod mortonTells_laidOut (by kernel_rfl) (of_decide_eq_true (by kernel_rfl)) k0 bel lt0) (trodAll_cons_mk (Below.trod mortonTells_laidOut (by kernel_rfl) (of_decide_eq_true (by kernel_rfl)) k1 bel lt1) (trodAll_cons_mk (Below.trod mortonTells_laidOut (by kernel_rfl) (of_decide_eq_true (by kernel_rfl)) k2 bel lt2) (trodAll_cons_mk (Below.trod mortonTells_laidOut (by kernel_rfl) (of_decide_eq_true (by kernel_rfl)) k3 bel lt3) (trodAll_cons_mk (Below.trod mortonTells_laidOut (by kernel_rfl) (of_decide_eq_true (by kernel_rfl)) k4 bel lt4) trodAll_mk0))))), rfl, bel.frame _, fun h => by cases h⟩

theorem mortonTells_over : Rows.mortonTellsRow.holds Tryd.pinned (OpenSpec.ofChange Rows.mortonTellsSpec) :=
  OpenClaim.holds_of_wide 3 Tryd.f3 rfl rfl rfl rfl rfl rfl rfl ⟨rfl, rfl, rfl, rfl, rfl⟩ rfl rfl rfl rfl rfl (by kernel_rfl) Tryd.func3 (by kernel_rfl)
    (of_decide_eq_true (by kernel_rfl)) (by unfold Func.isWrapper; first | (rw [if_pos (by decide +kernel)]; kernel_rfl) | (rw [if_neg (by decide +kernel)]; exact ⟨rfl, rfl⟩))
    (fun os started H enc _ => mortonTells_lifted os started H enc)

theorem mortonTells_holds : Rows.MortonTellsCardSaid :=
  Claim7.holds_tied_plain_at .later [] [.data] true (true, "88b875217eafa84c4995fd83a6614626f72f033578190a24a69d57d35766fa89") false
    mortonTells_over (fun _ h => by cases h) (by kernel_rfl) (fun _ h => by cases h) mortonTells_row_tie rfl ⟨rfl, rfl⟩ (by kernel_rfl) rfl
    (fun f fn hf hfn => by
      obtain rfl : f = 3 := Option.some.inj ((show Tryd.prog.funcNamed "vedette/vedettelaw4.MortonTells" = some 3 by kernel_rfl).symm.trans hf) |>.symm
      obtain rfl : fn = Tryd.f3 := (Option.some.inj (Tryd.func3.symm.trans hfn)).symm
      exact ⟨by kernel_rfl, fun j t ht => by
        rw [Tryd.params3] at ht
        have hm : t ∈ [22, 22, 23, 23, 3] := by simpa using Array.mem_of_getElem? ht
        have hall : ([22, 22, 23, 23, 3].all fun u => !Tryd.prog.wantsStandIn u) = true := by kernel_rfl
        exact (show Tryd.prog.wantsStandIn t = false by simpa using List.all_eq_true.1 hall t hm)⟩)
    (by kernel_rfl)
#print axioms mortonTells_holds
end Go.Proofs.YtlkphkpalckgnaaDoor
