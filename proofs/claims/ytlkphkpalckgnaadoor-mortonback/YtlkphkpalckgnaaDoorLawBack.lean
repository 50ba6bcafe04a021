/- MortonBack holds (tied card): woven and parted numbers are as they were, halves of both are the parent; the package's table of masks starts as the program's text lays it. -/
import Derived.Test.YtlkphkpalckgnaaDoorLaid4
import Derived.Test.YtlkphkpalckgnaaDoorCards
import Derived.Test.YtlkphkpalckgnaaDoorTie
import Derived.SevenTiedAt
import Derived.ProofKit
import Derived.OpenShut
import Derived.ShutString
import Derived.ChangeOld
import Derived.Below
import Derived.SizedLaws
namespace Go.Proofs.YtlkphkpalckgnaaDoor
open Go.ChangeShapes Go.WideShapes Go.ChangeAt Go.RowKit
open Go.ChangeMaps (open_string shut_string)
set_option linter.unusedVariables false

set_option maxRecDepth 100000 in
set_option maxHeartbeats 400000 in
theorem mortonBack_walk (w : World) (hL : Masks w) (a0 : Int) (w0 : (Lit.int .u16 a0).wf = true) (a1 : Int) (w1 : (Lit.int .u16 a1).wf = true) (a2 : Int) (w2 : (Lit.int .u8 a2).wf = true) :
    Calls Tryd.prog 4 #[.int .u16 a0, .int .u16 a1, .int .u8 a2] w fun e w' => e = .returned (.bool true) ∧ Below w.heap.size w w' := by
  obtain ⟨x, rfl, hx⟩ := nat_u16 w0
  obtain ⟨y, rfl, hy⟩ := nat_u16 w1
  obtain ⟨n, rfl, hn⟩ := nat_u8 w2
  clear w0 w1 w2
  have HL : Hid (Masks w) := hL
  clear hL
  obtain ⟨k, hk⟩ : ∃ k : Nat, Hid (k = n % 17) := ⟨_, rfl⟩
  have hk16 : k ≤ 16 := by have := hk.out; omega
  have hk0 : (n : Int) % 17 = k := by have := hk.out; omega
  obtain ⟨m, hm⟩ : ∃ m, Hid (m = weave x y) := ⟨_, rfl⟩
  have hml : m < 4294967296 := by rw [hm.out]; exact weave_lt x y
  have g1 : gat m = x := by rw [hm.out]; exact weave_gat x y hx hy
  have g2 : gat (m / 2) = y := by rw [hm.out]; exact weave_gat1 x y hx hy
  have CS : Hid (∀ W, Masks W → Calls Tryd.prog 7 #[.int .u32 m] W fun e w' => e = .returned (.tuple #[.int .u16 x, .int .u16 y]) ∧ Below W.heap.size W w') := fun W h => by
    have := split_at m hml W h
    rw [g1, g2] at this; exact this
  have hh : held k = k := by unfold held; omega
  obtain ⟨p, hp⟩ : ∃ p, Hid (p = m >>> (2 * k)) := ⟨_, rfl⟩
  have hpl : p < 4294967296 := by rw [hp.out]; exact shr_lt _ _ _ hml
  have CP : Hid (∀ W, Calls Tryd.prog 12 #[.int .u32 m, .int .i64 k] W fun e w' => e = .returned (.int .u32 p) ∧ w' = W) := fun W => by
    have := parent_at m hml k W
    rw [hh] at this; rw [hp.out]; exact this
  obtain ⟨u, hu⟩ : ∃ u, Hid (u = x >>> k) := ⟨_, rfl⟩
  obtain ⟨v, hv⟩ : ∃ v, Hid (v = y >>> k) := ⟨_, rfl⟩
  have hul : u < 65536 := by rw [hu.out]; exact shr_lt _ _ _ hx
  have hvl : v < 65536 := by rw [hv.out]; exact shr_lt _ _ _ hy
  have eu : (x : Int) / 2 ^ k = u := by rw [hu.out, Nat.shiftRight_eq_div_pow]; simp
  have ev : (y : Int) / 2 ^ k = v := by rw [hv.out, Nat.shiftRight_eq_div_pow]; simp
  have CW : Hid (∀ W, Masks W → Calls Tryd.prog 9 #[.int .u16 u, .int .u16 v] W fun e w' => e = .returned (.int .u32 p) ∧ w' = W) := fun W h => by
    have := weave_at u v hul hvl W h
    rw [hu.out, hv.out, ← weave_shift x y k hx hy, ← hm.out, ← hp.out] at this
    rw [hu.out, hv.out]; exact this
  clear g1 g2 hh
  go_enter Tryd.func4, Tryd.ntmps4
  go_wp2_with fail
  go_at_call 6
  refine (known_true _ HL.out).mono ?_
  rintro z w1 ⟨rfl, hb⟩
  have HM : Hid (Masks w1) := HL.out.below hb
  go_wp2_with fail
  go_at_call 9
  refine (weave_at x y hx hy _ HM.out).mono ?_
  rintro z w2 ⟨rfl, rfl⟩
  rw [← hm.out]
  go_wp2_with fail
  go_at_call 7
  refine (CS.out _ HM.out).mono ?_
  rintro z w3 ⟨rfl, hb3⟩
  have HM3 : Hid (Masks w3) := HM.out.below hb3
  go_wp2_with fail
  go_at_call 12
  refine (CP.out _).mono ?_
  rintro z w4 ⟨rfl, rfl⟩
  go_wp2_with fail
  go_at_call 9
  refine (CW.out _ HM3.out).mono ?_
  rintro z w5 ⟨rfl, rfl⟩
  go_wp2
  go_ret
  exact ⟨rfl, below_on hb hb3⟩

theorem mortonBack_own : ownKnob Tryd.prog.godebug = none := by kernel_rfl
theorem mortonBack_laidOut : laidOutB Tryd.prog = true := by kernel_rfl
set_option maxRecDepth 100000 in
theorem mortonBack_lifted (os : Os) (started : os.Started) (H : Type) (enc : TypeId × Value → H) :
    ReturnsInHanded {} Tryd.checked os 4 .any (fun w args => (Rows.mortonBackSpec.pre enc Tryd.prog Tryd.f4 [] false w args ∧ laidMetH Tryd.prog laids w) ∧ sizedMet enc Tryd.prog Tryd.f4 (OpenSpec.ofChange Rows.mortonBackSpec) false w args) (Rows.mortonBackSpec.post enc Tryd.prog Tryd.f4 false true false false) := by
  refine returnsInHanded_of_change_and (C := Tryd.checked) (X := fun w _ => laidMetH Tryd.prog laids w) (fun _ _ _ hh h => h.of_heap hh) own_knob started (by kernel_rfl) Tryd.func4
    (ChangeSpec.witness_shaped (enc := enc) (C := Tryd.checked) (os := os) (X := fun w _ => laidMetH Tryd.prog laids w) false (World.laidAll Tryd.prog os laids) #[.int .u16 0, .int .u16 0, .int .u8 0] 8 rfl (World.shaped_of_ZipB (by kernel_rfl) (by kernel_rfl)) (by kernel_rfl) (by kernel_rfl) (by kernel_rfl) (door_met os _)) ?_
  intro W base args ds gs before hval0 hW _ _ hL _
  have hval : ∀ (j : Nat) t v, Tryd.f4.params[j]? = some t → args[j]? = some v → Value.okWide Tryd.prog W .any base t v := hval0
  have hW' := hW
  obtain ⟨p, q, hA0, hV, rfl, hfz, hnd⟩ := hW
  have hA : DataW.TrodAll enc Tryd.prog W 0 (fun _ => true) true Tryd.f4.params.toList args.toList ds p := hA0
  rw [Tryd.params4] at hA hval
  obtain ⟨v0, vs0, d0, ds0, p0, q0, hargs, rfl, rfl, h0, r0⟩ := trodAll_cons hA
  obtain ⟨v1, vs1, d1, ds1, p1, q1, rfl, rfl, rfl, h1, r1⟩ := trodAll_cons r0
  obtain ⟨v2, vs2, d2, ds2, p2, q2, rfl, rfl, rfl, h2, r2⟩ := trodAll_cons r1
  obtain ⟨rfl, rfl, rfl⟩ := trodAll_nil r2
  obtain rfl : args = #[v0, v1, v2] := by cases args; simp_all
  obtain ⟨rfl, rfl⟩ := trodVars_none hV
  have k0 := h0
  have lt0 : ∀ x ∈ p0, x.block < W.heap.size := by obtain ⟨m, hm⟩ := k0; exact DataW.trod_lt m _ _ _ hm
  have k1 := h1
  have lt1 : ∀ x ∈ p1, x.block < W.heap.size := by obtain ⟨m, hm⟩ := k1; exact DataW.trod_lt m _ _ _ hm
  have k2 := h2
  have lt2 : ∀ x ∈ p2, x.block < W.heap.size := by obtain ⟨m, hm⟩ := k2; exact DataW.trod_lt m _ _ _ hm
  obtain ⟨a0, rfl, rfl, rfl, w0⟩ := open_int Tryd.underlying22 (hval 0 22 v0 rfl rfl) h0
  obtain ⟨a1, rfl, rfl, rfl, w1⟩ := open_int Tryd.underlying22 (hval 1 22 v1 rfl rfl) h1
  obtain ⟨a2, rfl, rfl, rfl, w2⟩ := open_int Tryd.underlying5 (hval 2 5 v2 rfl rfl) h2
  clear hA0 hval0
  refine (mortonBack_walk W (of_laid hL) a0 w0 a1 w1 a2 w2).mono fun e W' ⟨he, bel⟩ => ?_
  subst he
  exact ⟨_, rfl, _, _, _, [], _, [], hW', trodAll_mk1 (shut_bool Tryd.underlying4 _), (trodAll_cons_mk (Below.trod mortonBack_laidOut (by kernel_rfl) (of_decide_eq_true (by kernel_rfl)) k0 bel lt0) (trodAll_cons_mk (Below.trod mortonBack_laidOut (by kernel_rfl) (of_decide_eq_true (by kernel_rfl)) k1 bel lt1) (trodAll_cons_mk (Below.trod mortonBack_laidOut (by kernel_rfl) (of_decide_eq_true (by kernel_rfl)) k2 bel lt2) trodAll_mk0))), rfl, bel.frame _, fun h => by cases h⟩

theorem mortonBack_over : Rows.mortonBackRow.holds Tryd.pinned (OpenSpec.ofChange Rows.mortonBackSpec) :=
  OpenClaim.holds_of_wide 4 Tryd.f4 rfl rfl rfl rfl rfl rfl rfl ⟨rfl, rfl, rfl, rfl, rfl⟩ rfl rfl rfl rfl rfl (by kernel_rfl) Tryd.func4 (by kernel_rfl)
    (of_decide_eq_true (by kernel_rfl)) (by unfold Func.isWrapper; first | (rw [if_pos (by decide +kernel)]; kernel_rfl) | (rw [if_neg (by decide +kernel)]; exact ⟨rfl, rfl⟩))
    (fun os started H enc _ => mortonBack_lifted os started H enc)

theorem mortonBack_holds : Rows.MortonBackCardSaid :=
  Claim7.holds_tied_plain_at .later [] [.data] true (true, "88b875217eafa84c4995fd83a6614626f72f033578190a24a69d57d35766fa89") false
    mortonBack_over (fun _ h => by cases h) (by kernel_rfl) (fun _ h => by cases h) mortonBack_row_tie rfl ⟨rfl, rfl⟩ (by kernel_rfl) rfl
    (fun f fn hf hfn => by
      obtain rfl : f = 4 := Option.some.inj ((show Tryd.prog.funcNamed "vedette/vedettelaw4.MortonBack" = some 4 by kernel_rfl).symm.trans hf) |>.symm
      obtain rfl : fn = Tryd.f4 := (Option.some.inj (Tryd.func4.symm.trans hfn)).symm
      exact ⟨by kernel_rfl, fun j t ht => by
        rw [Tryd.params4] at ht
        have hm : t ∈ [22, 22, 5] := by simpa using Array.mem_of_getElem? ht
        have hall : ([22, 22, 5].all fun u => !Tryd.prog.wantsStandIn u) = true := by kernel_rfl
        exact (show Tryd.prog.wantsStandIn t = false by simpa using List.all_eq_true.1 hall t hm)⟩)
    (by kernel_rfl)
#print axioms mortonBack_holds
end Go.Proofs.YtlkphkpalckgnaaDoor
