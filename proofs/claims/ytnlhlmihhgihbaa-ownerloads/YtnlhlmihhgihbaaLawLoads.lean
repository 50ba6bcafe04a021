/- OwnerLoads holds for every number and every row of owners of at most 40; of longer ones it answers true by itself. -/
import Derived.Test.YtnlhlmihhgihbaaKnown13
import Derived.Test.YtnlhlmihhgihbaaOwO
import Derived.ProofKit
import Derived.OpenShut
import Derived.ShutString
import Derived.ChangeOld
import Derived.Below
import Derived.SizedLaws
namespace Go.Proofs.Ytnlhlmihhgihbaa
open Go.ChangeShapes Go.WideShapes Go.ChangeAt Go.RowKit
open Go.ChangeMaps (open_string shut_string)
set_option linter.unusedVariables false

set_option maxHeartbeats 2000000 in
theorem ownerLoads_walk (w : World) (a0 : Int) (w0 : (Lit.int .i64 a0).wf = true) (a1 : Option Addr) (cap1 : Nat) (L1 : List Ow) (r1 : RowG Ow.cs 2 w a1 L1) (c1 : L1.length ≤ cap1) (m1 : cap1 ≤ maxLen) :
    Calls Try.prog 4 #[.int .i64 a0, .slice a1 L1.length cap1] w fun e w' => e = .returned (.bool true) ∧ Below w.heap.size w w' := by
  obtain ⟨len, hlen⟩ : ∃ len, Hid (L1.length = len) := ⟨_, rfl⟩
  rw [hlen.out] at c1 ⊢
  have HR := hid r1
  have C0 := known w
  clear r1 w0 c1 m1
  go_enter Try.func4, Try.ntmps4
  go_wp2_with fail
  refine C0.mono ?_
  rintro x w1 ⟨rfl, hB1⟩
  clear C0
  by_cases h40 : len ≤ 40
  · have h40' : ¬ (40 : Int) < (len : Int) := by omega
    obtain ⟨z, hz⟩ : ∃ z, Hid (sizesB a0 len = z) := ⟨_, rfl⟩
    cases z
    · have C1 := own_load_no hz.out w1 a1 cap1
      have C2 := ref_load_no hz.out w1 a1 cap1
      go_wp2_with fail
      refine C1.mono ?_
      rintro x w2 ⟨rfl, h2⟩
      rw [h2]
      clear h2 w2 C1
      go_wp2_with fail
      refine C2.mono ?_
      rintro x w2 ⟨rfl, h2⟩
      rw [h2]
      clear h2 w2 C2
      go_wp2_with fail
      go_ret
      exact ⟨rfl, hB1⟩
    · obtain ⟨h1, h4, h16⟩ := sizes_yes hz.out
      have hl16 : L1.length = 16 := hlen.out.trans h16
      obtain ⟨b, off, rfl, hrow⟩ := rowA_of HR.out hl16
      have HW := hid (hrow.later hB1)
      have HL := hid hl16
      subst h16
      clear hlen hz hl16 hrow HR
      have C1 := own_load (cap := cap1) HW.out HL.out h1 h4
      go_wp2_with fail
      refine C1.mono ?_
      clear C1
      rintro x w2 (⟨hall, g, rfl, hm, hg, hb2⟩ | ⟨hall, rfl, hb2⟩)
      · have HM := hid hm
        have HA := hid hall
        have HW2 := hid (HW.out.later hb2)
        have hB2 := below_on hB1 hb2
        clear hm hall hb2 hB1 HW hg
        have C2 := ref_load (cap := cap1) HW2.out HL.out h1 h4
        go_wp2_with fail
        refine C2.mono ?_
        clear C2
        rintro x w3 (⟨-, g2, rfl, hm2, -, hb3⟩ | ⟨hall, -, -⟩)
        · have HM3 := hid (HM.out.later hb3)
          have C3 := alike_yes HM3.out hm2 h1 h4
          have hB3 := below_on hB2 hb3
          clear hm2 hb3 hB2 HM HW2
          go_wp2_with fail
          refine C3.mono ?_
          rintro x w4 ⟨rfl, hb4⟩
          have hB4 := below_on hB3 hb4
          clear C3 hb4 hB3
          go_wp2_with fail
          go_ret
          exact ⟨rfl, hB4⟩
        · rw [HA.out] at hall; cases hall
      · have HA := hid hall
        have HW2 := hid (HW.out.later hb2)
        have hB2 := below_on hB1 hb2
        clear hall hb2 hB1 HW
        have C2 := ref_load (cap := cap1) HW2.out HL.out h1 h4
        go_wp2_with fail
        refine C2.mono ?_
        clear C2
        rintro x w3 (⟨hall, -⟩ | ⟨hall, rfl, hb3⟩)
        · rw [HA.out] at hall; cases hall
        · have hB3 := below_on hB2 hb3
          clear hb3 hB2 HW2 hall
          go_wp2_with fail
          go_ret
          exact ⟨rfl, hB3⟩
  · have h40' : (40 : Int) < (len : Int) := by omega
    go_wp2_with fail
    go_ret
    exact ⟨rfl, hB1⟩

theorem ownerLoads_own : ownKnob Try.prog.godebug = none := by kernel_rfl
theorem ownerLoads_laidOut : laidOutB Try.prog = true := by kernel_rfl
set_option maxRecDepth 100000 in
theorem ownerLoads_lifted (os : Os) (started : os.Started) (H : Type) (enc : TypeId × Value → H) :
    ReturnsInHanded {} Try.checked os 4 .any (Rows.ownerLoadsSpec.pre6 enc Try.prog Try.f4 Rows.ownerLoadsRow.domain false) (Rows.ownerLoadsSpec.post enc Try.prog Try.f4 false true false false) := by
  refine returnsInHanded_of_change (C := Try.checked) ownerLoads_own started (by kernel_rfl) Try.func4
    (ChangeSpec.witness6 (enc := enc) (C := Try.checked) false ⟨#[], #[.int .i64 0, .slice none 0 0], []⟩ 8 (by kernel_rfl) (by kernel_rfl) (by kernel_rfl) (by kernel_rfl)) ?_
  intro W base args ds gs before hval0 hW hcnd _
  have hval : ∀ (j : Nat) t v, Try.f4.params[j]? = some t → args[j]? = some v → Value.okWide Try.prog W .any base t v := hval0
  have hW' := hW
  obtain ⟨p, q, hA0, hV, rfl, hfz, hnd⟩ := hW
  have hA : DataW.TrodAll enc Try.prog W 0 (fun _ => true) true Try.f4.params.toList args.toList ds p := hA0
  rw [Try.params4] at hA hval
  obtain ⟨v0, vs0, d0, ds0, p0, q0, hargs, rfl, rfl, h0, r0⟩ := trodAll_cons hA
  obtain ⟨v1, vs1, d1, ds1, p1, q1, rfl, rfl, rfl, h1, r1⟩ := trodAll_cons r0
  obtain ⟨rfl, rfl, rfl⟩ := trodAll_nil r1
  obtain rfl : args = #[v0, v1] := by cases args; simp_all
  obtain ⟨rfl, rfl⟩ := trodVars_none hV
  have k0 := h0
  have lt0 : ∀ x ∈ p0, x.block < W.heap.size := by obtain ⟨m, hm⟩ := k0; exact DataW.trod_lt m _ _ _ hm
  have k1 := h1
  have lt1 : ∀ x ∈ p1, x.block < W.heap.size := by obtain ⟨m, hm⟩ := k1; exact DataW.trod_lt m _ _ _ hm
  obtain ⟨a0, rfl, rfl, rfl, w0⟩ := open_int Try.underlying3 (hval 0 3 v0 rfl rfl) h0
  obtain ⟨a1, cap1, L1, rfl, r1', c1, m1⟩ := open_ows (hval 1 38 v1 rfl rfl) h1
  clear hA0 hval0
  refine (ownerLoads_walk W a0 w0 a1 cap1 L1 r1' c1 m1).mono fun e W' ⟨he, bel⟩ => ?_
  subst he
  exact ⟨_, rfl, _, _, _, [], _, [], hW', trodAll_mk1 (shut_bool Try.underlying4 _), (trodAll_cons_mk (Below.trod ownerLoads_laidOut (by kernel_rfl) (of_decide_eq_true (by kernel_rfl)) k0 bel lt0) (trodAll_cons_mk (Below.trod ownerLoads_laidOut (by kernel_rfl) (of_decide_eq_true (by kernel_rfl)) k1 bel lt1) trodAll_mk0)), rfl, bel.frame _, fun h => by cases h⟩

theorem ownerLoads_over : Rows.ownerLoadsRow.holds Try.pinned (OpenSpec.ofChange Rows.ownerLoadsSpec) :=
  OpenClaim.holds_of_wide 4 Try.f4 rfl rfl rfl rfl rfl rfl rfl ⟨rfl, rfl, rfl, rfl, rfl⟩ rfl rfl rfl rfl rfl (by kernel_rfl) Try.func4 (by kernel_rfl)
    (of_decide_eq_true (by kernel_rfl)) (by unfold Func.isWrapper; first | (rw [if_pos (by decide +kernel)]; kernel_rfl) | (rw [if_neg (by decide +kernel)]; exact ⟨rfl, rfl⟩))
    (fun os started H enc _ => ownerLoads_lifted os started H enc)

theorem ownerLoads_holds : Rows.OwnerLoadsSaid := ownerLoads_over
#print axioms ownerLoads_holds
end Go.Proofs.Ytnlhlmihhgihbaa
