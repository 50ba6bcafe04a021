/- ThingNumbers holds: each server's numbers are its own and rise, and the function returns true. -/
import Derived.Test.YtlbbdpkbglkmnaaKnown7
import Derived.Test.YtlbbdpkbglkmnaaThgQ
import Derived.Test.YtlbbdpkbglkmnaaThgO
import Derived.ProofKit
import Derived.OpenShut
import Derived.ShutString
import Derived.ChangeOld
import Derived.Below
import Derived.SizedLaws
namespace Go.Proofs.Ytlbbdpkbglkmnaa
open Go.ChangeShapes Go.WideShapes Go.ChangeAt Go.RowKit
open Go.ChangeMaps (open_string shut_string)
set_option linter.unusedVariables false

theorem number_small {p n : Int} (hp : 0 ≤ p) (hp3 : p ≤ 3) (hn : 0 ≤ n) (hn2 : n ≤ 65535) : numberI p n = 4 * n + p := by unfold numberI heldI; omega
theorem server_small {p n : Int} (hp : 0 ≤ p) (hp3 : p ≤ 3) (hn : 0 ≤ n) : serverI (4 * n + p) = p := by unfold serverI; omega
set_option maxHeartbeats 2000000 in
set_option maxRecDepth 100000 in
theorem thingNumbers_walk (w : World) (a0 : Int) (w0 : (Lit.int .u8 a0).wf = true) (a1 : Int) (w1 : (Lit.int .u8 a1).wf = true) (a2 : Int) (w2 : (Lit.int .u16 a2).wf = true) (a3 : Int) (w3 : (Lit.int .u16 a3).wf = true) : Calls Try.prog 6 #[.int .u8 a0, .int .u8 a1, .int .u16 a2, .int .u16 a3] w fun e w' => e = .returned (.bool true) ∧ Below w.heap.size w w' := by
  have b0 := u8_bounds w0
  have b1 := u8_bounds w1
  have b2 : 0 ≤ a2 ∧ a2 ≤ 65535 := by simp [Lit.wf, IntKind.min, IntKind.max, IntKind.signed, IntKind.bits] at w2; omega
  have b3 : 0 ≤ a3 ∧ a3 ≤ 65535 := by simp [Lit.wf, IntKind.min, IntKind.max, IntKind.signed, IntKind.bits] at w3; omega
  clear w0 w1 w2 w3
  go_enter Try.func6, Try.ntmps6
  go_wp2_with fail
  refine (known_holds _).mono ?_
  rintro x w1 ⟨rfl, hE⟩
  go_wp2_with fail
  obtain ⟨p, hp⟩ : ∃ p, a0 % 4 = p := ⟨_, rfl⟩
  obtain ⟨q, hq⟩ : ∃ q, a1 % 4 = q := ⟨_, rfl⟩
  have p0 : 0 ≤ p ∧ p ≤ 3 := by omega
  have q0 : 0 ≤ q ∧ q ≤ 3 := by omega
  rw [hp, hq]
  clear hp hq
  obtain ⟨X, hX⟩ : ∃ X, Hid (numberI p a2 = X) := ⟨_, rfl⟩
  obtain ⟨Y, hY⟩ : ∃ Y, Hid (numberI q a3 = Y) := ⟨_, rfl⟩
  have eX : X = 4 * a2 + p := by rw [← hX.out]; exact number_small p0.1 p0.2 b2.1 b2.2
  have eY : Y = 4 * a3 + q := by rw [← hY.out]; exact number_small q0.1 q0.2 b3.1 b3.2
  have sX : Hid (serverI X = p) := by show serverI X = p; rw [eX]; exact server_small p0.1 p0.2 b2.1
  have sY : Hid (serverI Y = q) := by show serverI Y = q; rw [eY]; exact server_small q0.1 q0.2 b3.1
  have hXY : (X == Y) = (p == q && a2 == a3) := by
    rw [Bool.eq_iff_iff]
    simp only [beq_iff_eq, Bool.and_eq_true]
    omega
  have hlt : a2 < a3 → p = q → X < Y := by omega
  have HXY := hid hXY
  have HLT := hid hlt
  clear eX eY hXY hlt
  refine (thing_number _ _ _).mono ?_
  rw [hX.out]
  rintro x w2 ⟨rfl, hb⟩
  replace hE := below_on hE hb
  clear hb
  go_wp2_with fail
  refine (thing_number _ _ _).mono ?_
  rw [hY.out]
  rintro x w3 ⟨rfl, hb⟩
  replace hE := below_on hE hb
  clear hb
  go_wp2_with fail
  refine (thing_server _ _).mono ?_
  rw [sX.out]
  rintro x w4 ⟨rfl, hb⟩
  replace hE := below_on hE hb
  clear hb
  go_wp2_with fail
  refine (thing_server _ _).mono ?_
  rw [sY.out]
  rintro x w5 ⟨rfl, hb⟩
  replace hE := below_on hE hb
  clear hb
  have hXY := HXY.out
  by_cases h1 : p = q
  · by_cases h2 : a2 = a3
    · have e3 : (X == Y) = true := by rw [hXY]; simp [h1, h2]
      have e4 : X = Y := by simpa using e3
      subst h1 h2 e4
      clear hXY e3 HXY HLT
      go_wp2_with fail
      go_ret
      exact ⟨by simp, hE⟩
    · have e1 : (p == q) = true := by simp [h1]
      have e2 : (a2 == a3) = false := by simp [h2]
      have e3 : (X == Y) = false := by rw [hXY, e1, e2]; rfl
      by_cases h3 : a3 ≤ a2
      · clear hXY HXY HLT
        go_wp2_with fail
        go_ret
        exact ⟨by simp, hE⟩
      · have h4 : a2 < a3 := by omega
        have h5 := HLT.out h4 h1
        have e5 : (p != q) = false := by simp [h1]
        have H1 := hid h1
        clear hXY HXY HLT h1
        go_wp2_with fail
        go_ret
        exact ⟨by simp, hE⟩
  · have e1 : (p == q) = false := by simp [h1]
    have e3 : (X == Y) = false := by rw [hXY, e1]; rfl
    have e5 : (p != q) = true := by simp [h1]
    clear hXY HXY HLT h1
    by_cases h3 : a3 ≤ a2
    · go_wp2_with fail
      go_ret
      exact ⟨by simp, hE⟩
    · have h4 : a2 < a3 := by omega
      go_wp2_with fail
      go_ret
      exact ⟨by simp, hE⟩

theorem thingNumbers_own : ownKnob Try.prog.godebug = none := by kernel_rfl
theorem thingNumbers_laidOut : laidOutB Try.prog = true := by kernel_rfl
set_option maxRecDepth 100000 in
theorem thingNumbers_lifted (os : Os) (started : os.Started) (H : Type) (enc : TypeId × Value → H) :
    ReturnsInHanded {} Try.checked os 6 .any (Rows.thingNumbersSpec.pre6 enc Try.prog Try.f6 Rows.thingNumbersRow.domain false) (Rows.thingNumbersSpec.post enc Try.prog Try.f6 false true false false) := by
  refine returnsInHanded_of_change (C := Try.checked) thingNumbers_own started (by kernel_rfl) Try.func6
    (ChangeSpec.witness6 (enc := enc) (C := Try.checked) false ⟨#[], #[.int .u8 0, .int .u8 0, .int .u16 0, .int .u16 0], []⟩ 8 (by kernel_rfl) (by kernel_rfl) (by kernel_rfl) (by kernel_rfl)) ?_
  intro W base args ds gs before hval0 hW hcnd _
  have hval : ∀ (j : Nat) t v, Try.f6.params[j]? = some t → args[j]? = some v → Value.okWide Try.prog W .any base t v := hval0
  have hW' := hW
  obtain ⟨p, q, hA0, hV, rfl, hfz, hnd⟩ := hW
  have hA : DataW.TrodAll enc Try.prog W 0 (fun _ => true) true Try.f6.params.toList args.toList ds p := hA0
  rw [Try.params6] at hA hval
  obtain ⟨v0, vs0, d0, ds0, p0, q0, hargs, rfl, rfl, h0, r0⟩ := trodAll_cons hA
  obtain ⟨v1, vs1, d1, ds1, p1, q1, rfl, rfl, rfl, h1, r1⟩ := trodAll_cons r0
  obtain ⟨v2, vs2, d2, ds2, p2, q2, rfl, rfl, rfl, h2, r2⟩ := trodAll_cons r1
  obtain ⟨v3, vs3, d3, ds3, p3, q3, rfl, rfl, rfl, h3, r3⟩ := trodAll_cons r2
  obtain ⟨rfl, rfl, rfl⟩ := trodAll_nil r3
  obtain rfl : args = #[v0, v1, v2, v3] := by cases args; simp_all
  obtain ⟨rfl, rfl⟩ := trodVars_none hV
  have k0 := h0
  have lt0 : ∀ x ∈ p0, x.block < W.heap.size := by obtain ⟨m, hm⟩ := k0; exact DataW.trod_lt m _ _ _ hm
  have k1 := h1
  have lt1 : ∀ x ∈ p1, x.block < W.heap.size := by obtain ⟨m, hm⟩ := k1; exact DataW.trod_lt m _ _ _ hm
  have k2 := h2
  have lt2 : ∀ x ∈ p2, x.block < W.heap.size := by obtain ⟨m, hm⟩ := k2; exact DataW.trod_lt m _ _ _ hm
  have k3 := h3
  have lt3 : ∀ x ∈ p3, x.block < W.heap.size := by obtain ⟨m, hm⟩ := k3; exact DataW.trod_lt m _ _ _ hm
  obtain ⟨a0, rfl, rfl, rfl, w0⟩ := open_int Try.underlying5 (hval 0 5 v0 rfl rfl) h0
  obtain ⟨a1, rfl, rfl, rfl, w1⟩ := open_int Try.underlying5 (hval 1 5 v1 rfl rfl) h1
  obtain ⟨a2, rfl, rfl, rfl, w2⟩ := open_int Try.underlying57 (hval 2 57 v2 rfl rfl) h2
  obtain ⟨a3, rfl, rfl, rfl, w3⟩ := open_int Try.underlying57 (hval 3 57 v3 rfl rfl) h3
  clear hA0 hval0
  refine (thingNumbers_walk W a0 w0 a1 w1 a2 w2 a3 w3).mono fun e W' ⟨he, bel⟩ => ?_
  subst he
  exact ⟨_, rfl, _, _, _, [], _, [], hW', trodAll_mk1 (shut_bool Try.underlying4 _), (trodAll_cons_mk (Below.trod thingNumbers_laidOut (by kernel_rfl) (of_decide_eq_true (by kernel_rfl)) k0 bel lt0) (trodAll_cons_mk (Below.trod thingNumbers_laidOut (by kernel_rfl) (of_decide_eq_true (by kernel_rfl)) k1 bel lt1) (trodAll_cons_mk (Below.trod thingNumbers_laidOut (by kernel_rfl) (of_decide_eq_true (by kernel_rfl)) k2 bel lt2) (trodAll_cons_mk (Below.trod thingNumbers_laidOut (by kernel_rfl) (of_decide_eq_true (by kernel_rfl)) k3 bel lt3) trodAll_mk0)))), rfl, bel.frame _, fun h => by cases h⟩

theorem thingNumbers_over : Rows.thingNumbersRow.holds Try.pinned (OpenSpec.ofChange Rows.thingNumbersSpec) :=
  OpenClaim.holds_of_wide 6 Try.f6 rfl rfl rfl rfl rfl rfl rfl ⟨rfl, rfl, rfl, rfl, rfl⟩ rfl rfl rfl rfl rfl (by kernel_rfl) Try.func6 (by kernel_rfl)
    (of_decide_eq_true (by kernel_rfl)) (by unfold Func.isWrapper; first | (rw [if_pos (by decide +kernel)]; kernel_rfl) | (rw [if_neg (by decide +kernel)]; exact ⟨rfl, rfl⟩))
    (fun os started H enc _ => thingNumbers_lifted os started H enc)

theorem thingNumbers_holds : Rows.ThingNumbersSaid := thingNumbers_over
#print axioms thingNumbers_holds
end Go.Proofs.Ytlbbdpkbglkmnaa
