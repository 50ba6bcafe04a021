/- For every two texts SumTells returns true, and each argument reads behind the call as before it: the program's sum and frame of bytes, and what it opens, are the document's. No conditions. -/
import Derived.Test.YtcolllffjlahbaaKnown2
import Derived.Test.YtcolllffjlahbaaRef2
import Derived.ProofKit
import Derived.OpenShut
import Derived.ShutString
namespace Go.Proofs.Ytcolllffjlahbaa
open Go.ChangeShapes Go.WideShapes Go.ChangeAt Go.RowKit
open Go.ChangeMaps (open_string shut_string)
set_option linter.unusedVariables false

theorem sumTells_own : ownKnob Try.prog.godebug = none := by kernel_rfl

theorem unwrap_ok {l b : List UInt8} {k e : Nat} (h : unwrap l = (b, k, e)) : b.length ≤ l.length := by
  rcases hg : texts l 40000 with ⟨c, j, f⟩
  have := (texts_ok hg).2.1
  unfold unwrap at h
  rw [hg] at h
  simp only at h
  split at h
  · cases h; simp
  · split at h
    · cases h; simp
    · split at h
      · cases h; simp
      · cases h; exact this
set_option maxRecDepth 100000 in
set_option maxHeartbeats 1000000 in
theorem sumTells_walk (a0 : ByteArray) (a1 : ByteArray) (w0 : a0.size ≤ maxLen) (w1 : a1.size ≤ maxLen) (w : World) :
    Calls Try.prog 3 #[.string a0, .string a1] w fun e w' => e = .returned (.bool true) ∧ Below w.heap.size w w' := by
  rcases hg : unwrap a1.data.toList with ⟨b, k, e⟩
  obtain ⟨u, hu⟩ : ∃ u : ByteArray, u = ⟨b.toArray⟩ := ⟨_, rfl⟩
  have HU : Hid (unwrap a1.data.toList = (u.data.toList, k, e)) := by rw [hu]; exact hg
  obtain ⟨c, hc⟩ : ∃ c, c = crc a0.data.toList := ⟨_, rfl⟩
  have HC : Hid (c = crc a0.data.toList) := hc
  obtain ⟨L, hL⟩ : ∃ L, L = wrap a0.data.toList := ⟨_, rfl⟩
  have HL : Hid (L = wrap a0.data.toList) := hL
  clear hg hu hc hL
  go_enter Try.func3, Try.ntmps3
  go_wp2_with fail
  refine (known2 _).mono ?_
  rintro x w1' ⟨rfl, hb1⟩
  have s1 := hb1.size
  by_cases h5 : a0.size ≤ 500 ∧ a1.size ≤ 500
  · obtain ⟨h50, h51⟩ := h5
    go_wp2_with fail
    refine (open_at HU (by omega) _).mono ?_
    rintro x w2 ⟨rfl, hb2⟩
    have s2 := hb2.size
    go_wp2_with fail
    refine (refopen_at HU (by omega) _).mono ?_
    rintro x w3 ⟨rfl, hb3⟩
    have s3 := hb3.size
    go_wp2_with fail
    refine (of_at HC (by omega) _).mono ?_
    rintro x w4 ⟨rfl, rfl⟩
    go_wp2_with fail
    refine (refof_at HC (by omega) _).mono ?_
    rintro x w5 ⟨rfl, rfl⟩
    go_wp2_with fail
    refine (wrap_at HL (by omega) _).mono ?_
    rintro x w6 ⟨rfl, hb6⟩
    have s6 := hb6.size
    go_wp2_with fail
    refine (refwrap_at HL (by omega) _).mono ?_
    rintro x w7 ⟨rfl, hb7⟩
    go_wp2
    go_ret
    refine ⟨by simp, (((hb1.trans (hb2.mono s1)).trans (hb3.mono (by omega))).trans (hb6.mono (by omega))).trans (hb7.mono (by omega))⟩
  · by_cases h50 : a0.size ≤ 500
    · have h51 : 500 < a1.size := by omega
      go_wp2
      go_ret
      exact ⟨rfl, hb1⟩
    · have h51 : 500 < a0.size := by omega
      go_wp2
      go_ret
      exact ⟨rfl, hb1⟩

set_option maxRecDepth 100000 in
theorem sumTells_lifted (os : Os) (started : os.Started) (H : Type) (enc : TypeId × Value → H) :
    ReturnsInHanded {} Try.checked os 3 .any (Rows.sumTellsSpec.pre6 enc Try.prog Try.f3 Rows.sumTellsRow.domain false) (Rows.sumTellsSpec.post enc Try.prog Try.f3 false true false false) := by
  refine returnsInHanded_of_change (C := Try.checked) sumTells_own started (by kernel_rfl) Try.func3
    (ChangeSpec.witness6 (enc := enc) (C := Try.checked) false ⟨#[], #[.string ByteArray.empty, .string ByteArray.empty], []⟩ 8 (by kernel_rfl) (by kernel_rfl) (by kernel_rfl) (by kernel_rfl)) ?_
  intro W base args ds gs before hval0 hW hcnd _
  have hval : ∀ (j : Nat) t v, Try.f3.params[j]? = some t → args[j]? = some v → Value.okWide Try.prog W .any base t v := hval0
  have hW' := hW
  obtain ⟨p, q, hA0, hV, rfl, hfz, hnd⟩ := hW
  have hA : DataW.TrodAll enc Try.prog W 0 (fun _ => true) true Try.f3.params.toList args.toList ds p := hA0
  rw [Try.params3] at hA hval
  obtain ⟨v0, vs0, d0, ds0, p0, q0, hargs, rfl, rfl, h0, r0⟩ := trodAll_cons hA
  obtain ⟨v1, vs1, d1, ds1, p1, q1, rfl, rfl, rfl, h1, r1⟩ := trodAll_cons r0
  obtain ⟨rfl, rfl, rfl⟩ := trodAll_nil r1
  obtain rfl : args = #[v0, v1] := by cases args; simp_all
  obtain ⟨rfl, rfl⟩ := trodVars_none hV
  obtain ⟨a0, rfl, rfl, rfl, w0⟩ := open_string Try.underlying9 (hval 0 9 v0 rfl rfl) h0
  obtain ⟨a1, rfl, rfl, rfl, w1⟩ := open_string Try.underlying9 (hval 1 9 v1 rfl rfl) h1
  clear hA0 hval0
  refine (sumTells_walk a0 a1 w0 w1 W).mono fun e W' ⟨he, bel⟩ => ?_
  subst he
  exact ⟨_, rfl, _, _, _, [], _, [], hW', trodAll_mk1 (shut_bool Try.underlying4 _), (trodAll_cons_mk (shut_string Try.underlying9 w0) (trodAll_cons_mk (shut_string Try.underlying9 w1) trodAll_mk0)), rfl, bel.frame _, fun h => by cases h⟩

theorem sumTells_over : Rows.sumTellsRow.holds Try.pinned (OpenSpec.ofChange Rows.sumTellsSpec) :=
  OpenClaim.holds_of_wide 3 Try.f3 rfl rfl rfl rfl rfl rfl rfl ⟨rfl, rfl, rfl, rfl, rfl⟩ rfl rfl rfl rfl rfl (by kernel_rfl) Try.func3 (by kernel_rfl)
    (of_decide_eq_true (by kernel_rfl)) (by unfold Func.isWrapper; first | (rw [if_pos (by decide +kernel)]; kernel_rfl) | (rw [if_neg (by decide +kernel)]; exact ⟨rfl, rfl⟩))
    (fun os started H enc _ => sumTells_lifted os started H enc)

theorem sumTells_holds : Rows.SumTellsSaid := sumTells_over
#print axioms sumTells_holds
end Go.Proofs.Ytcolllffjlahbaa
