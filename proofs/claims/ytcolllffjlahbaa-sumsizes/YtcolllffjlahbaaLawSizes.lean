/- For every two bytes SumSizes returns true, and each argument reads behind the call as before it: as many bytes as a frame may hold come back, one more is too large. No conditions. -/
import Derived.Test.YtcolllffjlahbaaKnown2
import Derived.Test.YtcolllffjlahbaaSumP2
import Derived.Test.YtcolllffjlahbaaVRow
import Derived.ProofKit
import Derived.OpenShut
import Derived.ShutString
namespace Go.Proofs.Ytcolllffjlahbaa
open Go.ChangeShapes Go.WideShapes Go.ChangeAt Go.RowKit
open Go.ChangeMaps (open_string shut_string)
set_option linter.unusedVariables false

theorem sumSizes_own : ownKnob Try.prog.godebug = none := by kernel_rfl

set_option maxRecDepth 100000 in
set_option maxHeartbeats 1000000 in
theorem sumSizes_walk (a0 : Int) (a1 : Int) (w0 : (Lit.int .u8 a0).wf = true) (w1 : (Lit.int .u8 a1).wf = true) (w : World) :
    Calls Try.prog 8 #[.int .u8 a0, .int .u8 a1] w fun e w' => e = .returned (.bool true) ∧ Below w.heap.size w w' := by
  have hr0 := bounds_u8 w0
  have hr1 := bounds_u8 w1
  obtain ⟨i0, hi, hz0, hz1, hz2⟩ := info_parts Try.info5
  obtain ⟨n, hn, hn1, hn2⟩ : ∃ n : Nat, (n : Int) = 39999 + a0 % 3 ∧ 39999 ≤ n ∧ n ≤ 40001 := ⟨(39999 + a0 % 3).toNat, by omega, by omega, by omega⟩
  obtain ⟨c, hc⟩ : ∃ c : UInt8, (c.toNat : Int) = a1 := ⟨UInt8.ofNat a1.toNat, by simp; omega⟩
  subst hc
  obtain ⟨X, hX⟩ : ∃ X : List UInt8, X = (List.replicate n 0).set (n - 1) c := ⟨_, rfl⟩
  have hXl : X.length = n := by rw [hX]; simp
  obtain ⟨L, hL⟩ : ∃ L, L = wrap X := ⟨_, rfl⟩
  have HL : Hid (L = wrap (⟨X.toArray⟩ : ByteArray).data.toList) := hL
  have hLl : L.length ≤ 50000 := by
    rw [hL, wrap_length]; unfold text
    have := (put_length X.length).2
    simp at this ⊢; omega
  go_enter Try.func8, Try.ntmps8
  go_wp2_with fail
  refine (known2 _).mono ?_
  rintro x w2 ⟨rfl, hb1⟩
  have s1 := hb1.size
  obtain ⟨w3, hmk, hv0, hb2⟩ := made_bytes (P := Try.prog) 33 5 i0 Try.underlying33 hi hz0 hz1 hz2 n (by omega) (39999 + a0 % 3) hn w2
  have hix : n - 1 = (39999 + a0 % 3).toNat - 1 := by omega
  obtain ⟨b, hcell⟩ : ∃ b : Value, w3.cell? ⟨w2.heap.size, n - 1, none⟩ = some b := ⟨_, hv0.byte (n - 1) (by simp; omega)⟩
  have hfro := hv0.frozen (n - 1) (by rw [u8s_length]; simp; omega)
  have hv1 := hv0.setByte (n - 1) c
  rw [← hX] at hv1
  have hb3 : Below w.heap.size w (w3.setCell ⟨w2.heap.size, n - 1, none⟩ (.int .u8 c.toNat)) := (hb1.trans (hb2.mono s1)).setCell s1 _
  have hcv := hv1.text (P := Try.prog) (src := 33) (dst := 9) (cap := n) Try.underlying33 Try.underlying5 Try.underlying9 hXl
  rw [hix] at hcell hfro hv1 hb3 hcv
  obtain ⟨w4, hw4⟩ : ∃ w4, w4 = w3.setCell ⟨w2.heap.size, (39999 + a0 % 3).toNat - 1, none⟩ (.int .u8 c.toNat) := ⟨_, rfl⟩
  have hg4 := hv1.lt
  have H4 : Hid (w4 = w3.setCell ⟨w2.heap.size, (39999 + a0 % 3).toNat - 1, none⟩ (.int .u8 c.toNat)) := hw4
  rw [← hw4] at hv1 hb3 hg4
  have s3 := hb3.size
  clear hX hw4
  by_cases hle : n ≤ 40000
  · have hmod : a0 % 3 ≤ 1 := by omega
    have HO : Hid (unwrap (⟨L.toArray⟩ : ByteArray).data.toList = ((⟨X.toArray⟩ : ByteArray).data.toList, L.length, 0)) := by
      have := unwrap_wrap X [] (by omega)
      rw [List.append_nil, ← hL] at this
      exact this
    clear hL
    go_wp2_with fail
    rw [← H4.out]
    refine (wrap_at (s := ⟨X.toArray⟩) HL (show X.length ≤ _ by omega) _).mono ?_
    rintro x w5 ⟨rfl, hb5⟩
    have s5 := hb5.size
    go_wp2_with fail
    refine (open_at (s := ⟨L.toArray⟩) (u := ⟨X.toArray⟩) HO (show L.length ≤ _ by omega) _).mono ?_
    rintro x w6 ⟨rfl, hb6⟩
    have hv6 := (hv1.below hb5 hg4).below hb6 (by omega)
    have hcv6 := hv6.text (P := Try.prog) (src := 33) (dst := 9) (cap := n) Try.underlying33 Try.underlying5 Try.underlying9 hXl
    go_wp2
    go_ret
    exact ⟨by simp, (hb3.trans (hb5.mono s3)).trans (hb6.mono (by omega))⟩
  · have hmod : 2 ≤ a0 % 3 := by omega
    have HO : Hid (unwrap (⟨L.toArray⟩ : ByteArray).data.toList = ((⟨#[]⟩ : ByteArray).data.toList, 0, 13)) := by
      have := unwrap_large X [] (by omega) (by omega)
      rw [List.append_nil, ← hL] at this
      exact this
    clear hL
    go_wp2_with fail
    rw [← H4.out]
    refine (wrap_at (s := ⟨X.toArray⟩) HL (show X.length ≤ _ by omega) _).mono ?_
    rintro x w5 ⟨rfl, hb5⟩
    have s5 := hb5.size
    go_wp2_with fail
    refine (open_at (s := ⟨L.toArray⟩) (u := ⟨#[]⟩) HO (show L.length ≤ _ by omega) _).mono ?_
    rintro x w6 ⟨rfl, hb6⟩
    go_wp2
    go_ret
    exact ⟨by simp, (hb3.trans (hb5.mono s3)).trans (hb6.mono (by omega))⟩

set_option maxRecDepth 100000 in
theorem sumSizes_lifted (os : Os) (started : os.Started) (H : Type) (enc : TypeId × Value → H) :
    ReturnsInHanded {} Try.checked os 8 .any (Rows.sumSizesSpec.pre6 enc Try.prog Try.f8 Rows.sumSizesRow.domain false) (Rows.sumSizesSpec.post enc Try.prog Try.f8 false true false false) := by
  refine returnsInHanded_of_change (C := Try.checked) sumSizes_own started (by kernel_rfl) Try.func8
    (ChangeSpec.witness6 (enc := enc) (C := Try.checked) false ⟨#[], #[.int .u8 0, .int .u8 0], []⟩ 8 (by kernel_rfl) (by kernel_rfl) (by kernel_rfl) (by kernel_rfl)) ?_
  intro W base args ds gs before hval0 hW hcnd _
  have hval : ∀ (j : Nat) t v, Try.f8.params[j]? = some t → args[j]? = some v → Value.okWide Try.prog W .any base t v := hval0
  have hW' := hW
  obtain ⟨p, q, hA0, hV, rfl, hfz, hnd⟩ := hW
  have hA : DataW.TrodAll enc Try.prog W 0 (fun _ => true) true Try.f8.params.toList args.toList ds p := hA0
  rw [Try.params8] at hA hval
  obtain ⟨v0, vs0, d0, ds0, p0, q0, hargs, rfl, rfl, h0, r0⟩ := trodAll_cons hA
  obtain ⟨v1, vs1, d1, ds1, p1, q1, rfl, rfl, rfl, h1, r1⟩ := trodAll_cons r0
  obtain ⟨rfl, rfl, rfl⟩ := trodAll_nil r1
  obtain rfl : args = #[v0, v1] := by cases args; simp_all
  obtain ⟨rfl, rfl⟩ := trodVars_none hV
  obtain ⟨a0, rfl, rfl, rfl, w0⟩ := open_int Try.underlying5 (hval 0 5 v0 rfl rfl) h0
  obtain ⟨a1, rfl, rfl, rfl, w1⟩ := open_int Try.underlying5 (hval 1 5 v1 rfl rfl) h1
  clear hA0 hval0
  refine (sumSizes_walk a0 a1 w0 w1 W).mono fun e W' ⟨he, bel⟩ => ?_
  subst he
  exact ⟨_, rfl, _, _, _, [], _, [], hW', trodAll_mk1 (shut_bool Try.underlying4 _), (trodAll_cons_mk (shut_int Try.underlying5 w0) (trodAll_cons_mk (shut_int Try.underlying5 w1) trodAll_mk0)), rfl, bel.frame _, fun h => by cases h⟩

theorem sumSizes_over : Rows.sumSizesRow.holds Try.pinned (OpenSpec.ofChange Rows.sumSizesSpec) :=
  OpenClaim.holds_of_wide 8 Try.f8 rfl rfl rfl rfl rfl rfl rfl ⟨rfl, rfl, rfl, rfl, rfl⟩ rfl rfl rfl rfl rfl (by kernel_rfl) Try.func8 (by kernel_rfl)
    (of_decide_eq_true (by kernel_rfl)) (by unfold Func.isWrapper; first | (rw [if_pos (by decide +kernel)]; kernel_rfl) | (rw [if_neg (by decide +kernel)]; exact ⟨rfl, rfl⟩))
    (fun os started H enc _ => sumSizes_lifted os started H enc)

theorem sumSizes_holds : Rows.SumSizesSaid := sumSizes_over
#print axioms sumSizes_holds
end Go.Proofs.Ytcolllffjlahbaa
