/- EventReads: of whatever bytes the package event and the document's own reader tell the same events at their beginning, how many bytes they are, or what is wrong; for every string of at most 800 bytes (above that the statement asks nothing). -/
import Derived.Test.YtkklchobiiajgaaEO
import Derived.ProofKit
import Derived.OpenShut
import Derived.ShutString
import Derived.ChangeOld
import Derived.Below
import Derived.SizedLaws
namespace Go.Proofs.Ytkklchobiiajgaa
open Go.ChangeShapes Go.WideShapes Go.ChangeAt Go.RowKit
open Go.ChangeMaps (open_string shut_string)
set_option linter.unusedVariables false

set_option maxRecDepth 100000 in
set_option maxHeartbeats 4000000 in
theorem eventReads_walk (w : World) (a0 : ByteArray) (w0 : a0.size ≤ maxLen) : Calls Try.prog 4 #[.string a0] w fun e w' => e = .returned (.bool true) ∧ Below w.heap.size w w' := by
  have w1 : a0.size ≤ 9223372036854775807 := by unfold maxLen at w0; omega
  clear w0
  by_cases hl : a0.size ≤ 800
  · have hl' : (a0.size : Int) ≤ 800 := by omega
    rcases hR : readE a0.data.toList with ⟨L, z, e⟩
    have HR := hid hR
    have h6 : a0.size ≤ 1000000 := by omega
    obtain ⟨n, hn⟩ : ∃ n, Hid (L.length = n) := ⟨_, rfl⟩
    have hl4 : n ≤ 1000 := by rw [← hn.out]; exact read_len hR
    clear hR
    go_enter Try.func4, Try.ntmps4
    go_wp2_with fail
    refine (known_holds _).mono ?_
    rintro x v1 ⟨rfl, hb1⟩
    go_wp2_with fail
    refine (event_read HR h6 _).mono ?_
    rintro x v2 ⟨s2, rfl, ho2, hb2⟩
    have hB2 := below_on hb1 hb2
    rw [hn.out] at ho2
    obtain ⟨p2, c2, rfl⟩ := owns_slice ho2
    have H2 := hid (rowE_own ho2 hn.out.symm)
    clear ho2 hb1 hb2
    go_wp2_with fail
    refine (refev_read HR h6 _).mono ?_
    rintro x v3 ⟨s3, rfl, ho3, hb3⟩
    have hB3 := below_on hB2 hb3
    rw [hn.out] at ho3
    obtain ⟨p3, c3, rfl⟩ := owns_slice ho3
    have H3 := hid (rowE_own ho3 hn.out.symm)
    have H2' := hid (H2.out.later hb3)
    clear ho3 hB2 hb3 H2
    go_wp2_with fail
    refine (refev_same (cap := c2) (cap' := c3) (show Hid (sameE L L = true) from sameE_self L) H2'.out H3.out hn hn hl4 hl4).mono ?_
    rintro x v4 ⟨rfl, hb4⟩
    have hB4 := below_on hB3 hb4
    clear hb4 hB3
    go_wp2_with fail
    go_ret
    exact ⟨rfl, hB4⟩
  · have hl' : (800 : Int) < (a0.size : Int) := by omega
    clear hl
    go_enter Try.func4, Try.ntmps4
    go_wp2_with fail
    refine (known_holds _).mono ?_
    rintro x v1 ⟨rfl, hb1⟩
    go_wp2_with fail
    go_ret
    exact ⟨rfl, hb1⟩

theorem eventReads_own : ownKnob Try.prog.godebug = none := by kernel_rfl
theorem eventReads_laidOut : laidOutB Try.prog = true := by kernel_rfl
set_option maxRecDepth 100000 in
theorem eventReads_lifted (os : Os) (started : os.Started) (H : Type) (enc : TypeId × Value → H) :
    ReturnsInHanded {} Try.checked os 4 .any (Rows.eventReadsSpec.pre6 enc Try.prog Try.f4 Rows.eventReadsRow.domain false) (Rows.eventReadsSpec.post enc Try.prog Try.f4 false true false false) := by
  refine returnsInHanded_of_change (C := Try.checked) eventReads_own started (by kernel_rfl) Try.func4
    (ChangeSpec.witness6 (enc := enc) (C := Try.checked) false ⟨#[], #[.string ByteArray.empty], []⟩ 8 (by kernel_rfl) (by kernel_rfl) (by kernel_rfl) (by kernel_rfl)) ?_
  intro W base args ds gs before hval0 hW hcnd _
  have hval : ∀ (j : Nat) t v, Try.f4.params[j]? = some t → args[j]? = some v → Value.okWide Try.prog W .any base t v := hval0
  have hW' := hW
  obtain ⟨p, q, hA0, hV, rfl, hfz, hnd⟩ := hW
  have hA : DataW.TrodAll enc Try.prog W 0 (fun _ => true) true Try.f4.params.toList args.toList ds p := hA0
  rw [Try.params4] at hA hval
  obtain ⟨v0, vs0, d0, ds0, p0, q0, hargs, rfl, rfl, h0, r0⟩ := trodAll_cons hA
  obtain ⟨rfl, rfl, rfl⟩ := trodAll_nil r0
  obtain rfl : args = #[v0] := by cases args; simp_all
  obtain ⟨rfl, rfl⟩ := trodVars_none hV
  have k0 := h0
  have lt0 : ∀ x ∈ p0, x.block < W.heap.size := by obtain ⟨m, hm⟩ := k0; exact DataW.trod_lt m _ _ _ hm
  obtain ⟨a0, rfl, rfl, rfl, w0⟩ := open_string Try.underlying9 (hval 0 9 v0 rfl rfl) h0
  clear hA0 hval0
  refine (eventReads_walk W a0 w0).mono fun e W' ⟨he, bel⟩ => ?_
  subst he
  exact ⟨_, rfl, _, _, _, [], _, [], hW', trodAll_mk1 (shut_bool Try.underlying4 _), (trodAll_cons_mk (Below.trod eventReads_laidOut (by kernel_rfl) (of_decide_eq_true (by kernel_rfl)) k0 bel lt0) trodAll_mk0), rfl, bel.frame _, fun h => by cases h⟩

theorem eventReads_over : Rows.eventReadsRow.holds Try.pinned (OpenSpec.ofChange Rows.eventReadsSpec) :=
  OpenClaim.holds_of_wide 4 Try.f4 rfl rfl rfl rfl rfl rfl rfl ⟨rfl, rfl, rfl, rfl, rfl⟩ rfl rfl rfl rfl rfl (by kernel_rfl) Try.func4 (by kernel_rfl)
    (of_decide_eq_true (by kernel_rfl)) (by unfold Func.isWrapper; first | (rw [if_pos (by decide +kernel)]; kernel_rfl) | (rw [if_neg (by decide +kernel)]; exact ⟨rfl, rfl⟩))
    (fun os started H enc _ => eventReads_lifted os started H enc)

theorem eventReads_holds : Rows.EventReadsSaid := eventReads_over
#print axioms eventReads_holds
end Go.Proofs.Ytkklchobiiajgaa
