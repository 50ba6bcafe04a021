/- For every two numbers NumOrder returns true, and each argument reads behind the call as before it: numbers whose bytes begin alike are told apart by what follows, and none is the beginning of another one. No conditions. -/
import Derived.Test.YtkipjpffilinlaaKnown
import Derived.ProofKit
import Derived.OpenShut
import Derived.ShutString
namespace Go.Proofs.Ytkipjpffilinlaa
open Go.ChangeShapes Go.WideShapes Go.ChangeAt Go.RowKit
open Go.ChangeMaps (open_string shut_string)
set_option linter.unusedVariables false

theorem numOrder_own : ownKnob Try.prog.godebug = none := by kernel_rfl

theorem same_bytes (a b : Nat) (ha : a ≤ 18446744073709551615) (hb : b ≤ 18446744073709551615) : (put a == put b) = ((a : Int) == (b : Int)) := by
  by_cases h : a = b
  · subst h; simp
  · have h1 : put a ≠ put b := fun e => h (put_inj a b ha hb [] (by rw [List.append_nil]; exact e))
    have h2 : ¬ (a : Int) = b := by omega
    rw [beq_eq_false_iff_ne.2 h1, beq_eq_false_iff_ne.2 h2]
theorem same_head (a b : Nat) (ha : a ≤ 18446744073709551615) (hb : b ≤ 18446744073709551615) : (put a == ((⟨(put b).toArray⟩ : ByteArray).extract 0 (put a).length).toList) = ((a : Int) == (b : Int)) := by
  rw [ByteArray.extract_mk, ByteArray.toList_mk]
  simp only [List.drop_zero, Nat.sub_zero]
  by_cases h : a = b
  · subst h; simp
  · have h1 : put a ≠ (put b).take (put a).length := fun e => h (put_inj a b ha hb ((put b).drop (put a).length) (by
      conv => lhs; lhs; rw [e]
      exact List.take_append_drop _ _))
    have h2 : ¬ (a : Int) = b := by omega
    rw [beq_eq_false_iff_ne.2 h1, beq_eq_false_iff_ne.2 h2]
theorem int_beq_comm (a b : Nat) : ((a : Int) == (b : Int)) = ((b : Int) == (a : Int)) := by
  by_cases h : (a : Int) = b
  · rw [h]
  · rw [beq_eq_false_iff_ne.2 h, beq_eq_false_iff_ne.2 (fun e => h e.symm)]
set_option maxRecDepth 100000 in
set_option maxHeartbeats 1000000 in
theorem numOrder_walk (a0 : Int) (a1 : Int) (w0 : (Lit.int .u64 a0).wf = true) (w1 : (Lit.int .u64 a1).wf = true) (w : World) :
    Calls Try.prog 6 #[.int .u64 a0, .int .u64 a1] w fun e w' => e = .returned (.bool true) ∧ Below w.heap.size w w' := by
  obtain ⟨b0, b1⟩ := bounds_u64 w0
  obtain ⟨c0, c1⟩ := bounds_u64 w1
  obtain ⟨a, rfl⟩ := Int.eq_ofNat_of_zero_le b0
  obtain ⟨b, rfl⟩ := Int.eq_ofNat_of_zero_le c0
  have ha : a ≤ 18446744073709551615 := by omega
  have hb : b ≤ 18446744073709551615 := by omega
  go_enter Try.func6, Try.ntmps6
  go_wp2_with fail
  refine (known9 _).mono ?_
  rintro x w1 ⟨rfl, hb1⟩
  go_wp2_with fail
  refine (put_box a ha _).mono ?_
  rintro x w2 ⟨S, rfl, HS, hb2⟩
  go_wp2_with fail
  refine (put_box b hb _).mono ?_
  rintro x w3 ⟨T, rfl, HT, hb3⟩
  have hbb : Below w.heap.size w w3 := (hb1.trans (hb2.mono hb1.size)).trans (hb3.mono (by have := hb1.size; have := hb2.size; omega))
  have hS := put_length a
  have hT := put_length b
  rw [← HS.out] at hS
  rw [← HT.out] at hT
  clear hb1 hb2 hb3
  by_cases hlt : T.length < S.length
  · have H1 : Hid ((T == S) = ((a : Int) == (b : Int))) := by rw [HS.out, HT.out, int_beq_comm]; exact same_bytes b a hb ha
    have H2 : Hid ((T == ((⟨S.toArray⟩ : ByteArray).extract 0 T.length).toList) = ((a : Int) == (b : Int))) := by rw [HS.out, HT.out, int_beq_comm]; exact same_head b a hb ha
    go_wp2
    · go_ret
      exact ⟨congrArg (fun x => Ending.returned (.bool x)) (decide_eq_true (by omega)), hbb⟩
  · have H1 : Hid ((S == T) = ((a : Int) == (b : Int))) := by rw [HS.out, HT.out]; exact same_bytes a b ha hb
    have H2 : Hid ((S == ((⟨T.toArray⟩ : ByteArray).extract 0 S.length).toList) = ((a : Int) == (b : Int))) := by rw [HS.out, HT.out]; exact same_head a b ha hb
    go_wp2
    · go_ret
      exact ⟨congrArg (fun x => Ending.returned (.bool x)) (decide_eq_true (by omega)), hbb⟩

set_option maxRecDepth 100000 in
theorem numOrder_lifted (os : Os) (started : os.Started) (H : Type) (enc : TypeId × Value → H) :
    ReturnsInHanded {} Try.checked os 6 .any (Rows.numOrderSpec.pre6 enc Try.prog Try.f6 Rows.numOrderRow.domain false) (Rows.numOrderSpec.post enc Try.prog Try.f6 false true false false) := by
  refine returnsInHanded_of_change (C := Try.checked) numOrder_own started (by kernel_rfl) Try.func6
    (ChangeSpec.witness6 (enc := enc) (C := Try.checked) false ⟨#[], #[.int .u64 0, .int .u64 0], []⟩ 8 (by kernel_rfl) (by kernel_rfl) (by kernel_rfl) (by kernel_rfl)) ?_
  intro W base args ds gs before hval0 hW hcnd _
  have hval : ∀ (j : Nat) t v, Try.f6.params[j]? = some t → args[j]? = some v → Value.okWide Try.prog W .any base t v := hval0
  have hW' := hW
  obtain ⟨p, q, hA0, hV, rfl, hfz, hnd⟩ := hW
  have hA : DataW.TrodAll enc Try.prog W 0 (fun _ => true) true Try.f6.params.toList args.toList ds p := hA0
  rw [Try.params6] at hA hval
  obtain ⟨v0, vs0, d0, ds0, p0, q0, hargs, rfl, rfl, h0, r0⟩ := trodAll_cons hA
  obtain ⟨v1, vs1, d1, ds1, p1, q1, rfl, rfl, rfl, h1, r1⟩ := trodAll_cons r0
  obtain ⟨rfl, rfl, rfl⟩ := trodAll_nil r1
  obtain rfl : args = #[v0, v1] := by cases args; simp_all
  obtain ⟨rfl, rfl⟩ := trodVars_none hV
  obtain ⟨a0, rfl, rfl, rfl, w0⟩ := open_int Try.underlying22 (hval 0 22 v0 rfl rfl) h0
  obtain ⟨a1, rfl, rfl, rfl, w1⟩ := open_int Try.underlying22 (hval 1 22 v1 rfl rfl) h1
  clear hA0 hval0
  refine (numOrder_walk a0 a1 w0 w1 W).mono fun e W' ⟨he, bel⟩ => ?_
  subst he
  exact ⟨_, rfl, _, _, _, [], _, [], hW', trodAll_mk1 (shut_bool Try.underlying4 _), (trodAll_cons_mk (shut_int Try.underlying22 w0) (trodAll_cons_mk (shut_int Try.underlying22 w1) trodAll_mk0)), rfl, bel.frame _, fun h => by cases h⟩

theorem numOrder_over : Rows.numOrderRow.holds Try.pinned (OpenSpec.ofChange Rows.numOrderSpec) :=
  OpenClaim.holds_of_wide 6 Try.f6 rfl rfl rfl rfl rfl rfl rfl ⟨rfl, rfl, rfl, rfl, rfl⟩ rfl rfl rfl rfl rfl (by kernel_rfl) Try.func6 (by kernel_rfl)
    (of_decide_eq_true (by kernel_rfl)) (by unfold Func.isWrapper; first | (rw [if_pos (by decide +kernel)]; kernel_rfl) | (rw [if_neg (by decide +kernel)]; exact ⟨rfl, rfl⟩))
    (fun os started H enc _ => numOrder_lifted os started H enc)

theorem numOrder_holds : Rows.NumOrderSaid := numOrder_over
#print axioms numOrder_holds
end Go.Proofs.Ytkipjpffilinlaa
