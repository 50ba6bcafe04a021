/- For every two arguments NumSizes returns true, and each argument reads behind the call as before it: a number of the program has as many bytes as it has sevens of bits. No conditions. -/
import Derived.Test.YtkipjpffilinlaaKnown
import Derived.ProofKit
import Derived.OpenShut
import Derived.ShutString
namespace Go.Proofs.Ytkipjpffilinlaa
open Go.ChangeShapes Go.WideShapes Go.ChangeAt Go.RowKit
open Go.ChangeMaps (open_string shut_string)
set_option linter.unusedVariables false

theorem numSizes_own : ownKnob Try.prog.godebug = none := by kernel_rfl

theorem size_arg (k low : Nat) (hk : k ≤ 63) (hl : low ≤ 18446744073709551615) :
    bits .or .u64 (IntKind.u64.wrap (2 ^ k)) (bits .and .u64 (low : Int) (IntKind.u64.wrap (IntKind.u64.wrap (2 ^ k) - 1))) = ((2 ^ k + low % 2 ^ k : Nat) : Int) := by
  have h1 : 1 ≤ 2 ^ k := Nat.pow_pos (by decide)
  have h2 : 2 ^ k ≤ 2 ^ 63 := Nat.pow_le_pow_right (by decide) hk
  have h3 : low % 2 ^ k < 2 ^ k := Nat.mod_lt _ h1
  have e1 : ((2 : Int) ^ k) = ((2 ^ k : Nat) : Int) := by simp
  rw [e1, IntWalk.u64_in ((2 ^ k : Nat) : Int) ⟨by omega, by omega⟩, IntWalk.u64_in (((2 ^ k : Nat) : Int) - 1) ⟨by omega, by omega⟩]
  rw [show ((2 ^ k : Nat) : Int) - 1 = ((2 ^ k - 1 : Nat) : Int) by omega, u64_and_nat low (2 ^ k - 1) (by omega) (by omega), Nat.and_two_pow_sub_one_eq_mod]
  rw [u64_or_nat _ _ (by omega) (by omega), nat_join k _ _ (Nat.mod_self _) h3]
theorem high_eq {L : List UInt8} {j : Nat} (hlt : j < L.length) (h : 128 ≤ L[j].toNat ↔ j + 1 < L.length) :
    (!(decide (128 ≤ (((⟨L.toArray⟩ : ByteArray)[j]'hlt).toNat : Int)) == decide ((j : Int) < (L.length : Int) - 1))) = false := by
  have e : ((⟨L.toArray⟩ : ByteArray)[j]'hlt) = L[j] := rfl
  rw [e]
  have h2 : (128 ≤ (L[j].toNat : Int)) ↔ ((j : Int) < (L.length : Int) - 1) := by omega
  simp [h2]
set_option maxRecDepth 100000 in
set_option maxHeartbeats 1000000 in
theorem numSizes_walk (a0 : Int) (a1 : Int) (w0 : (Lit.int .u8 a0).wf = true) (w1 : (Lit.int .u64 a1).wf = true) (w : World) :
    Calls Try.prog 5 #[.int .u8 a0, .int .u64 a1] w fun e w' => e = .returned (.bool true) ∧ Below w.heap.size w w' := by
  obtain ⟨b0, b1⟩ := bounds_u8 w0
  obtain ⟨c0, c1⟩ := bounds_u64 w1
  obtain ⟨low, rfl⟩ := Int.eq_ofNat_of_zero_le c0
  obtain ⟨k, hk⟩ : ∃ k : Nat, a0 % 64 = (k : Int) := ⟨(a0 % 64).toNat, by omega⟩
  have hk63 : k ≤ 63 := by omega
  have hm : 2 ^ k + low % 2 ^ k ≤ 18446744073709551615 ∧ 2 ^ k ≤ 2 ^ k + low % 2 ^ k ∧ 2 ^ k + low % 2 ^ k < 2 ^ (k + 1) := by
    have h1 : 1 ≤ 2 ^ k := Nat.pow_pos (by decide)
    have h2 : 2 ^ k ≤ 2 ^ 63 := Nat.pow_le_pow_right (by decide) hk63
    have h3 : low % 2 ^ k < 2 ^ k := Nat.mod_lt _ h1
    have h4 : 2 ^ (k + 1) = 2 ^ k * 2 := Nat.pow_succ ..
    omega
  have ho := size_arg k low hk63 (by omega)
  generalize 2 ^ k + low % 2 ^ k = m at ho hm
  obtain ⟨hm1, hm2, hm3⟩ := hm
  have HM2 : Hid (2 ^ k ≤ m) := hm2
  have HM3 : Hid (m < 2 ^ (k + 1)) := hm3
  clear hm2 hm3
  go_enter Try.func5, Try.ntmps5
  go_wp2_with fail
  refine (known9 _).mono ?_
  rintro x w1 ⟨rfl, hb1⟩
  go_wp2_with fail
  refine (put_box m hm1 _).mono ?_
  rintro x w2 ⟨L, rfl, HL, hb2⟩
  clear ho
  have hlen : L.length = k / 7 + 1 := by rw [HL.out]; exact putF_size 9 m k (by omega) HM2.out HM3.out
  have hb : Below w.heap.size w w2 := hb1.trans (hb2.mono hb1.size)
  have hq : ((L.length : Int) != (k : Int) / 7 + 1) = false := by rw [hlen]; simp
  have hl10 : L.length ≤ 10 := by omega
  have HLen : Hid (L.length = k / 7 + 1) := hlen
  clear hlen hb1 hb2
  go_wp2
  go_loop [8] (fun i => ∃ j : Nat, i = .int .i64 j ∧ j ≤ L.length) (fun i => L.length - (intOf i).toNat)
  case atStart => exact ⟨0, rfl, by omega⟩
  case round =>
    obtain ⟨j, rfl, hj⟩ := hrel
    by_cases hlt : j < L.length
    · have HH : Hid (128 ≤ L[j].toNat ↔ j + 1 < L.length) := by
        have h := put_high m j L[j] hm1 (by rw [← HL.out]; simp [hlt])
        rw [← HL.out] at h
        exact h
      go_wp2
      · have h : false = true := (high_eq hlt HH.out).symm.trans (by assumption)
        cases h
      · go_round
        case rel => exact ⟨j + 1, by go_num, by omega⟩
        case measure => simp [intOf]; omega
    · go_wp2
      go_ret
      exact ⟨rfl, hb⟩

set_option maxRecDepth 100000 in
theorem numSizes_lifted (os : Os) (started : os.Started) (H : Type) (enc : TypeId × Value → H) :
    ReturnsInHanded {} Try.checked os 5 .any (Rows.numSizesSpec.pre6 enc Try.prog Try.f5 Rows.numSizesRow.domain false) (Rows.numSizesSpec.post enc Try.prog Try.f5 false true false false) := by
  refine returnsInHanded_of_change (C := Try.checked) numSizes_own started (by kernel_rfl) Try.func5
    (ChangeSpec.witness6 (enc := enc) (C := Try.checked) false ⟨#[], #[.int .u8 0, .int .u64 0], []⟩ 8 (by kernel_rfl) (by kernel_rfl) (by kernel_rfl) (by kernel_rfl)) ?_
  intro W base args ds gs before hval0 hW hcnd _
  have hval : ∀ (j : Nat) t v, Try.f5.params[j]? = some t → args[j]? = some v → Value.okWide Try.prog W .any base t v := hval0
  have hW' := hW
  obtain ⟨p, q, hA0, hV, rfl, hfz, hnd⟩ := hW
  have hA : DataW.TrodAll enc Try.prog W 0 (fun _ => true) true Try.f5.params.toList args.toList ds p := hA0
  rw [Try.params5] at hA hval
  obtain ⟨v0, vs0, d0, ds0, p0, q0, hargs, rfl, rfl, h0, r0⟩ := trodAll_cons hA
  obtain ⟨v1, vs1, d1, ds1, p1, q1, rfl, rfl, rfl, h1, r1⟩ := trodAll_cons r0
  obtain ⟨rfl, rfl, rfl⟩ := trodAll_nil r1
  obtain rfl : args = #[v0, v1] := by cases args; simp_all
  obtain ⟨rfl, rfl⟩ := trodVars_none hV
  obtain ⟨a0, rfl, rfl, rfl, w0⟩ := open_int Try.underlying5 (hval 0 5 v0 rfl rfl) h0
  obtain ⟨a1, rfl, rfl, rfl, w1⟩ := open_int Try.underlying22 (hval 1 22 v1 rfl rfl) h1
  clear hA0 hval0
  refine (numSizes_walk a0 a1 w0 w1 W).mono fun e W' ⟨he, bel⟩ => ?_
  subst he
  exact ⟨_, rfl, _, _, _, [], _, [], hW', trodAll_mk1 (shut_bool Try.underlying4 _), (trodAll_cons_mk (shut_int Try.underlying5 w0) (trodAll_cons_mk (shut_int Try.underlying22 w1) trodAll_mk0)), rfl, bel.frame _, fun h => by cases h⟩

theorem numSizes_over : Rows.numSizesRow.holds Try.pinned (OpenSpec.ofChange Rows.numSizesSpec) :=
  OpenClaim.holds_of_wide 5 Try.f5 rfl rfl rfl rfl rfl rfl rfl ⟨rfl, rfl, rfl, rfl, rfl⟩ rfl rfl rfl rfl rfl (by kernel_rfl) Try.func5 (by kernel_rfl)
    (of_decide_eq_true (by kernel_rfl)) (by unfold Func.isWrapper; first | (rw [if_pos (by decide +kernel)]; kernel_rfl) | (rw [if_neg (by decide +kernel)]; exact ⟨rfl, rfl⟩))
    (fun os started H enc _ => numSizes_lifted os started H enc)

theorem numSizes_holds : Rows.NumSizesSaid := numSizes_over
#print axioms numSizes_holds
end Go.Proofs.Ytkipjpffilinlaa
