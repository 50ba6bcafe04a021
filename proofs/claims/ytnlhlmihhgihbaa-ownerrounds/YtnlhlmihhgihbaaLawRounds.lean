/- OwnerRounds holds for every three bytes. -/
import Derived.Test.YtnlhlmihhgihbaaKnown13
import Derived.Test.YtnlhlmihhgihbaaOwO
import Derived.ProofKit
import Derived.OpenShut
import Derived.ShutString
import Derived.ChangeOld
import Derived.Below
import Derived.SizedLaws
namespace Go.Proofs.Ytnlhlmihhgihbaa
open Go.ChangeShapes Go.WideShapes Go.ChangeAt Go.RowKit
open Go.ChangeMaps (open_string shut_string)
set_option linter.unusedVariables false

theorem rounds_ok {k s u e : Int} {L : List Ow} {n : Nat} (hn : n < 16) (ho : L[n]? = some ⟨s, e⟩) (h0 : 0 ≤ u) (hk : u < k) (hne : ¬ u = s) :
    handE k L (n : Int) s u = 0 ∧ handL k L (n : Int) s u = L.set n ⟨u, wrap64 (e + 1)⟩ := by
  have h1 : handE k L (n : Int) s u = 0 := handE_ok (by simp [isCell]; omega) (by unfold isSrv; simp; omega) (by rw [at_nat ho]) hne
  exact ⟨h1, handL_ok h1 ho⟩
theorem rounds_no {k s u v e : Int} {L : List Ow} {n : Nat} (hn : n < 16) (ho : L[n]? = some ⟨v, e⟩) (h0 : 0 ≤ u) (hk : u < k) (hne : ¬ v = s) : handE k L (n : Int) s u = 17 :=
  handE_own (by simp [isCell]; omega) (by unfold isSrv; simp; omega) (by rw [at_nat ho]; exact hne)
theorem next_ne {s k : Int} (h0 : 0 ≤ s) (hk : s < k) (h2 : 2 ≤ k) : ¬ (s + 1) % k = s := by
  by_cases e : s + 1 = k
  · rw [e, Int.emod_self]; omega
  · rw [Int.emod_eq_of_lt (by omega) (by omega)]; omega
theorem next_s {a j s k : Int} (h : s = (a + j) % k) : (s + 1) % k = (a + (j + 1)) % k := by
  rw [h, Int.emod_add_emod, show a + j + 1 = a + (j + 1) by omega]
theorem dealt_at (k : Int) {n : Nat} (h : n < 16) : (dealt k)[n]? = some ⟨(n : Int) % k, 0⟩ := by
  simp [dealt, List.getElem?_map, List.getElem?_range h]
set_option maxHeartbeats 2000000 in
theorem ownerRounds_walk (w : World) (a0 : Int) (w0 : (Lit.int .u8 a0).wf = true) (a1 : Int) (w1 : (Lit.int .u8 a1).wf = true) (a2 : Int) (w2 : (Lit.int .u8 a2).wf = true) :
    Calls Try.prog 6 #[.int .u8 a0, .int .u8 a1, .int .u8 a2] w fun e w' => e = .returned (.bool true) ∧ Below w.heap.size w w' := by
  obtain ⟨b0, b0'⟩ := bounds_u8 w0
  obtain ⟨b1, b1'⟩ := bounds_u8 w1
  obtain ⟨b2, b2'⟩ := bounds_u8 w2
  have C0 := known w
  clear w0 w1 w2
  go_enter Try.func6, Try.ntmps6
  go_wp2_with fail
  refine C0.mono ?_
  rintro x w1 ⟨rfl, hB1⟩
  clear C0
  obtain ⟨k, hk⟩ : ∃ k, a0 % 3 + 2 = k := ⟨_, rfl⟩
  obtain ⟨n, hn⟩ : ∃ n : Nat, a1 % 16 = (n : Int) := ⟨(a1 % 16).toNat, by omega⟩
  obtain ⟨m, hm⟩ : ∃ m : Int, a2 % 5 = m := ⟨_, rfl⟩
  have k2 : 2 ≤ k := by omega
  have k4 : k ≤ 4 := by omega
  have n16 : n < 16 := by omega
  have m0 : 0 ≤ m := by omega
  have m4 : m ≤ 4 := by omega
  obtain ⟨T, hT⟩ : ∃ T, m * k = T := ⟨_, rfl⟩
  have HT := hid hT
  have T0 : 0 ≤ T := by rw [← hT]; exact Int.mul_nonneg m0 (by omega)
  have T16 : T ≤ 16 := by
    have : m * k ≤ 4 * 4 := Int.mul_le_mul m4 k4 (by omega) (by omega)
    omega
  have hw : wrap64 (m * k) = T := by rw [hT]; unfold wrap64; omega
  have C1 := own_new w1 k
  have hh : heldN k = k := by unfold heldN; omega
  rw [hh] at C1
  have kne : ¬ k = 0 := by omega
  clear hT hh
  go_wp2_with fail
  refine C1.mono ?_
  rintro x w2 ⟨rfl, hmb, hb2⟩
  clear C1
  go_upto_region 8 with fail
  rw [hw]
  have hB2 := below_on hB1 hb2
  have HM := hid hmb
  obtain ⟨a, ha⟩ : ∃ a, (n : Int) % k = a := ⟨_, rfl⟩
  have a0' : 0 ≤ a := by rw [← ha]; exact Int.emod_nonneg _ kne
  have ak : a < k := by rw [← ha]; exact Int.emod_lt_of_pos _ (by omega)
  have hat := dealt_at k n16
  rw [ha] at hat ⊢
  have HA := hid ha
  have ha2 : a = (a + ((0 : Nat) : Int)) % k := by rw [show a + ((0 : Nat) : Int) = a by simp]; exact (Int.emod_eq_of_lt a0' ak).symm
  have hg1 := hB1.size
  clear hk hn hm hw hmb hb2 b0 b0' b1 b1' b2 b2' ha m0 m4
  go_wp2_with fail
  go_loopw [10, 12, 13] (fun s10 s12 s13 wr => ∃ (j : Nat) (s : Int) (L : List Ow), (j : Int) ≤ T ∧ s10 = .int .i64 s ∧ s12 = .int .i64 (j : Int) ∧ Hid (s = (a + (j : Int)) % k) ∧ 0 ≤ s ∧ s < k ∧ MB wr w1.heap.size 54 (k - 1) L ∧ L[n]? = some ⟨s, (j : Int)⟩ ∧ Below w.heap.size w wr) (fun _ s12 _ _ => 17 - (intOf s12).toNat)
  case atStart => exact ⟨0, a, _, by simpa using T0, rfl, rfl, ha2, a0', ak, HM.out, hat, hB2⟩
  case round =>
    obtain ⟨j, s, L, hj, rfl, rfl, hs, s0, sk, hmj, hat, hb⟩ := hrel
    have HMJ := hid hmj
    have HAT := hid hat
    clear HM hat ha2 hB2 hmj
    by_cases hlt : (j : Int) < T
    · obtain ⟨u, hu⟩ : ∃ u, (s + 1) % k = u := ⟨_, rfl⟩
      have u0 : 0 ≤ u := by rw [← hu]; exact Int.emod_nonneg _ kne
      have uk : u < k := by rw [← hu]; exact Int.emod_lt_of_pos _ (by omega)
      have hne : ¬ u = s := by rw [← hu]; exact next_ne s0 sk k2
      have HU := hid (show u = (a + ((j + 1 : Nat) : Int)) % k by rw [← hu, next_s hs.out]; simp)
      obtain ⟨he, hl⟩ := rounds_ok n16 HAT.out u0 uk hne
      have hw : wrap64 ((j : Int) + 1) = ((j + 1 : Nat) : Int) := by unfold wrap64; omega
      rw [hw] at hl
      have hat2 : (L.set n ⟨u, ((j + 1 : Nat) : Int)⟩)[n]? = some ⟨u, ((j + 1 : Nat) : Int)⟩ := List.getElem?_set_self (by rw [HMJ.out.len]; exact n16)
      have C1 := hand_at HMJ.out he hl
      have hno := hid (rounds_no (k := k) n16 hat2 u0 uk hne)
      have HAT2 := hid hat2
      clear he hl hw hat2 hne
      go_wp2_with fail
      refine C1.mono ?_
      rintro x w3 ⟨rfl, hm3, hb3⟩
      have C2 := hand_at hm3 hno.out (handL_bad hno.out (by omega))
      have hB3 := But.below hb hb3 hg1
      clear C1 hm3 hb3 hb
      go_wp2_with fail
      refine C2.mono ?_
      rintro x w4 ⟨rfl, hm4, hb4⟩
      have HM4 := hid hm4
      have hB4 := But.below hB3 hb4 hg1
      clear C2 hm4 hb4 hB3
      go_wp2_with fail
      go_roundw
      case rel => exact ⟨j + 1, u, _, by omega, rfl, by go_num, HU.out, u0, uk, HM4.out, HAT2.out, hB4⟩
      case measure => simp [intOf]; omega
    · obtain rfl : T = (j : Int) := by omega
      have hsa : s = a := by
        rw [hs.out, ← HT.out, Int.add_mul_emod_self_right]
        exact Int.emod_eq_of_lt a0' ak
      subst hsa
      have C1 := own_of HMJ.out (n : Int)
      have hof : ofO L (n : Int) = ⟨s, (j : Int)⟩ := by unfold ofO; rw [if_pos (by simp [isCell]; omega)]; exact at_nat HAT.out
      have hic : isCell (n : Int) = true := by simp [isCell]; omega
      rw [hof, hic] at C1
      clear hof hic
      go_wp2_with fail
      refine C1.mono ?_
      rintro x w3 ⟨rfl, hb3⟩
      clear C1
      have hB3 := below_on hb hb3
      clear hb hb3
      have hs3 := hB3.size
      go_upto_region 16 with fail
      obtain ⟨W, hW⟩ : ∃ W, w3.alloc (.cells #[.int .i64 s, .int .i64 (j : Int)] 46) = W := ⟨_, rfl⟩
      have hB := hB3.alloc hs3 (.cells #[.int .i64 s, .int .i64 (j : Int)] 46)
      have hX := hid (show W.heap[w3.heap.size]? = some (.cells #[.int .i64 s, .int .i64 (j : Int)] 46 (0, 0)) by rw [← hW]; exact new_at _ _ _ rfl)
      rw [hW] at hB ⊢
      clear hW hB3 hs3
      have y0 : W.cell? ⟨w3.heap.size, 0, none⟩ = some (.int .i64 s) := Go.Joins.cell_of_block hX.out 0
      have y1 : W.cell? ⟨w3.heap.size, 1, none⟩ = some (.int .i64 (j : Int)) := Go.Joins.cell_of_block hX.out 1
      have hns : (n : Int) % k = s := HA.out
      go_wp2_with fail
      go_quiet (fail)
      go_wp2_with fail
      go_ret
      exact ⟨rfl, below_drewN hB _⟩

theorem ownerRounds_own : ownKnob Try.prog.godebug = none := by kernel_rfl
theorem ownerRounds_laidOut : laidOutB Try.prog = true := by kernel_rfl
set_option maxRecDepth 100000 in
theorem ownerRounds_lifted (os : Os) (started : os.Started) (H : Type) (enc : TypeId × Value → H) :
    ReturnsInHanded {} Try.checked os 6 .any (Rows.ownerRoundsSpec.pre6 enc Try.prog Try.f6 Rows.ownerRoundsRow.domain false) (Rows.ownerRoundsSpec.post enc Try.prog Try.f6 false true false false) := by
  refine returnsInHanded_of_change (C := Try.checked) ownerRounds_own started (by kernel_rfl) Try.func6
    (ChangeSpec.witness6 (enc := enc) (C := Try.checked) false ⟨#[], #[.int .u8 0, .int .u8 0, .int .u8 0], []⟩ 8 (by kernel_rfl) (by kernel_rfl) (by kernel_rfl) (by kernel_rfl)) ?_
  intro W base args ds gs before hval0 hW hcnd _
  have hval : ∀ (j : Nat) t v, Try.f6.params[j]? = some t → args[j]? = some v → Value.okWide Try.prog W .any base t v := hval0
  have hW' := hW
  obtain ⟨p, q, hA0, hV, rfl, hfz, hnd⟩ := hW
  have hA : DataW.TrodAll enc Try.prog W 0 (fun _ => true) true Try.f6.params.toList args.toList ds p := hA0
  rw [Try.params6] at hA hval
  obtain ⟨v0, vs0, d0, ds0, p0, q0, hargs, rfl, rfl, h0, r0⟩ := trodAll_cons hA
  obtain ⟨v1, vs1, d1, ds1, p1, q1, rfl, rfl, rfl, h1, r1⟩ := trodAll_cons r0
  obtain ⟨v2, vs2, d2, ds2, p2, q2, rfl, rfl, rfl, h2, r2⟩ := trodAll_cons r1
  obtain ⟨rfl, rfl, rfl⟩ := trodAll_nil r2
  obtain rfl : args = #[v0, v1, v2] := by cases args; simp_all
  obtain ⟨rfl, rfl⟩ := trodVars_none hV
  have k0 := h0
  have lt0 : ∀ x ∈ p0, x.block < W.heap.size := by obtain ⟨m, hm⟩ := k0; exact DataW.trod_lt m _ _ _ hm
  have k1 := h1
  have lt1 : ∀ x ∈ p1, x.block < W.heap.size := by obtain ⟨m, hm⟩ := k1; exact DataW.trod_lt m _ _ _ hm
  have k2 := h2
  have lt2 : ∀ x ∈ p2, x.block < W.heap.size := by obtain ⟨m, hm⟩ := k2; exact DataW.trod_lt m _ _ _ hm
  obtain ⟨a0, rfl, rfl, rfl, w0⟩ := open_int Try.underlying5 (hval 0 5 v0 rfl rfl) h0
  obtain ⟨a1, rfl, rfl, rfl, w1⟩ := open_int Try.underlying5 (hval 1 5 v1 rfl rfl) h1
  obtain ⟨a2, rfl, rfl, rfl, w2⟩ := open_int Try.underlying5 (hval 2 5 v2 rfl rfl) h2
  clear hA0 hval0
  refine (ownerRounds_walk W a0 w0 a1 w1 a2 w2).mono fun e W' ⟨he, bel⟩ => ?_
  subst he
  exact ⟨_, rfl, _, _, _, [], _, [], hW', trodAll_mk1 (shut_bool Try.underlying4 _), (trodAll_cons_mk (Below.trod ownerRounds_laidOut (by kernel_rfl) (of_decide_eq_true (by kernel_rfl)) k0 bel lt0) (trodAll_cons_mk (Below.trod ownerRounds_laidOut (by kernel_rfl) (of_decide_eq_true (by kernel_rfl)) k1 bel lt1) (trodAll_cons_mk (Below.trod ownerRounds_laidOut (by kernel_rfl) (of_decide_eq_true (by kernel_rfl)) k2 bel lt2) trodAll_mk0))), rfl, bel.frame _, fun h => by cases h⟩

theorem ownerRounds_over : Rows.ownerRoundsRow.holds Try.pinned (OpenSpec.ofChange Rows.ownerRoundsSpec) :=
  OpenClaim.holds_of_wide 6 Try.f6 rfl rfl rfl rfl rfl rfl rfl ⟨rfl, rfl, rfl, rfl, rfl⟩ rfl rfl rfl rfl rfl (by kernel_rfl) Try.func6 (by kernel_rfl)
    (of_decide_eq_true (by kernel_rfl)) (by unfold Func.isWrapper; first | (rw [if_pos (by decide +kernel)]; kernel_rfl) | (rw [if_neg (by decide +kernel)]; exact ⟨rfl, rfl⟩))
    (fun os started H enc _ => ownerRounds_lifted os started H enc)

theorem ownerRounds_holds : Rows.OwnerRoundsSaid := ownerRounds_over
#print axioms ownerRounds_holds
end Go.Proofs.Ytnlhlmihhgihbaa
