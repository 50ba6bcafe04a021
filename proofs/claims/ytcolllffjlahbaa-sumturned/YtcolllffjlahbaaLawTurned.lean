/- For every two texts and every three numbers SumTurned returns true, and each argument reads behind the call as before it: a frame comes back, a bit that is turned in it is seen, cut off it is short. No conditions. -/
import Derived.Test.YtcolllffjlahbaaKnown2
import Derived.Test.YtcolllffjlahbaaSumP2
import Derived.Test.YtcolllffjlahbaaVRow
import Derived.ProofKit
import Derived.OpenShut
import Derived.ShutString
namespace Go.Proofs.Ytcolllffjlahbaa
open Go.ChangeShapes Go.WideShapes Go.ChangeAt Go.RowKit
open Go.ChangeMaps (open_string shut_string)
set_option linter.unusedVariables false

theorem sumTurned_own : ownKnob Try.prog.godebug = none := by kernel_rfl

theorem wrap_small (l : List UInt8) (h : l.length ≤ 120) : (wrap l).length = l.length + 5 := by
  rw [wrap_length]; unfold text; rw [put_small _ (by omega)]; simp
theorem turned (l tail : List UInt8) (k : Nat) (b y : UInt8) (hl : l.length ≤ 120) (hk : 1 ≤ k) (hk2 : k < l.length + 5) (hb : (wrap l)[k]? = some b) (hy : y ≠ b) : unwrap ((wrap l).set k y ++ tail) = ([], 0, 12) := by
  have ht : text l = [UInt8.ofNat l.length] ++ l := by unfold text; rw [put_small _ (by omega)]
  by_cases h : k < l.length + 1
  · have hb' : l[k - 1]? = some b := by
      unfold wrap at hb
      rw [ht, List.append_assoc, List.getElem?_append_right (by simpa using hk), List.getElem?_append_left (by simp; omega)] at hb
      simpa using hb
    obtain ⟨hlt, hb''⟩ := List.getElem?_eq_some_iff.1 hb'
    have e : (wrap l).set k y = text (l.set (k - 1) y) ++ four (crc l) := by
      unfold wrap text
      rw [List.length_set, put_small _ (by omega), List.append_assoc, List.set_append_right _ _ (by simpa using hk), List.set_append_left _ _ (by simp; omega), List.append_assoc]
      simp
    rw [e]
    refine unwrap_other _ _ _ (by rw [List.length_set]; omega) (four_length _) fun hf => hy ?_
    have hc := four_inj _ _ (crc_lt _) (crc_lt _) hf
    have e1 : l = l.take (k - 1) ++ b :: l.drop k := by
      conv => lhs; rw [← List.take_append_drop (k - 1) l]
      rw [List.drop_eq_getElem_cons hlt, hb'', show k - 1 + 1 = k by omega]
    have e2 : l.set (k - 1) y = l.take (k - 1) ++ y :: l.drop k := by
      rw [List.set_eq_take_append_cons_drop, if_pos hlt, show k - 1 + 1 = k by omega]
    rw [e2] at hc
    conv at hc => lhs; rw [e1]
    exact (crc_turned _ _ _ _ hc).symm
  · have e : (wrap l).set k y = text l ++ (four (crc l)).set (k - (l.length + 1)) y := by
      unfold wrap
      rw [List.set_append_right _ _ (by rw [ht]; simp; omega), ht]
      simp
    rw [e]
    refine unwrap_other _ _ _ (by omega) (by rw [List.length_set, four_length]) fun hf => hy ?_
    have hb' : (four (crc l))[k - (l.length + 1)]? = some b := by
      unfold wrap at hb
      rw [List.getElem?_append_right (by rw [ht]; simp; omega), ht] at hb
      simpa [Nat.add_comm] using hb
    rw [← hf, List.getElem?_set_self (by rw [four_length]; omega)] at hb'
    simpa using hb'
theorem bit_xor (b : UInt8) (n : Nat) (hn : n < 8) : ∃ y : UInt8, bits .xor .u8 (b.toNat : Int) (2 ^ n % 256) = (y.toNat : Int) ∧ y ≠ b := by
  have hp : (2 : Nat) ^ n < 2 ^ 8 := Nat.pow_lt_pow_right (by decide) hn
  have hp1 : 1 ≤ (2 : Nat) ^ n := Nat.pow_pos (by decide)
  have hx := u8_xor_nat b.toNat (2 ^ n) b.toNat_lt (by omega)
  have hl : b.toNat ^^^ 2 ^ n < 256 := Nat.xor_lt_two_pow (n := 8) b.toNat_lt hp
  have hy : (UInt8.ofNat (b.toNat ^^^ 2 ^ n)).toNat = b.toNat ^^^ 2 ^ n := by rw [UInt8.toNat_ofNat']; exact Nat.mod_eq_of_lt hl
  refine ⟨UInt8.ofNat (b.toNat ^^^ 2 ^ n), ?_, fun e => ?_⟩
  · rw [hy, ← hx]
    congr 1
    have : ((2 : Int) ^ n) = ((2 ^ n : Nat) : Int) := by norm_cast
    rw [this]; omega
  · have e' := congrArg UInt8.toNat e
    rw [hy] at e'
    have : 2 ^ n = 0 := by
      have := congrArg (b.toNat ^^^ ·) e'
      simp [← Nat.xor_assoc] at this
    omega
set_option maxRecDepth 100000 in
set_option maxHeartbeats 2000000 in
theorem sumTurned_walk (a0 : ByteArray) (a1 : Int) (a2 : Int) (a3 : Int) (a4 : ByteArray) (w0 : a0.size ≤ maxLen) (w1 : (Lit.int .u16 a1).wf = true) (w2 : (Lit.int .u8 a2).wf = true) (w3 : (Lit.int .u8 a3).wf = true) (w4 : a4.size ≤ maxLen) (w : World) :
    Calls Try.prog 4 #[.string a0, .int .u16 a1, .int .u8 a2, .int .u8 a3, .string a4] w fun e w' => e = .returned (.bool true) ∧ Below w.heap.size w w' := by
  have hr1 := bounds_u16 w1
  have hr2 := bounds_u8 w2
  have hr3 := bounds_u8 w3
  by_cases h12 : a0.size ≤ 120 ∧ a4.size ≤ 50
  case neg =>
    go_enter Try.func4, Try.ntmps4
    go_wp2_with fail
    refine (known2 _).mono ?_
    rintro x w1' ⟨rfl, hb1⟩
    by_cases h50 : a0.size ≤ 120
    · have h51 : 50 < a4.size := by omega
      go_wp2
      go_ret
      exact ⟨rfl, hb1⟩
    · have h51 : 120 < a0.size := by omega
      go_wp2
      go_ret
      exact ⟨rfl, hb1⟩
  obtain ⟨h0, h4⟩ := h12
  obtain ⟨L, hL⟩ : ∃ L, L = wrap a0.data.toList := ⟨_, rfl⟩
  have hLl : L.length = a0.size + 5 := by rw [hL]; exact wrap_small _ h0
  have HL : Hid (L = wrap a0.data.toList) := hL
  have HO1 : Hid (unwrap ((⟨L.toArray⟩ : ByteArray) ++ a4).data.toList = (a0.data.toList, L.length, 0)) := by
    have := unwrap_wrap a0.data.toList a4.data.toList (show a0.size ≤ _ by omega)
    rw [← hL] at this
    rw [data_append]
    exact this
  obtain ⟨k, hk⟩ : ∃ k : Nat, wrap64 (1 + a1 % ((a0.size : Int) + 5 - 1)) = (k : Int) ∧ 1 ≤ k ∧ k < a0.size + 5 := by
    have h1 := Int.emod_nonneg a1 (show ((a0.size : Int) + 5 - 1) ≠ 0 by omega)
    have h2 := Int.emod_lt_of_pos a1 (show 0 < ((a0.size : Int) + 5 - 1) by omega)
    refine ⟨(1 + a1 % ((a0.size : Int) + 5 - 1)).toNat, ?_, by omega, by omega⟩
    unfold wrap64
    omega
  obtain ⟨hk, hk1, hk2⟩ := hk
  obtain ⟨b, hb⟩ : ∃ b, L[k]? = some b := ⟨L[k]'(by omega), by simp⟩
  obtain ⟨y, hxor, hyb⟩ := bit_xor b (a2 % 8).toNat (by omega)
  obtain ⟨X, hX⟩ : ∃ X, X = L.set k y := ⟨_, rfl⟩
  have hXl : X.length = a0.size + 5 := by rw [hX, List.length_set, hLl]
  have HO2 : Hid (unwrap ((⟨X.toArray⟩ : ByteArray) ++ a4).data.toList = ((⟨#[]⟩ : ByteArray).data.toList, 0, 12)) := by
    have := turned a0.data.toList a4.data.toList k b y h0 hk1 hk2 (hL ▸ hb) hyb
    rw [← hL, ← hX] at this
    rw [data_append]
    exact this
  obtain ⟨c, hc, hc1⟩ : ∃ c : Nat, a3 % ((a0.size : Int) + 5) = (c : Int) ∧ c < a0.size + 5 := by
    have h1 := Int.emod_nonneg a3 (show ((a0.size : Int) + 5) ≠ 0 by omega)
    have h2 := Int.emod_lt_of_pos a3 (show 0 < ((a0.size : Int) + 5) by omega)
    exact ⟨(a3 % ((a0.size : Int) + 5)).toNat, by omega, by omega⟩
  have HO3 : Hid (unwrap ((⟨L.toArray⟩ : ByteArray).extract 0 c).data.toList = ((⟨#[]⟩ : ByteArray).data.toList, 0, 10)) := by
    have := unwrap_cut a0.data.toList c (show a0.size ≤ _ by omega) (by rw [← hL]; omega)
    rw [← hL] at this
    show unwrap _ = _
    rw [show ((⟨L.toArray⟩ : ByteArray).extract 0 c).data.toList = L.take c by simp [ByteArray.data_extract]]
    exact this
  clear hL
  go_enter Try.func4, Try.ntmps4
  go_wp2_with fail
  refine (known2 _).mono ?_
  rintro x w5 ⟨rfl, hb1⟩
  have s1 := hb1.size
  go_wp2_with fail
  refine (wrap_at HL (by omega) _).mono ?_
  rintro x w6 ⟨rfl, hb2⟩
  have s2 := hb2.size
  go_wp2_with fail
  refine (open_at HO1 (by rw [ByteArray.size_append]; show L.length + _ ≤ _; omega) _).mono ?_
  rintro x w7 ⟨rfl, hb3⟩
  have s3 := hb3.size
  obtain ⟨w8, cap, hcv1, hv1, hb4⟩ := bytes_row (P := Try.prog) w7 9 33 5 ⟨L.toArray⟩ Try.underlying9 Try.underlying33 Try.underlying5
  have hcell : w8.cell? ⟨w7.heap.size, k, none⟩ = some (.int .u8 b.toNat) := by
    rw [hv1.cell? k (by rw [u8s_length]; show k < L.length; omega)]
    simp [u8s, hb]
  have hfro := hv1.frozen k (by rw [u8s_length]; show k < L.length; omega)
  have hv2 := hv1.setByte k y
  rw [show (⟨L.toArray⟩ : ByteArray).data.toList = L from rfl, ← hX] at hv2
  have hcv2 := hv2.text (P := Try.prog) (src := 33) (dst := 9) (cap := cap) Try.underlying33 Try.underlying5 Try.underlying9 hXl
  have hb5 : Below w.heap.size w (w8.setCell ⟨w7.heap.size, k, none⟩ (.int .u8 y.toNat)) :=
    (((hb1.trans (hb2.mono s1)).trans (hb3.mono (by omega))).trans (hb4.mono (by omega))).setCell (show _ ≤ w7.heap.size by omega) _
  have s5 := hb5.size
  clear hX hb hv1 hv2
  go_wp2_with fail
  refine (open_at (u := ⟨#[]⟩) HO2 (by rw [ByteArray.size_append]; show X.length + _ ≤ _; omega) _).mono ?_
  rintro x w9 ⟨rfl, hb6⟩
  have s6 := hb6.size
  go_wp2_with fail
  refine (open_at (u := ⟨#[]⟩) HO3 (by rw [ByteArray.size_extract]; show min _ L.length - _ ≤ _; omega) _).mono ?_
  rintro x w10 ⟨rfl, hb7⟩
  go_wp2
  go_ret
  exact ⟨by simp, (hb5.trans (hb6.mono s5)).trans (hb7.mono (by omega))⟩

set_option maxRecDepth 100000 in
theorem sumTurned_lifted (os : Os) (started : os.Started) (H : Type) (enc : TypeId × Value → H) :
    ReturnsInHanded {} Try.checked os 4 .any (Rows.sumTurnedSpec.pre6 enc Try.prog Try.f4 Rows.sumTurnedRow.domain false) (Rows.sumTurnedSpec.post enc Try.prog Try.f4 false true false false) := by
  refine returnsInHanded_of_change (C := Try.checked) sumTurned_own started (by kernel_rfl) Try.func4
    (ChangeSpec.witness6 (enc := enc) (C := Try.checked) false ⟨#[], #[.string ByteArray.empty, .int .u16 0, .int .u8 0, .int .u8 0, .string ByteArray.empty], []⟩ 8 (by kernel_rfl) (by kernel_rfl) (by kernel_rfl) (by kernel_rfl)) ?_
  intro W base args ds gs before hval0 hW hcnd _
  have hval : ∀ (j : Nat) t v, Try.f4.params[j]? = some t → args[j]? = some v → Value.okWide Try.prog W .any base t v := hval0
  have hW' := hW
  obtain ⟨p, q, hA0, hV, rfl, hfz, hnd⟩ := hW
  have hA : DataW.TrodAll enc Try.prog W 0 (fun _ => true) true Try.f4.params.toList args.toList ds p := hA0
  rw [Try.params4] at hA hval
  obtain ⟨v0, vs0, d0, ds0, p0, q0, hargs, rfl, rfl, h0, r0⟩ := trodAll_cons hA
  obtain ⟨v1, vs1, d1, ds1, p1, q1, rfl, rfl, rfl, h1, r1⟩ := trodAll_cons r0
  obtain ⟨v2, vs2, d2, ds2, p2, q2, rfl, rfl, rfl, h2, r2⟩ := trodAll_cons r1
  obtain ⟨v3, vs3, d3, ds3, p3, q3, rfl, rfl, rfl, h3, r3⟩ := trodAll_cons r2
  obtain ⟨v4, vs4, d4, ds4, p4, q4, rfl, rfl, rfl, h4, r4⟩ := trodAll_cons r3
  obtain ⟨rfl, rfl, rfl⟩ := trodAll_nil r4
  obtain rfl : args = #[v0, v1, v2, v3, v4] := by cases args; simp_all
  obtain ⟨rfl, rfl⟩ := trodVars_none hV
  obtain ⟨a0, rfl, rfl, rfl, w0⟩ := open_string Try.underlying9 (hval 0 9 v0 rfl rfl) h0
  obtain ⟨a1, rfl, rfl, rfl, w1⟩ := open_int Try.underlying32 (hval 1 32 v1 rfl rfl) h1
  obtain ⟨a2, rfl, rfl, rfl, w2⟩ := open_int Try.underlying5 (hval 2 5 v2 rfl rfl) h2
  obtain ⟨a3, rfl, rfl, rfl, w3⟩ := open_int Try.underlying5 (hval 3 5 v3 rfl rfl) h3
  obtain ⟨a4, rfl, rfl, rfl, w4⟩ := open_string Try.underlying9 (hval 4 9 v4 rfl rfl) h4
  clear hA0 hval0
  refine (sumTurned_walk a0 a1 a2 a3 a4 w0 w1 w2 w3 w4 W).mono fun e W' ⟨he, bel⟩ => ?_
  subst he
  exact ⟨_, rfl, _, _, _, [], _, [], hW', trodAll_mk1 (shut_bool Try.underlying4 _), (trodAll_cons_mk (shut_string Try.underlying9 w0) (trodAll_cons_mk (shut_int Try.underlying32 w1) (trodAll_cons_mk (shut_int Try.underlying5 w2) (trodAll_cons_mk (shut_int Try.underlying5 w3) (trodAll_cons_mk (shut_string Try.underlying9 w4) trodAll_mk0))))), rfl, bel.frame _, fun h => by cases h⟩

theorem sumTurned_over : Rows.sumTurnedRow.holds Try.pinned (OpenSpec.ofChange Rows.sumTurnedSpec) :=
  OpenClaim.holds_of_wide 4 Try.f4 rfl rfl rfl rfl rfl rfl rfl ⟨rfl, rfl, rfl, rfl, rfl⟩ rfl rfl rfl rfl rfl (by kernel_rfl) Try.func4 (by kernel_rfl)
    (of_decide_eq_true (by kernel_rfl)) (by unfold Func.isWrapper; first | (rw [if_pos (by decide +kernel)]; kernel_rfl) | (rw [if_neg (by decide +kernel)]; exact ⟨rfl, rfl⟩))
    (fun os started H enc _ => sumTurned_lifted os started H enc)

theorem sumTurned_holds : Rows.SumTurnedSaid := sumTurned_over
#print axioms sumTurned_holds
end Go.Proofs.Ytcolllffjlahbaa
