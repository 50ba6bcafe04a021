/- For every two numbers, every text, every tail and every cut NumBack returns true, and each argument reads behind the call as before it: what was written is read whatever stands behind it, and cut off it isn't. No conditions. -/
import Derived.Test.YtkipjpffilinlaaKnown
import Derived.ProofKit
import Derived.OpenShut
import Derived.ShutString
namespace Go.Proofs.Ytkipjpffilinlaa
open Go.ChangeShapes Go.WideShapes Go.ChangeAt Go.RowKit
open Go.ChangeMaps (open_string shut_string)
set_option linter.unusedVariables false

theorem numBack_own : ownKnob Try.prog.godebug = none := by kernel_rfl

theorem put_at {n : Nat} {L : List UInt8} (H : Hid (L = put n)) (h1 : n ≤ 18446744073709551615) (w : World) :
    Calls Try.prog 16 #[.int .u64 n] w fun e w' => e = .returned (.string ⟨L.toArray⟩) ∧ Below w.heap.size w w' := by
  rw [H.out]; exact put_any n h1 w
theorem int_at {z : Int} {L : List UInt8} (H : Hid (L = put (zig z))) (h0 : -9223372036854775808 ≤ z) (h1 : z ≤ 9223372036854775807) (w : World) :
    Calls Try.prog 22 #[.int .i64 z] w fun e w' => e = .returned (.string ⟨L.toArray⟩) ∧ Below w.heap.size w w' := by
  rw [H.out]; exact int22 z h0 h1 w
theorem text_at {s : ByteArray} {L : List UInt8} (H : Hid (L = text s.data.toList)) (hs : s.size ≤ 281474976710656) (w : World) :
    Calls Try.prog 24 #[.string s] w fun e w' => e = .returned (.string ⟨L.toArray⟩) ∧ Below w.heap.size w w' := by
  rw [H.out]; exact text24 s hs w
theorem ints_at {s : ByteArray} {n k e : Nat} {z : Int} (h : Hid (get s.data.toList = (n, k, e))) (hz : Hid (zag n = z)) (hs : s.size ≤ maxLen) (w : World) :
    Calls Try.prog 12 #[.string s] w fun x w' => x = .returned (.tuple #[.int .i64 z, .int .i64 k, .int .i64 e]) ∧ w' = w := by
  have := ints12 s hs w
  rw [h.out, hz.out] at this
  exact this
theorem texts_at {s u : ByteArray} {most : Int} {k e : Nat} (h : Hid (texts s.data.toList most = (u.data.toList, k, e))) (hs : s.size ≤ 281474976710656) (hm0 : -9223372036854775808 ≤ most) (hm1 : most ≤ 9223372036854775807) (w : World) :
    Calls Try.prog 14 #[.string s, .int .i64 most] w fun x w' => x = .returned (.tuple #[.string u, .int .i64 k, .int .i64 e]) ∧ Below w.heap.size w w' := by
  have := texts14 s most hs hm0 hm1 w
  rw [h.out] at this
  exact this
theorem zag_at {n : Nat} {z : Int} (hz : Hid (zag n = z)) (h1 : n ≤ 18446744073709551615) (w : World) :
    Calls Try.prog 20 #[.int .u64 n] w fun e w' => e = .returned (.int .i64 z) ∧ w' = w := by
  rw [← hz.out]; exact zag20 n h1 w
theorem zig_at {z : Int} {n : Nat} (hz : Hid (zig z = n)) (h0 : -9223372036854775808 ≤ z) (h1 : z ≤ 9223372036854775807) (w : World) :
    Calls Try.prog 18 #[.int .i64 z] w fun e w' => e = .returned (.int .u64 n) ∧ w' = w := by
  rw [← hz.out]; exact zig18 z h0 h1 w
theorem data_append (l : List UInt8) (t : ByteArray) : ((⟨l.toArray⟩ : ByteArray) ++ t).data.toList = l ++ t.data.toList := by
  have := ByteArray.mk_append_mk l t.data.toList
  rw [show (⟨t.data.toList.toArray⟩ : ByteArray) = t from rfl] at this
  rw [this]
theorem texts_back (l tail : List UInt8) (most : Int) (hl : l.length ≤ 18446744073709551615) (hm : (l.length : Int) ≤ max most 0) : texts (text l ++ tail) most = (l, (text l).length, 0) := by
  have hg := get_put l.length hl (l ++ tail)
  unfold texts text
  rw [List.append_assoc, hg]
  simp only [ne_eq, not_true_eq_false, if_false]
  rw [if_neg (by omega), if_neg (by simp only [List.length_append]; omega)]
  simp
set_option maxRecDepth 100000 in
set_option maxHeartbeats 2000000 in
theorem numBack_walk (a0 : Int) (a1 : Int) (a2 : ByteArray) (a3 : ByteArray) (a4 : Int) (w0 : (Lit.int .u64 a0).wf = true) (w1 : (Lit.int .i64 a1).wf = true) (w2 : a2.size ≤ maxLen) (w3 : a3.size ≤ maxLen) (w4 : (Lit.int .u8 a4).wf = true) (w : World) :
    Calls Try.prog 4 #[.int .u64 a0, .int .i64 a1, .string a2, .string a3, .int .u8 a4] w fun e w' => e = .returned (.bool true) ∧ Below w.heap.size w w' := by
  obtain ⟨b0, b1⟩ := bounds_u64 w0
  obtain ⟨c0, c1⟩ := bounds_i64 w1
  obtain ⟨d0, d1⟩ := bounds_u8 w4
  obtain ⟨n, rfl⟩ := Int.eq_ofNat_of_zero_le b0
  obtain ⟨cut, rfl⟩ := Int.eq_ofNat_of_zero_le d0
  have hn : n ≤ 18446744073709551615 := by omega
  clear w0 w1 w4
  unfold maxLen at w2 w3
  by_cases h200 : 200 < a2.size
  · go_enter Try.func4, Try.ntmps4
    go_wp2_with fail
    refine (known9 _).mono ?_
    rintro x w1 ⟨rfl, hb1⟩
    go_wp2
    go_ret
    exact ⟨rfl, hb1⟩
  by_cases h50 : 50 < a3.size
  · go_enter Try.func4, Try.ntmps4
    go_wp2_with fail
    refine (known9 _).mono ?_
    rintro x w1 ⟨rfl, hb1⟩
    go_wp2
    go_ret
    exact ⟨rfl, hb1⟩
  obtain ⟨L1, hL1⟩ : ∃ L, L = put n := ⟨_, rfl⟩
  obtain ⟨L2, hL2⟩ : ∃ L, L = put (zig a1) := ⟨_, rfl⟩
  obtain ⟨L3, hL3⟩ : ∃ L, L = text a2.data.toList := ⟨_, rfl⟩
  have l1 := put_length n
  have l2 := put_length (zig a1)
  have l3 : (text a2.data.toList).length ≤ 210 := by
    have := (put_length a2.data.toList.length).2
    unfold text
    rw [List.length_append]
    show _ + a2.size ≤ _
    omega
  have G1 : Hid (get ((⟨L1.toArray⟩ : ByteArray) ++ a3).data.toList = (n, L1.length, 0)) := by
    rw [data_append, hL1]; exact get_put n hn _
  have G2 : Hid (get ((⟨L2.toArray⟩ : ByteArray) ++ a3).data.toList = (zig a1, L2.length, 0)) := by
    rw [data_append, hL2]; exact get_put _ (zig_le a1 c0 c1) _
  have G3 : Hid (texts ((⟨L3.toArray⟩ : ByteArray) ++ a3).data.toList a2.size = (a2.data.toList, L3.length, 0)) := by
    rw [data_append, hL3]; exact texts_back _ _ _ (by show a2.size ≤ _; omega) (by show (a2.size : Int) ≤ _; omega)
  have hcm : cut % L1.length < L1.length := Nat.mod_lt _ (by rw [hL1]; omega)
  have hcm1 : (0 : Int) ≤ (cut : Int) % (L1.length : Int) := by omega
  have hcm2 : (cut : Int) % (L1.length : Int) ≤ (L1.length : Int) := by omega
  have G4 : Hid (get ((⟨L1.toArray⟩ : ByteArray).extract 0 (cut % L1.length)).data.toList = (0, 0, 10)) := by
    rw [ByteArray.extract_mk]
    show get (L1.take _) = _
    rw [hL1] at hcm ⊢
    exact get_cut n _ hcm
  have Z1 : Hid (zag (zig a1) = a1) := zag_zig a1
  have Z2 : Hid (zig (zag n) = n) := zig_zag n
  have hzl := zig_le a1 c0 c1
  have hzg := zag_le n hn
  rw [← hL1] at l1
  rw [← hL2] at l2
  rw [← hL3] at l3
  have P1 : Hid (L1 = put n) := hL1
  have P2 : Hid (L2 = put (zig a1)) := hL2
  have P3 : Hid (L3 = text a2.data.toList) := hL3
  clear hL1 hL2 hL3
  have hne : ((L1.length : Int) == 0) = false := beq_eq_false_iff_ne.2 (by omega)
  go_enter Try.func4, Try.ntmps4
  go_wp2_with fail
  refine (known9 _).mono ?_
  rintro x w1 ⟨rfl, hb1⟩
  go_wp2_with fail
  refine (put_at P1 hn _).mono ?_
  rintro x w2 ⟨rfl, hb2⟩
  go_wp2_with fail
  refine (get_eq G1 (by unfold maxLen; rw [ByteArray.size_append']; show L1.length + _ ≤ _; omega) _).mono ?_
  rintro x w3 ⟨rfl, rfl⟩
  go_wp2_with fail
  refine (int_at P2 c0 c1 _).mono ?_
  rintro x w4 ⟨rfl, hb4⟩
  go_wp2_with fail
  refine (ints_at G2 Z1 (by unfold maxLen; rw [ByteArray.size_append']; show L2.length + _ ≤ _; omega) _).mono ?_
  rintro x w5 ⟨rfl, rfl⟩
  go_wp2_with fail
  refine (text_at P3 (by omega) _).mono ?_
  rintro x w6 ⟨rfl, hb6⟩
  go_wp2_with fail
  refine (texts_at G3 (by rw [ByteArray.size_append']; show L3.length + _ ≤ _; omega) (by omega) (by omega) _).mono ?_
  rintro x w7 ⟨rfl, hb7⟩
  go_wp2_with fail
  refine (put_at P1 hn _).mono ?_
  rintro x w8 ⟨rfl, hb8⟩
  go_wp2_with fail
  refine (int_at P2 c0 c1 _).mono ?_
  rintro x w9 ⟨rfl, hb9⟩
  go_wp2_with fail
  refine (text_at P3 (by omega) _).mono ?_
  rintro x w10 ⟨rfl, hb10⟩
  go_wp2_with fail
  refine (get_eq G4 (by unfold maxLen; rw [ByteArray.size_extract]; show min _ L1.length - 0 ≤ _; omega) _).mono ?_
  rintro x w11 ⟨rfl, rfl⟩
  go_wp2_with fail
  refine (text_at P3 (by omega) _).mono ?_
  rintro x w12 ⟨rfl, hb12⟩
  have hb : Below w.heap.size w w12 := by
    have s1 := hb1.size; have s2 := hb2.size; have s4 := hb4.size; have s6 := hb6.size; have s7 := hb7.size; have s8 := hb8.size; have s9 := hb9.size; have s10 := hb10.size
    exact (((((((hb1.trans (hb2.mono s1)).trans (hb4.mono (by omega))).trans (hb6.mono (by omega))).trans (hb7.mono (by omega))).trans (hb8.mono (by omega))).trans (hb9.mono (by omega))).trans (hb10.mono (by omega))).trans (hb12.mono (by omega))
  have hbs := hb.size
  clear hb1 hb2 hb4 hb6 hb7 hb8 hb9 hb10 hb12 hcm hcm1 hcm2 hne G1 G2 G3 G4 P1 P2
  rcases Nat.eq_zero_or_pos a2.size with h0 | h0
  · have G5 : Hid (texts ((⟨L3.toArray⟩ : ByteArray) ++ a3).data.toList ((a2.size : Int) - 1) = (a2.data.toList, L3.length, 0)) := by
      rw [data_append, P3.out]; exact texts_back _ _ _ (by show a2.size ≤ _; omega) (by show (a2.size : Int) ≤ _; omega)
    have H0 : Hid (a2.size = 0) := h0
    have hz0 : ((a2.size : Int) == 0) = true := by rw [h0]; rfl
    have hle : a2.size ≤ 0 := by omega
    clear h0 P3
    go_wp2_with fail
    refine (texts_at G5 (by rw [ByteArray.size_append']; show L3.length + _ ≤ _; omega) (by omega) (by omega) _).mono ?_
    rintro x w13 ⟨rfl, hb13⟩
    go_wp2_with fail
    refine (zig18 a1 c0 c1 _).mono ?_
    rintro x w14 ⟨rfl, rfl⟩
    go_wp2_with fail
    refine (zag_at Z1 hzl _).mono ?_
    rintro x w15 ⟨rfl, rfl⟩
    go_wp2_with fail
    refine (zag20 n hn _).mono ?_
    rintro x w16 ⟨rfl, rfl⟩
    go_wp2_with fail
    refine (zig_at Z2 hzg.1 hzg.2 _).mono ?_
    rintro x w17 ⟨rfl, rfl⟩
    go_wp2
    go_ret
    exact ⟨rfl, hb.trans (hb13.mono hbs)⟩
  · have G5 : Hid (texts ((⟨L3.toArray⟩ : ByteArray) ++ a3).data.toList ((a2.size : Int) - 1) = ((⟨#[]⟩ : ByteArray).data.toList, 0, 13)) := by
      rw [data_append, P3.out]; exact texts_large _ _ _ (by show a2.size ≤ _; omega) (by show _ < (a2.size : Int); omega) h0
    have hz0 : ((a2.size : Int) == 0) = false := beq_eq_false_iff_ne.2 (by omega)
    clear P3
    go_wp2_with fail
    refine (texts_at (u := ⟨#[]⟩) G5 (by rw [ByteArray.size_append']; show L3.length + _ ≤ _; omega) (by omega) (by omega) _).mono ?_
    rintro x w13 ⟨rfl, hb13⟩
    go_wp2_with fail
    refine (zig18 a1 c0 c1 _).mono ?_
    rintro x w14 ⟨rfl, rfl⟩
    go_wp2_with fail
    refine (zag_at Z1 hzl _).mono ?_
    rintro x w15 ⟨rfl, rfl⟩
    go_wp2_with fail
    refine (zag20 n hn _).mono ?_
    rintro x w16 ⟨rfl, rfl⟩
    go_wp2_with fail
    refine (zig_at Z2 hzg.1 hzg.2 _).mono ?_
    rintro x w17 ⟨rfl, rfl⟩
    go_wp2
    go_ret
    exact ⟨rfl, hb.trans (hb13.mono hbs)⟩

set_option maxRecDepth 100000 in
theorem numBack_lifted (os : Os) (started : os.Started) (H : Type) (enc : TypeId × Value → H) :
    ReturnsInHanded {} Try.checked os 4 .any (Rows.numBackSpec.pre6 enc Try.prog Try.f4 Rows.numBackRow.domain false) (Rows.numBackSpec.post enc Try.prog Try.f4 false true false false) := by
  refine returnsInHanded_of_change (C := Try.checked) numBack_own started (by kernel_rfl) Try.func4
    (ChangeSpec.witness6 (enc := enc) (C := Try.checked) false ⟨#[], #[.int .u64 0, .int .i64 0, .string ByteArray.empty, .string ByteArray.empty, .int .u8 0], []⟩ 8 (by kernel_rfl) (by kernel_rfl) (by kernel_rfl) (by kernel_rfl)) ?_
  intro W base args ds gs before hval0 hW hcnd _
  have hval : ∀ (j : Nat) t v, Try.f4.params[j]? = some t → args[j]? = some v → Value.okWide Try.prog W .any base t v := hval0
  have hW' := hW
  obtain ⟨p, q, hA0, hV, rfl, hfz, hnd⟩ := hW
  have hA : DataW.TrodAll enc Try.prog W 0 (fun _ => true) true Try.f4.params.toList args.toList ds p := hA0
  rw [Try.params4] at hA hval
  obtain ⟨v0, vs0, d0, ds0, p0, q0, hargs, rfl, rfl, h0, r0⟩ := trodAll_cons hA
  obtain ⟨v1, vs1, d1, ds1, p1, q1, rfl, rfl, rfl, h1, r1⟩ := trodAll_cons r0
  obtain ⟨v2, vs2, d2, ds2, p2, q2, rfl, rfl, rfl, h2, r2⟩ := trodAll_cons r1
  obtain ⟨v3, vs3, d3, ds3, p3, q3, rfl, rfl, rfl, h3, r3⟩ := trodAll_cons r2
  obtain ⟨v4, vs4, d4, ds4, p4, q4, rfl, rfl, rfl, h4, r4⟩ := trodAll_cons r3
  obtain ⟨rfl, rfl, rfl⟩ := trodAll_nil r4
  obtain rfl : args = #[v0, v1, v2, v3, v4] := by cases args; simp_all
  obtain ⟨rfl, rfl⟩ := trodVars_none hV
  obtain ⟨a0, rfl, rfl, rfl, w0⟩ := open_int Try.underlying22 (hval 0 22 v0 rfl rfl) h0
  obtain ⟨a1, rfl, rfl, rfl, w1⟩ := open_int Try.underlying2 (hval 1 2 v1 rfl rfl) h1
  obtain ⟨a2, rfl, rfl, rfl, w2⟩ := open_string Try.underlying9 (hval 2 9 v2 rfl rfl) h2
  obtain ⟨a3, rfl, rfl, rfl, w3⟩ := open_string Try.underlying9 (hval 3 9 v3 rfl rfl) h3
  obtain ⟨a4, rfl, rfl, rfl, w4⟩ := open_int Try.underlying5 (hval 4 5 v4 rfl rfl) h4
  clear hA0 hval0
  refine (numBack_walk a0 a1 a2 a3 a4 w0 w1 w2 w3 w4 W).mono fun e W' ⟨he, bel⟩ => ?_
  subst he
  exact ⟨_, rfl, _, _, _, [], _, [], hW', trodAll_mk1 (shut_bool Try.underlying4 _), (trodAll_cons_mk (shut_int Try.underlying22 w0) (trodAll_cons_mk (shut_int Try.underlying2 w1) (trodAll_cons_mk (shut_string Try.underlying9 w2) (trodAll_cons_mk (shut_string Try.underlying9 w3) (trodAll_cons_mk (shut_int Try.underlying5 w4) trodAll_mk0))))), rfl, bel.frame _, fun h => by cases h⟩

theorem numBack_over : Rows.numBackRow.holds Try.pinned (OpenSpec.ofChange Rows.numBackSpec) :=
  OpenClaim.holds_of_wide 4 Try.f4 rfl rfl rfl rfl rfl rfl rfl ⟨rfl, rfl, rfl, rfl, rfl⟩ rfl rfl rfl rfl rfl (by kernel_rfl) Try.func4 (by kernel_rfl)
    (of_decide_eq_true (by kernel_rfl)) (by unfold Func.isWrapper; first | (rw [if_pos (by decide +kernel)]; kernel_rfl) | (rw [if_neg (by decide +kernel)]; exact ⟨rfl, rfl⟩))
    (fun os started H enc _ => numBack_lifted os started H enc)

theorem numBack_holds : Rows.NumBackSaid := numBack_over
#print axioms numBack_holds
end Go.Proofs.Ytkipjpffilinlaa
