/- ThingBack holds: rows of things that were written are read, with whatever behind them; cut off they are not; and the function returns true. -/
import Derived.Test.YtlbbdpkbglkmnaaKnown7
import Derived.Test.YtlbbdpkbglkmnaaThgQ
import Derived.Test.YtlbbdpkbglkmnaaThgO
import Derived.Test.YtlbbdpkbglkmnaaThgT
import Derived.ProofKit
import Derived.OpenShut
import Derived.ShutString
import Derived.ChangeOld
import Derived.Below
import Derived.SizedLaws
namespace Go.Proofs.Ytlbbdpkbglkmnaa
open Go.ChangeShapes Go.WideShapes Go.ChangeAt Go.RowKit
open Go.ChangeMaps (open_string shut_string)
set_option linter.unusedVariables false

theorem few_len {L : List Th} (h : fewL L = true) : L.length ≤ 30 := by
  unfold fewL at h
  rw [Bool.and_eq_true, decide_eq_true_eq] at h
  exact h.2
theorem allT_cases {L : List Th} (hl : L.length ≤ 30) : allT L = ([], 11) ∨ (good L = true ∧ allT L = (put L.length ++ L.flatMap thB, 0)) := by
  cases hg : good L
  · left; unfold allT; rw [if_neg (by omega), hg]; rfl
  · right; exact ⟨rfl, by unfold allT; rw [if_neg (by omega), hg]; rfl⟩
theorem all_len {L : List Th} (hg : good L = true) (hl : L.length ≤ 200) : 1 ≤ (put L.length ++ L.flatMap thB).length ∧ (put L.length ++ L.flatMap thB).length ≤ 40000 := by
  have h1 := put_length L.length
  have h2 := flat_len thB 168 L (fun t ht => by
    obtain ⟨k, hk, rfl⟩ := List.getElem_of_mem ht
    exact thB_len (rises_take (k := k) (by simp [hk]) hg).1)
  rw [List.length_append]
  omega
theorem cut_front (S : List UInt8) (c : Nat) : ((⟨S.toArray⟩ : ByteArray).extract 0 c).data.toList = S.take c := by
  simp [ByteArray.data_extract]
set_option maxHeartbeats 2000000 in
set_option maxRecDepth 100000 in
theorem thingBack_walk (w : World) (a0 : Option Addr) (cap0 : Nat) (L : List Th) (i0 : ∀ t ∈ L, inT t) (r0 : RowT w a0 L) (c0 : L.length ≤ cap0) (m0 : cap0 ≤ maxLen) (a1 : ByteArray) (w1 : a1.size ≤ maxLen) (a2 : Int) (w2 : (Lit.int .u16 a2).wf = true) : Calls Try.prog 5 #[.slice a0 L.length cap0, .string a1, .int .u16 a2] w fun e w' => e = .returned (.bool true) ∧ Below w.heap.size w w' := by
  have b2 : 0 ≤ a2 ∧ a2 ≤ 65535 := by simp [Lit.wf, IntKind.min, IntKind.max, IntKind.signed, IntKind.bits] at w2; omega
  obtain ⟨c, rfl⟩ := Int.eq_ofNat_of_zero_le b2.1
  clear w2
  have hm0 : cap0 ≤ 9223372036854775807 := by unfold maxLen at m0; omega
  have hml : L.length ≤ maxLen := by omega
  obtain ⟨n, hn⟩ : ∃ n, Hid (L.length = n) := ⟨_, rfl⟩
  obtain ⟨q, hq⟩ : ∃ q, Hid (fewL L = q) := ⟨_, rfl⟩
  have CF := fun (w' : World) (hb : Below w.heap.size w w') => few_things w' a0 cap0 L (r0.later hb) i0 hml
  rw [hq.out, hn.out] at CF
  rw [hn.out]
  go_enter Try.func5, Try.ntmps5
  go_wp2_with fail
  refine (known_holds _).mono ?_
  rintro x v1 ⟨rfl, hE⟩
  go_wp2_with fail
  refine (CF _ hE).mono ?_
  rintro x v2 ⟨rfl, hb⟩
  replace hE := below_on hE hb
  clear hb
  cases q
  · go_wp2_with fail
    go_ret
    exact ⟨rfl, hE⟩
  by_cases h50 : a1.size ≤ 50
  · have h50' : (a1.size : Int) ≤ 50 := by omega
    have hl30 := few_len hq.out
    rcases allT_cases hl30 with hA | ⟨hG, hA⟩
    · have CA := fun (w' : World) (hb : Below w.heap.size w w') => thing_all (hid hA) (r0.later hb) i0 c0 m0
      rw [hn.out] at CA
      clear hA
      go_wp2_with fail
      refine (CA _ hE).mono ?_
      rintro x v3 ⟨rfl, hb⟩
      replace hE := below_on hE hb
      clear hb
      go_wp2_with fail
      go_ret
      exact ⟨by simp, hE⟩
    · have hlen := all_len hG (by omega)
      have hB := some_back hG i0 (by omega) a1.data.toList
      have hB0 := some_back hG i0 (by omega) []
      rw [List.append_nil] at hB0
      obtain ⟨S, hS⟩ : ∃ S, put L.length ++ L.flatMap thB = S := ⟨_, rfl⟩
      rw [hS] at hA hlen hB hB0
      clear hS
      have CA := fun (w' : World) (hb : Below w.heap.size w w') => thing_all (hid hA) (r0.later hb) i0 c0 m0
      rw [hn.out] at CA
      have CS := fun (w' : World) => thing_some (L := L) (z := S.length) (e := 0) (s := ⟨S.toArray⟩ ++ a1) (by show someL _ = _; rw [data_append]; exact hB) (by rw [ByteArray.size_append]; have e : (⟨S.toArray⟩ : ByteArray).size = S.length := rfl; omega) w'
      obtain ⟨M, y, hM⟩ := some_cut (c := c % S.length) hB0 (Nat.mod_lt _ (by omega))
      have CC := fun (w' : World) => thing_some (L := M) (z := y) (e := 10) (s := (⟨S.toArray⟩ : ByteArray).extract 0 (c % S.length)) (by show someL _ = _; rw [cut_front]; exact hM) (by rw [ByteArray.size_extract]; have e : (⟨S.toArray⟩ : ByteArray).size = S.length := rfl; omega) w'
      have hs1 := hlen.1
      have hs2 := hlen.2
      have hmod : c % S.length < S.length := Nat.mod_lt _ (by omega)
      clear hA hB hB0 hM hlen
      go_wp2_with fail
      refine (CA _ hE).mono ?_
      rintro x v3 ⟨rfl, hb⟩
      replace hE := below_on hE hb
      clear hb
      go_wp2_with fail
      refine (CS _).mono ?_
      rintro x v4 ⟨v, rfl, ho, hb⟩
      replace hE := below_on hE hb
      clear hb
      obtain ⟨p1, cap1, rfl⟩ := owns_slice ho
      have r1 := hid (row_own ho rfl)
      clear ho
      have CM := ref_sameAll v4 a0 p1 cap0 cap1 L L (r0.later hE) r1.out hml hml
      rw [sameL_self, hn.out] at CM
      rw [hn.out]
      go_wp2_with fail
      refine CM.mono ?_
      rintro x v5 ⟨rfl, hb⟩
      replace hE := below_on hE hb
      clear hb r1
      go_wp2_with fail
      refine (CC _).mono ?_
      rintro x v6 ⟨v, rfl, ho, hb⟩
      replace hE := below_on hE hb
      clear hb ho
      go_wp2_with fail
      go_ret
      exact ⟨by simp, hE⟩
  · have h50' : (50 : Int) < (a1.size : Int) := by omega
    go_wp2_with fail
    go_ret
    exact ⟨rfl, hE⟩

theorem thingBack_own : ownKnob Try.prog.godebug = none := by kernel_rfl
theorem thingBack_laidOut : laidOutB Try.prog = true := by kernel_rfl
set_option maxRecDepth 100000 in
theorem thingBack_lifted (os : Os) (started : os.Started) (H : Type) (enc : TypeId × Value → H) :
    ReturnsInHanded {} Try.checked os 5 .any (Rows.thingBackSpec.pre6 enc Try.prog Try.f5 Rows.thingBackRow.domain false) (Rows.thingBackSpec.post enc Try.prog Try.f5 false true false false) := by
  refine returnsInHanded_of_change (C := Try.checked) thingBack_own started (by kernel_rfl) Try.func5
    (ChangeSpec.witness6 (enc := enc) (C := Try.checked) false ⟨#[], #[.slice none 0 0, .string ByteArray.empty, .int .u16 0], []⟩ 8 (by kernel_rfl) (by kernel_rfl) (by kernel_rfl) (by kernel_rfl)) ?_
  intro W base args ds gs before hval0 hW hcnd _
  have hval : ∀ (j : Nat) t v, Try.f5.params[j]? = some t → args[j]? = some v → Value.okWide Try.prog W .any base t v := hval0
  have hW' := hW
  obtain ⟨p, q, hA0, hV, rfl, hfz, hnd⟩ := hW
  have hA : DataW.TrodAll enc Try.prog W 0 (fun _ => true) true Try.f5.params.toList args.toList ds p := hA0
  rw [Try.params5] at hA hval
  obtain ⟨v0, vs0, d0, ds0, p0, q0, hargs, rfl, rfl, h0, r0⟩ := trodAll_cons hA
  obtain ⟨v1, vs1, d1, ds1, p1, q1, rfl, rfl, rfl, h1, r1⟩ := trodAll_cons r0
  obtain ⟨v2, vs2, d2, ds2, p2, q2, rfl, rfl, rfl, h2, r2⟩ := trodAll_cons r1
  obtain ⟨rfl, rfl, rfl⟩ := trodAll_nil r2
  obtain rfl : args = #[v0, v1, v2] := by cases args; simp_all
  obtain ⟨rfl, rfl⟩ := trodVars_none hV
  have k0 := h0
  have lt0 : ∀ x ∈ p0, x.block < W.heap.size := by obtain ⟨m, hm⟩ := k0; exact DataW.trod_lt m _ _ _ hm
  have k1 := h1
  have lt1 : ∀ x ∈ p1, x.block < W.heap.size := by obtain ⟨m, hm⟩ := k1; exact DataW.trod_lt m _ _ _ hm
  have k2 := h2
  have lt2 : ∀ x ∈ p2, x.block < W.heap.size := by obtain ⟨m, hm⟩ := k2; exact DataW.trod_lt m _ _ _ hm
  obtain ⟨a0, cap0, L0, rfl, i0, r0', c0, m0⟩ := open_ths (hval 0 29 v0 rfl rfl) h0
  obtain ⟨a1, rfl, rfl, rfl, w1⟩ := open_string Try.underlying9 (hval 1 9 v1 rfl rfl) h1
  obtain ⟨a2, rfl, rfl, rfl, w2⟩ := open_int Try.underlying57 (hval 2 57 v2 rfl rfl) h2
  clear hA0 hval0
  refine (thingBack_walk W a0 cap0 L0 i0 r0' c0 m0 a1 w1 a2 w2).mono fun e W' ⟨he, bel⟩ => ?_
  subst he
  exact ⟨_, rfl, _, _, _, [], _, [], hW', trodAll_mk1 (shut_bool Try.underlying4 _), (trodAll_cons_mk (Below.trod thingBack_laidOut (by kernel_rfl) (of_decide_eq_true (by kernel_rfl)) k0 bel lt0) (trodAll_cons_mk (Below.trod thingBack_laidOut (by kernel_rfl) (of_decide_eq_true (by kernel_rfl)) k1 bel lt1) (trodAll_cons_mk (Below.trod thingBack_laidOut (by kernel_rfl) (of_decide_eq_true (by kernel_rfl)) k2 bel lt2) trodAll_mk0))), rfl, bel.frame _, fun h => by cases h⟩

theorem thingBack_over : Rows.thingBackRow.holds Try.pinned (OpenSpec.ofChange Rows.thingBackSpec) :=
  OpenClaim.holds_of_wide 5 Try.f5 rfl rfl rfl rfl rfl rfl rfl ⟨rfl, rfl, rfl, rfl, rfl⟩ rfl rfl rfl rfl rfl (by kernel_rfl) Try.func5 (by kernel_rfl)
    (of_decide_eq_true (by kernel_rfl)) (by unfold Func.isWrapper; first | (rw [if_pos (by decide +kernel)]; kernel_rfl) | (rw [if_neg (by decide +kernel)]; exact ⟨rfl, rfl⟩))
    (fun os started H enc _ => thingBack_lifted os started H enc)

theorem thingBack_holds : Rows.ThingBackSaid := thingBack_over
#print axioms thingBack_holds
end Go.Proofs.Ytlbbdpkbglkmnaa
