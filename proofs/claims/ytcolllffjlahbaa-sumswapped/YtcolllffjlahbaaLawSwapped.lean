/- For every text and every two bytes SumSwapped returns true, and each argument reads behind the call as before it: two unlike bytes at most three places apart that change their places change the sum. No conditions. -/
import Derived.Test.YtcolllffjlahbaaKnown2
import Derived.Test.YtcolllffjlahbaaSumP2
import Derived.Test.YtcolllffjlahbaaVRow
import Derived.Deep.QuietTactic
import Derived.BigQuiet
import Derived.Deep.RegionWith
import Derived.ProofKit
import Derived.OpenShut
import Derived.ShutString
namespace Go.Proofs.Ytcolllffjlahbaa
open Go.ChangeShapes Go.WideShapes Go.ChangeAt Go.RowKit
open Go.ChangeMaps (open_string shut_string)
set_option linter.unusedVariables false

theorem sumSwapped_own : ownKnob Try.prog.godebug = none := by kernel_rfl

theorem below_drewN {B : Nat} {a w : World} (h : Below B a w) (n : Nat) : Below B a (w.drewN n) := by
  induction n with
  | zero => exact h
  | succ n ih => exact ih.drew
theorem parted (l : List UInt8) (i k : Nat) (x y : UInt8) (hi : l[i]? = some x) (hk : l[k]? = some y) (h : i < k) : l = l.take i ++ x :: ((l.drop (i + 1)).take (k - i - 1) ++ y :: l.drop (k + 1)) := by
  obtain ⟨h1, e1⟩ := List.getElem?_eq_some_iff.1 hi
  obtain ⟨h2, e2⟩ := List.getElem?_eq_some_iff.1 hk
  have a : l.drop k = y :: l.drop (k + 1) := by rw [List.drop_eq_getElem_cons h2, e2]
  have b : l.drop i = x :: l.drop (i + 1) := by rw [List.drop_eq_getElem_cons h1, e1]
  have c : l.drop (i + 1) = (l.drop (i + 1)).take (k - i - 1) ++ y :: l.drop (k + 1) := by
    conv => lhs; rw [← List.take_append_drop (k - i - 1) (l.drop (i + 1))]
    rw [List.drop_drop, show i + 1 + (k - i - 1) = k by omega, a]
  rw [← c, ← b, List.take_append_drop]
theorem swapped_lt (l : List UInt8) (i k : Nat) (x y : UInt8) (hi : l[i]? = some x) (hk : l[k]? = some y) (h : i < k) (h3 : k ≤ i + 3) (hne : x ≠ y) : crc ((l.set i y).set k x) ≠ crc l := by
  intro e
  have hl := (List.getElem?_eq_some_iff.1 hk).1
  have e1 := parted l i k x y hi hk h
  have hp : (l.take i).length = i := by simp; omega
  have hm : ((l.drop (i + 1)).take (k - i - 1)).length = k - i - 1 := by simp; omega
  generalize l.take i = p at e1 hp
  generalize (l.drop (i + 1)).take (k - i - 1) = m at e1 hm
  generalize l.drop (k + 1) = q at e1
  subst e1
  rw [List.set_append_right _ _ (by omega), hp, Nat.sub_self, List.set_cons_zero, List.set_append_right _ _ (by omega), hp, show k - i = (k - i - 1) + 1 by omega, List.set_cons_succ, List.set_append_right _ _ (by omega), hm, Nat.sub_self, List.set_cons_zero] at e
  exact hne (crc_swapped _ _ _ _ _ (by omega) e).symm
theorem swapped (l : List UInt8) (i k : Nat) (x y : UInt8) (hi : l[i]? = some x) (hk : l[k]? = some y) (h : i ≠ k) (h3 : k ≤ i + 3) (h4 : i ≤ k + 3) (hne : x ≠ y) : crc ((l.set i y).set k x) ≠ crc l := by
  rcases Nat.lt_or_gt_of_ne h with hlt | hlt
  · exact swapped_lt l i k x y hi hk hlt h3 hne
  · rw [List.set_comm _ _ h]
    exact swapped_lt l k i y x hk hi hlt h4 (Ne.symm hne)
set_option maxRecDepth 100000 in
set_option maxHeartbeats 2000000 in
theorem sumSwapped_walk (a0 : ByteArray) (a1 : Int) (a2 : Int) (w0 : a0.size ≤ maxLen) (w1 : (Lit.int .u8 a1).wf = true) (w2 : (Lit.int .u8 a2).wf = true) (w : World) :
    Calls Try.prog 7 #[.string a0, .int .u8 a1, .int .u8 a2] w fun e w' => e = .returned (.bool true) ∧ Below w.heap.size w w' := by
  have hr1 := bounds_u8 w1
  have hr2 := bounds_u8 w2
  by_cases h12 : 2 ≤ a0.size ∧ a0.size ≤ 120
  case neg =>
    go_enter Try.func7, Try.ntmps7
    go_wp2_with fail
    refine (known2 _).mono ?_
    rintro x w1' ⟨rfl, hb1⟩
    by_cases h50 : 2 ≤ a0.size
    · have h51 : 120 < a0.size := by omega
      go_wp2
      go_ret
      exact ⟨rfl, hb1⟩
    · have h51 : a0.size < 2 := by omega
      go_wp2
      go_ret
      exact ⟨rfl, hb1⟩
  obtain ⟨h0, h4⟩ := h12
  obtain ⟨i, hi, hi1⟩ : ∃ i : Nat, a1 % (a0.size : Int) = (i : Int) ∧ i < a0.size := by
    have h1 := Int.emod_nonneg a1 (show (a0.size : Int) ≠ 0 by omega)
    have h2 := Int.emod_lt_of_pos a1 (show 0 < (a0.size : Int) by omega)
    exact ⟨(a1 % (a0.size : Int)).toNat, by omega, by omega⟩
  obtain ⟨k, hk, hk1⟩ : ∃ i : Nat, a2 % (a0.size : Int) = (i : Int) ∧ i < a0.size := by
    have h1 := Int.emod_nonneg a2 (show (a0.size : Int) ≠ 0 by omega)
    have h2 := Int.emod_lt_of_pos a2 (show 0 < (a0.size : Int) by omega)
    exact ⟨(a2 % (a0.size : Int)).toNat, by omega, by omega⟩
  go_enter Try.func7, Try.ntmps7
  go_wp2_with fail
  refine (known2 _).mono ?_
  rintro x w3 ⟨rfl, hb1⟩
  have s1 := hb1.size
  go_wp2_with fail
  go_region
  rw [hi, hk]
  obtain ⟨w4, cap, hcv1, hv1, hb2⟩ := bytes_row (P := Try.prog) w3.drew 9 33 5 a0 Try.underlying9 Try.underlying33 Try.underlying5
  rw [show w3.drew.heap.size = w3.heap.size from rfl] at hcv1 hv1 hb2
  have hci := hv1.byte i hi1
  have hck := hv1.byte k hk1
  have hfi := hv1.frozen i (by rw [u8s_length]; exact hi1)
  have hfk := hv1.frozen k (by rw [u8s_length]; exact hk1)
  obtain ⟨bi, hbi⟩ : ∃ b, a0[i] = b := ⟨_, rfl⟩
  obtain ⟨bk, hbk⟩ : ∃ b, a0[k] = b := ⟨_, rfl⟩
  have hci' : w4.cell? ⟨w3.heap.size, i, none⟩ = some (.int .u8 bi.toNat) := by rw [hci, ← hbi]; rfl
  have hck' : w4.cell? ⟨w3.heap.size, k, none⟩ = some (.int .u8 bk.toNat) := by rw [hck, ← hbk]; rfl
  clear hci hck
  by_cases hik : i = k
  · subst hik
    have hbb : bi = bk := by rw [← hbi, ← hbk]
    subst hbb
    have hB : ((bi.toNat : Int) == (bi.toNat : Int)) = true := by simp
    go_wp2_with fail
    go_region
    go_wp2
    go_region
    go_wp2
    go_ret
    exact ⟨rfl, ((((hb1.drew.trans (hb2.mono s1)).setCell (show _ ≤ w3.heap.size by omega) _).setCell (show _ ≤ w3.heap.size by omega) _).drew).drew⟩
  · have hv5 := ((hv1.setByte i bk).setByte k bi).drew
    obtain ⟨X, hX⟩ : ∃ X, X = (a0.data.toList.set i bk).set k bi := ⟨_, rfl⟩
    rw [← hX] at hv5
    have hXl : X.length = a0.size := by rw [hX]; simp
    have hcv5 := hv5.text (P := Try.prog) (src := 33) (dst := 9) (cap := cap) Try.underlying33 Try.underlying5 Try.underlying9 hXl
    have hb5 : Below w.heap.size w ((w4.setCell ⟨w3.heap.size, i, none⟩ (.int .u8 bk.toNat)).setCell ⟨w3.heap.size, k, none⟩ (.int .u8 bi.toNat)).drew :=
      (((hb1.drew.trans (hb2.mono s1)).setCell (show _ ≤ w3.heap.size by omega) _).setCell (show _ ≤ w3.heap.size by omega) _).drew
    obtain ⟨w5, hw5⟩ : ∃ w5, w5 = ((w4.setCell ⟨w3.heap.size, i, none⟩ (.int .u8 bk.toNat)).setCell ⟨w3.heap.size, k, none⟩ (.int .u8 bi.toNat)).drew := ⟨_, rfl⟩
    have H5 : Hid (w5 = ((w4.setCell ⟨w3.heap.size, i, none⟩ (.int .u8 bk.toNat)).setCell ⟨w3.heap.size, k, none⟩ (.int .u8 bi.toNat)).drew) := hw5
    rw [← hw5] at hv5 hcv5 hb5
    clear hw5
    have hcv6 : (convert 33 9 (.slice (some ⟨w3.heap.size, 0, none⟩) a0.size cap)).run Try.prog w5.drew = .ok (.string ⟨X.toArray⟩) w5.drew := (hv5.drew).text Try.underlying33 Try.underlying5 Try.underlying9 hXl
    go_wp2_with fail
    go_region
    rw [← H5.out]
    by_cases hbb : bi = bk
    · subst hbb
      have hB : ((bi.toNat : Int) == (bi.toNat : Int)) = true := by simp
      go_wp2
      go_region
      go_wp2
      go_ret
      exact ⟨rfl, hb5.drew⟩
    · have hB : ((bi.toNat : Int) == (bk.toNat : Int)) = false := by simp; exact fun e => hbb (UInt8.toNat_inj.mp (by omega))
      by_cases hf1 : i + 3 < k
      · have hd1 : decide (((i : Int) + 3) < (k : Int)) = true := by simp; omega
        have hw1 : IntKind.i64.wrap ((i : Int) + 3) = (i : Int) + 3 := by rw [IntKind.wrap_i64]; omega
        have hw2 : IntKind.i64.wrap ((k : Int) + 3) = (k : Int) + 3 := by rw [IntKind.wrap_i64]; omega
        go_wp2
        go_quiet (fail)
        go_wp2
        go_ret
        exact ⟨rfl, below_drewN hb5 _⟩
      · have hd1 : decide (((i : Int) + 3) < (k : Int)) = false := by simp; omega
        have hw1 : IntKind.i64.wrap ((i : Int) + 3) = (i : Int) + 3 := by rw [IntKind.wrap_i64]; omega
        have hw2 : IntKind.i64.wrap ((k : Int) + 3) = (k : Int) + 3 := by rw [IntKind.wrap_i64]; omega
        by_cases hf2 : k + 3 < i
        · have hd2 : decide (((k : Int) + 3) < (i : Int)) = true := by simp; omega
          go_wp2
          go_quiet (fail)
          go_wp2
          go_ret
          exact ⟨rfl, below_drewN hb5 _⟩
        · have hd2 : decide (((k : Int) + 3) < (i : Int)) = false := by simp; omega
          have hcvN : ∀ n, (convert 33 9 (.slice (some ⟨w3.heap.size, 0, none⟩) a0.size cap)).run Try.prog (w5.drewN n) = .ok (.string ⟨X.toArray⟩) (w5.drewN n) :=
            fun n => (VRow.heap hv5 (W' := w5.drewN n) (by simp)).text Try.underlying33 Try.underlying5 Try.underlying9 hXl
          obtain ⟨c, hc⟩ : ∃ c, c = crc a0.data.toList := ⟨_, rfl⟩
          obtain ⟨d, hd⟩ : ∃ d, d = crc (⟨X.toArray⟩ : ByteArray).data.toList := ⟨_, rfl⟩
          have hcd : d ≠ c := by
            rw [hd, hc, show (⟨X.toArray⟩ : ByteArray).data.toList = X from rfl, hX]
            exact swapped _ i k bi bk (by rw [← hbi]; simp [hi1]; rfl) (by rw [← hbk]; simp [hk1]; rfl) hik (by omega) (by omega) hbb
          have HC : Hid (c = crc a0.data.toList) := hc
          have HD : Hid (d = crc (⟨X.toArray⟩ : ByteArray).data.toList) := hd
          have hcd' : ((d : Int) == (c : Int)) = false := by simp; omega
          clear hc hd hX
          go_wp2
          go_quiet (first | (go_at_call_of 12 X; exact Calls.quiet_of_same (of_at (s := ⟨X.toArray⟩) HD (show X.length ≤ _ by omega) _)) | (go_at_call 12; exact Calls.quiet_of_same (of_at HC (by omega) _)))
          have hcd2 : ((d : Int) != (c : Int)) = true := by simp; omega
          rw [hcd2]
          go_wp2
          go_ret
          exact ⟨rfl, below_drewN hb5 _⟩

set_option maxRecDepth 100000 in
theorem sumSwapped_lifted (os : Os) (started : os.Started) (H : Type) (enc : TypeId × Value → H) :
    ReturnsInHanded {} Try.checked os 7 .any (Rows.sumSwappedSpec.pre6 enc Try.prog Try.f7 Rows.sumSwappedRow.domain false) (Rows.sumSwappedSpec.post enc Try.prog Try.f7 false true false false) := by
  refine returnsInHanded_of_change (C := Try.checked) sumSwapped_own started (by kernel_rfl) Try.func7
    (ChangeSpec.witness6 (enc := enc) (C := Try.checked) false ⟨#[], #[.string ByteArray.empty, .int .u8 0, .int .u8 0], []⟩ 8 (by kernel_rfl) (by kernel_rfl) (by kernel_rfl) (by kernel_rfl)) ?_
  intro W base args ds gs before hval0 hW hcnd _
  have hval : ∀ (j : Nat) t v, Try.f7.params[j]? = some t → args[j]? = some v → Value.okWide Try.prog W .any base t v := hval0
  have hW' := hW
  obtain ⟨p, q, hA0, hV, rfl, hfz, hnd⟩ := hW
  have hA : DataW.TrodAll enc Try.prog W 0 (fun _ => true) true Try.f7.params.toList args.toList ds p := hA0
  rw [Try.params7] at hA hval
  obtain ⟨v0, vs0, d0, ds0, p0, q0, hargs, rfl, rfl, h0, r0⟩ := trodAll_cons hA
  obtain ⟨v1, vs1, d1, ds1, p1, q1, rfl, rfl, rfl, h1, r1⟩ := trodAll_cons r0
  obtain ⟨v2, vs2, d2, ds2, p2, q2, rfl, rfl, rfl, h2, r2⟩ := trodAll_cons r1
  obtain ⟨rfl, rfl, rfl⟩ := trodAll_nil r2
  obtain rfl : args = #[v0, v1, v2] := by cases args; simp_all
  obtain ⟨rfl, rfl⟩ := trodVars_none hV
  obtain ⟨a0, rfl, rfl, rfl, w0⟩ := open_string Try.underlying9 (hval 0 9 v0 rfl rfl) h0
  obtain ⟨a1, rfl, rfl, rfl, w1⟩ := open_int Try.underlying5 (hval 1 5 v1 rfl rfl) h1
  obtain ⟨a2, rfl, rfl, rfl, w2⟩ := open_int Try.underlying5 (hval 2 5 v2 rfl rfl) h2
  clear hA0 hval0
  refine (sumSwapped_walk a0 a1 a2 w0 w1 w2 W).mono fun e W' ⟨he, bel⟩ => ?_
  subst he
  exact ⟨_, rfl, _, _, _, [], _, [], hW', trodAll_mk1 (shut_bool Try.underlying4 _), (trodAll_cons_mk (shut_string Try.underlying9 w0) (trodAll_cons_mk (shut_int Try.underlying5 w1) (trodAll_cons_mk (shut_int Try.underlying5 w2) trodAll_mk0))), rfl, bel.frame _, fun h => by cases h⟩

theorem sumSwapped_over : Rows.sumSwappedRow.holds Try.pinned (OpenSpec.ofChange Rows.sumSwappedSpec) :=
  OpenClaim.holds_of_wide 7 Try.f7 rfl rfl rfl rfl rfl rfl rfl ⟨rfl, rfl, rfl, rfl, rfl⟩ rfl rfl rfl rfl rfl (by kernel_rfl) Try.func7 (by kernel_rfl)
    (of_decide_eq_true (by kernel_rfl)) (by unfold Func.isWrapper; first | (rw [if_pos (by decide +kernel)]; kernel_rfl) | (rw [if_neg (by decide +kernel)]; exact ⟨rfl, rfl⟩))
    (fun os started H enc _ => sumSwapped_lifted os started H enc)

theorem sumSwapped_holds : Rows.SumSwappedSaid := sumSwapped_over
#print axioms sumSwapped_holds
end Go.Proofs.Ytcolllffjlahbaa
