/- EventBack: events that were written are read, whatever stands behind them; what a watcher had stays as it was, whatever is folded upon it, and what comes of it rises and is made of things; for every row of at most 30 things that rises, at most 30 events, texts of at most 40 bytes, at most 50 bytes behind (else the statement asks nothing). -/
import Derived.Test.YtkklchobiiajgaaEO
import Derived.ProofKit
import Derived.OpenShut
import Derived.ShutString
import Derived.ChangeOld
import Derived.Below
import Derived.SizedLaws
namespace Go.Proofs.Ytkklchobiiajgaa
open Go.ChangeShapes Go.WideShapes Go.ChangeAt Go.RowKit
open Go.ChangeMaps (open_string shut_string)
set_option linter.unusedVariables false

theorem esB_cases {L : List Ev} (hl : L.length ≤ 30) : (L.all isE = false ∧ esB L = ([], 11)) ∨ (L.all isE = true ∧ esB L = (put L.length ++ L.flatMap evB, 0) ∧ (put L.length ++ L.flatMap evB).length ≤ 5400) := by
  cases hq : L.all isE with
  | false => exact .inl ⟨rfl, esB_no hq⟩
  | true =>
    refine .inr ⟨rfl, esB_yes hq (by omega), ?_⟩
    have h1 := esB_len (fun e he => List.all_eq_true.1 hq e he)
    have h2 := (put_length L.length).2
    rw [List.length_append]
    omega
theorem same_true {w : World} {p p' : Option Addr} {cap cap' n : Nat} {L : List Th} (hr : RowT w p L) (hr' : RowT w p' L) (hn : Hid (L.length = n)) (hm : n ≤ 1000) :
    Calls Try.prog 16 #[.slice p n cap, .slice p' n cap'] w fun e w' => e = .returned (.bool true) ∧ Below w.heap.size w w' := by
  have := ref_sameAll w p p' cap cap' L L hr hr' (by rw [hn.out]; unfold maxLen; omega) (by rw [hn.out]; unfold maxLen; omega)
  rw [hn.out, sameL_self] at this
  exact this
theorem few_at' {w : World} {p : Option Addr} {cap n : Nat} {L : List Th} {q : Bool} (hq : Hid (fewL L = q)) (hn : Hid (L.length = n)) (hr : RowT w p L) (hi : ∀ t ∈ L, inT t) (hm : n ≤ maxLen) :
    Calls Try.prog 9 #[.slice p n cap] w fun e w' => e = .returned (.bool q) ∧ Below w.heap.size w w' := by
  have := few_things w p cap L hr hi (by rw [hn.out]; exact hm)
  rw [hq.out, hn.out] at this
  exact this
theorem wpList_append_nil_any {P : Program} {w : World} {ops : Array Oper} {rest : List Oper} {o : Oper} {a : Act} {Q : Exit → Act → World → Prop} (hgd : o.guard = none) (s x : Operand) (t : TypeId)
    (ho : o.op = .call { callee := .builtin .append, args := #[s, x], argTypes := #[t, t] })
    (e : TypeId) (i : TypeInfo) (ht : P.underlying t = some (.slice e)) (hi : P.info? e = some i) {c : Nat}
    (hs : a.eval s = .slice none 0 0) (hx : a.eval x = .slice none 0 c)
    (h : wpList P ops Q rest (a.put o.dst (.slice none 0 0)) w) : wpList P ops Q (o :: rest) a w := by
  refine wpList_plain hgd fun K hK => ?_
  have hrun : (Builtin.append_ #[t, t] o.type #[.slice none 0 0, .slice none 0 c]).run P w = .ok (.slice none 0 0) w := by
    simp [Builtin.append_, run_underlying ht, sizeOf, typeInfo, hi, Builtin.lenOf, Builtin.firstCells]
  unfold Oper.wp
  simp [execOp, ho, resolve, invoke, builtin, hs, hx, hrun, Result.andThen]
  exact hK _ _ h
/-- the tail of EventBack: what was written is read -/
theorem back_rest {n1 : Nat} {L1 : List Ev} {S : List UInt8} {a2 : ByteArray} (hA : L1.all isE = true) (hS : put L1.length ++ L1.flatMap evB = S) (i1 : ∀ t ∈ L1, inE t) (hn : L1.length = n1) (h1 : n1 ≤ 30) :
    readE ((⟨S.toArray⟩ : ByteArray) ++ a2).data.toList = (L1, S.length, 0) := by
  rw [data_append]
  have := es_back (L := L1) (fun e he => List.all_eq_true.1 hA e he) i1 (by omega) a2.data.toList
  rw [hS] at this
  exact this
set_option maxRecDepth 100000 in
set_option maxHeartbeats 8000000 in
theorem eventBack_walk (w : World) (a0 : Option Addr) (cap0 : Nat) (L0 : List Th) (i0 : ∀ t ∈ L0, inT t) (r0 : RowT w a0 L0) (c0 : L0.length ≤ cap0) (m0 : cap0 ≤ maxLen) (a1 : Option Addr) (cap1 : Nat) (L1 : List Ev) (i1 : ∀ t ∈ L1, inE t) (r1 : RowE w a1 L1) (c1 : L1.length ≤ cap1) (m1 : cap1 ≤ maxLen) (a2 : ByteArray) (w2 : a2.size ≤ maxLen) :
    Calls Try.prog 5 #[.slice a0 L0.length cap0, .slice a1 L1.length cap1, .string a2] w fun e w' => e = .returned (.bool true) ∧ Below w.heap.size w w' := by
  obtain ⟨n0, hn0⟩ : ∃ n, Hid (L0.length = n) := ⟨_, rfl⟩
  obtain ⟨n1, hn1⟩ : ∃ n, Hid (L1.length = n) := ⟨_, rfl⟩
  obtain ⟨f0, hf0⟩ : ∃ q, Hid (fewL L0 = q) := ⟨_, rfl⟩
  obtain ⟨f1, hf1⟩ : ∃ q, Hid (fewE L1 = q) := ⟨_, rfl⟩
  obtain ⟨g0, hg0⟩ : ∃ q, Hid (good L0 = q) := ⟨_, rfl⟩
  have m0' : n0 ≤ maxLen := by rw [← hn0.out]; omega
  have m1' : n1 ≤ maxLen := by rw [← hn1.out]; omega
  have w2' : a2.size ≤ 9223372036854775807 := by unfold maxLen at w2; omega
  have k0 : n0 ≤ 9223372036854775807 := by unfold maxLen at m0'; omega
  have k1 : n1 ≤ 9223372036854775807 := by unfold maxLen at m1'; omega
  have R0 := hid r0
  have R1 := hid r1
  have I0 := hid i0
  have I1 := hid i1
  rw [hn0.out, hn1.out]
  obtain ⟨b, hb⟩ : ∃ b, decide ((50 : Int) < (a2.size : Int)) = b := ⟨_, rfl⟩
  clear c0 m0 c1 m1 w2 r0 r1 i0 i1
  go_enter Try.func5, Try.ntmps5
  go_wp2_with fail
  refine (known_holds _).mono ?_
  rintro x v1 ⟨rfl, hB1⟩
  go_wp2_with fail
  refine (few_at' hf0 hn0 (R0.out.later hB1) I0.out m0').mono ?_
  rintro x v2 ⟨rfl, hb2⟩
  have hB2 := below_on hB1 hb2
  clear hb2 hB1
  cases f0
  · go_wp2_with fail
    go_ret
    exact ⟨rfl, hB2⟩
  go_wp2_with fail
  refine (few_events _ _ _ _ _ _ hf1 hn1 (R1.out.later hB2) I1.out m1').mono ?_
  rintro x v3 ⟨rfl, hb3⟩
  have hB3 := below_on hB2 hb3
  clear hb3 hB2
  cases f1
  · go_wp2_with fail
    go_ret
    exact ⟨rfl, hB3⟩
  go_wp2_with fail
  refine (law_rising _ _ _ _ _ _ hg0 hn0 (R0.out.later hB3) I0.out m0').mono ?_
  rintro x v4 ⟨rfl, hb4⟩
  have hB4 := below_on hB3 hb4
  clear hb4 hB3
  cases g0
  · go_wp2_with fail
    go_ret
    exact ⟨rfl, hB4⟩
  cases b
  case true =>
    go_wp2_with fail
    go_ret
    exact ⟨rfl, hB4⟩
  have h30 : n0 ≤ 30 := by rw [← hn0.out]; exact fewL_len hf0.out
  have h31 : n1 ≤ 30 := by rw [← hn1.out]; exact fewE_len hf1.out
  have hGR := hid (good_goodR hg0.out I0.out)
  have ha50 : a2.size ≤ 50 := by simp at hb; omega
  obtain ⟨i0', hi, hz0, hz1, hz2⟩ := info_parts3 Try.infoTh
  clear hf0 hf1 hg0
  obtain ⟨M, ok, hF⟩ : ∃ M ok, Hid (foE L0 L1 = (M, ok)) := ⟨_, _, rfl⟩
  obtain ⟨nm, hnm⟩ : ∃ n, Hid (M.length = n) := ⟨_, rfl⟩
  have hM60 : nm ≤ 60 := by
    have := foE_len hGR.out.rise hF.out
    rw [hnm.out, hn0.out, hn1.out] at this
    omega
  have hGM := hid (foE_good hGR.out I1.out hF.out)
  have FO := fun (W : World) (hb : Below w.heap.size w W) => event_fold (cap := cap0) (cap' := cap1) hF (R0.out.later hb) hGR.out.rise hn0 (by omega) (R1.out.later hb) hn1 (by omega) I1.out hnm
  have HROW := hid (R0.out.later hB4)
  rcases a0 with _ | ad
  · have eL : L0 = [] := by
      rcases HROW.out with h | ⟨b, off, h, _⟩
      · exact h
      · cases h
    have en : n0 = 0 := by rw [← hn0.out, eL]; rfl
    subst en
    have HW4 := hid (show RowT v4 none L0 from HROW.out)
    go_upto_region 6 with (at_builtin; refine wpList_append_nil_any rfl _ _ 22 rfl 43 i0' Try.underlying22 hi rfl rfl ?_)
    have hB5 := hB4
    have HW5 := HW4
    clear hB4 HW4 HROW
    go_wp2_with fail
    refine (FO _ hB5).mono ?_
    rintro x v6 ⟨p6, c6, rfl, ho6, hb6⟩
    have hB6 := below_on hB5 hb6
    have HV6 := hid (row_own ho6 hnm.out.symm)
    have HW6 := hid (HW5.out.later hb6)
    clear ho6 hb6 hB5 FO HW5
    cases ok
    · have eM := foE_no hF.out
      subst eM
      have enm := hnm.out.symm.trans hn0.out
      subst enm
      go_wp2_with fail
      refine (same_true HV6.out (R0.out.later hB6) hn0 (by omega)).mono ?_
      rintro x v7 ⟨rfl, hb7⟩
      have hB7 := below_on hB6 hb7
      have HV7 := hid (HV6.out.later hb7)
      have HW7 := hid (HW6.out.later hb7)
      clear hb7 hB6 HV6 HW6
      go_wp2_with fail
      refine (same_true HW7.out (R0.out.later hB7) hn0 (by omega)).mono ?_
      rintro x v8 ⟨rfl, hb8⟩
      have hB8 := below_on hB7 hb8
      have HV8 := hid (HV7.out.later hb8)
      clear hb8 hB7 HV7 HW7
      go_wp2_with fail
      refine (law_rising _ _ _ _ _ _ (show Hid (good M = true) from goodR_good hGM.out) hnm HV8.out hGM.out.fit (by unfold maxLen; omega)).mono ?_
      rintro x v9 ⟨rfl, hb9⟩
      have hBX := below_on hB8 hb9
      clear hb9 hB8 HV8
      rcases esB_cases (L := L1) (by rw [hn1.out]; exact h31) with ⟨hA, hS⟩ | ⟨hA, hS, lS⟩
      · have BY := fun (W : World) (hb : Below w.heap.size w W) => event_bytes (cap := cap1) (show Hid (esB L1 = ([], 11)) from hS) (R1.out.later hb) I1.out hn1 (by omega)
        clear hA hS
        go_wp2_with fail
        refine (BY _ hBX).mono ?_
        rintro x y1 ⟨rfl, hc1⟩
        have hD1 := below_on hBX hc1
        clear hc1 hBX BY
        go_wp2_with fail
        go_ret
        exact ⟨rfl, hD1⟩
      · obtain ⟨S, hSe⟩ : ∃ S, put L1.length ++ L1.flatMap evB = S := ⟨_, rfl⟩
        have hRd := hid (back_rest (a2 := a2) hA hSe I1.out hn1.out h31)
        rw [hSe] at hS lS
        have BY := fun (W : World) (hb : Below w.heap.size w W) => event_bytes (cap := cap1) (show Hid (esB L1 = (S, 0)) from hS) (R1.out.later hb) I1.out hn1 (by omega)
        have szS := size_list S
        have hs6 : ((⟨S.toArray⟩ : ByteArray) ++ a2).size ≤ 1000000 := by rw [ByteArray.size_append, szS]; omega
        clear hA hS hSe
        go_wp2_with fail
        refine (BY _ hBX).mono ?_
        rintro x y1 ⟨rfl, hc1⟩
        have hD1 := below_on hBX hc1
        clear hc1 hBX BY
        go_wp2_with fail
        refine (event_read hRd hs6 _).mono ?_
        rintro x y2 ⟨vv, rfl, ho, hc2⟩
        have hD2 := below_on hD1 hc2
        rw [hn1.out] at ho
        obtain ⟨pp, cc, rfl⟩ := owns_slice ho
        have HM := hid (rowE_own ho hn1.out.symm)
        clear hc2 hD1 ho
        go_wp2_with fail
        refine (refev_same (cap := cc) (cap' := cap1) (show Hid (sameE L1 L1 = true) from sameE_self L1) HM.out (R1.out.later hD2) hn1 hn1 (by omega) (by omega)).mono ?_
        rintro x y3 ⟨rfl, hc3⟩
        have hD3 := below_on hD2 hc3
        clear hc3 hD2
        go_wp2_with fail
        go_ret
        exact ⟨rfl, hD3⟩
    · go_wp2_with fail
      refine (same_true HW6.out (R0.out.later hB6) hn0 (by omega)).mono ?_
      rintro x v8 ⟨rfl, hb8⟩
      have hB8 := below_on hB6 hb8
      have HV8 := hid (HV6.out.later hb8)
      clear hb8 hB6 HV6 HW6
      go_wp2_with fail
      refine (law_rising _ _ _ _ _ _ (show Hid (good M = true) from goodR_good hGM.out) hnm HV8.out hGM.out.fit (by unfold maxLen; omega)).mono ?_
      rintro x v9 ⟨rfl, hb9⟩
      have hBX := below_on hB8 hb9
      clear hb9 hB8 HV8
      rcases esB_cases (L := L1) (by rw [hn1.out]; exact h31) with ⟨hA, hS⟩ | ⟨hA, hS, lS⟩
      · have BY := fun (W : World) (hb : Below w.heap.size w W) => event_bytes (cap := cap1) (show Hid (esB L1 = ([], 11)) from hS) (R1.out.later hb) I1.out hn1 (by omega)
        clear hA hS
        go_wp2_with fail
        refine (BY _ hBX).mono ?_
        rintro x y1 ⟨rfl, hc1⟩
        have hD1 := below_on hBX hc1
        clear hc1 hBX BY
        go_wp2_with fail
        go_ret
        exact ⟨rfl, hD1⟩
      · obtain ⟨S, hSe⟩ : ∃ S, put L1.length ++ L1.flatMap evB = S := ⟨_, rfl⟩
        have hRd := hid (back_rest (a2 := a2) hA hSe I1.out hn1.out h31)
        rw [hSe] at hS lS
        have BY := fun (W : World) (hb : Below w.heap.size w W) => event_bytes (cap := cap1) (show Hid (esB L1 = (S, 0)) from hS) (R1.out.later hb) I1.out hn1 (by omega)
        have szS := size_list S
        have hs6 : ((⟨S.toArray⟩ : ByteArray) ++ a2).size ≤ 1000000 := by rw [ByteArray.size_append, szS]; omega
        clear hA hS hSe
        go_wp2_with fail
        refine (BY _ hBX).mono ?_
        rintro x y1 ⟨rfl, hc1⟩
        have hD1 := below_on hBX hc1
        clear hc1 hBX BY
        go_wp2_with fail
        refine (event_read hRd hs6 _).mono ?_
        rintro x y2 ⟨vv, rfl, ho, hc2⟩
        have hD2 := below_on hD1 hc2
        rw [hn1.out] at ho
        obtain ⟨pp, cc, rfl⟩ := owns_slice ho
        have HM := hid (rowE_own ho hn1.out.symm)
        clear hc2 hD1 ho
        go_wp2_with fail
        refine (refev_same (cap := cc) (cap' := cap1) (show Hid (sameE L1 L1 = true) from sameE_self L1) HM.out (R1.out.later hD2) hn1 hn1 (by omega) (by omega)).mono ?_
        rintro x y3 ⟨rfl, hc3⟩
        have hD3 := below_on hD2 hc3
        clear hc3 hD2
        go_wp2_with fail
        go_ret
        exact ⟨rfl, hD3⟩
  · have A := hid (RowT.read HROW.out)
    have hfl := hid (show (flatT L0).length = n0 * 11 by rw [flatT_length, hn0.out])
    have h1c := hid (ths_cell L0)
    obtain ⟨X, hX⟩ : ∃ X, Hid (flatT L0 = X) := ⟨_, rfl⟩
    rw [hX.out] at A hfl h1c
    go_upto_region 6 with (at_builtin; refine wpList_append_own _ rfl _ _ 22 rfl v4.heap.size 43 i0' zT.v 11 120 Try.underlying22 hi hz0 hz1 hz2 rfl (by decide) _ _ _ rfl (World.ownsRow_nil v4 v4.heap.size 43 11) ad n0 cap0 X rfl hfl.out A.out h1c.out (by unfold maxLen; omega) (by omega) (Nat.le_refl _) ?_; intro v' w5 hown hgrow hnil)
    have hgrow2 : v4.grownBy w5 none := hgrow
    have hB5 := below_on hB4 ((Below.refl _ v4).grown hgrow2 (Nat.le_refl _) (fun k hk => by cases hk))
    rw [List.nil_append, ← hX.out, Nat.zero_add] at hown
    obtain ⟨p5, c5, rfl⟩ := owns_slice hown
    have HW5 := hid (row_own hown hn0.out.symm)
    clear hown hgrow hgrow2 hnil A hfl h1c hB4 HROW hX
    go_wp2_with fail
    refine (FO _ hB5).mono ?_
    rintro x v6 ⟨p6, c6, rfl, ho6, hb6⟩
    have hB6 := below_on hB5 hb6
    have HV6 := hid (row_own ho6 hnm.out.symm)
    have HW6 := hid (HW5.out.later hb6)
    clear ho6 hb6 hB5 FO HW5
    cases ok
    · have eM := foE_no hF.out
      subst eM
      have enm := hnm.out.symm.trans hn0.out
      subst enm
      go_wp2_with fail
      refine (same_true HV6.out (R0.out.later hB6) hn0 (by omega)).mono ?_
      rintro x v7 ⟨rfl, hb7⟩
      have hB7 := below_on hB6 hb7
      have HV7 := hid (HV6.out.later hb7)
      have HW7 := hid (HW6.out.later hb7)
      clear hb7 hB6 HV6 HW6
      go_wp2_with fail
      refine (same_true HW7.out (R0.out.later hB7) hn0 (by omega)).mono ?_
      rintro x v8 ⟨rfl, hb8⟩
      have hB8 := below_on hB7 hb8
      have HV8 := hid (HV7.out.later hb8)
      clear hb8 hB7 HV7 HW7
      go_wp2_with fail
      refine (law_rising _ _ _ _ _ _ (show Hid (good M = true) from goodR_good hGM.out) hnm HV8.out hGM.out.fit (by unfold maxLen; omega)).mono ?_
      rintro x v9 ⟨rfl, hb9⟩
      have hBX := below_on hB8 hb9
      clear hb9 hB8 HV8
      rcases esB_cases (L := L1) (by rw [hn1.out]; exact h31) with ⟨hA, hS⟩ | ⟨hA, hS, lS⟩
      · have BY := fun (W : World) (hb : Below w.heap.size w W) => event_bytes (cap := cap1) (show Hid (esB L1 = ([], 11)) from hS) (R1.out.later hb) I1.out hn1 (by omega)
        clear hA hS
        go_wp2_with fail
        refine (BY _ hBX).mono ?_
        rintro x y1 ⟨rfl, hc1⟩
        have hD1 := below_on hBX hc1
        clear hc1 hBX BY
        go_wp2_with fail
        go_ret
        exact ⟨rfl, hD1⟩
      · obtain ⟨S, hSe⟩ : ∃ S, put L1.length ++ L1.flatMap evB = S := ⟨_, rfl⟩
        have hRd := hid (back_rest (a2 := a2) hA hSe I1.out hn1.out h31)
        rw [hSe] at hS lS
        have BY := fun (W : World) (hb : Below w.heap.size w W) => event_bytes (cap := cap1) (show Hid (esB L1 = (S, 0)) from hS) (R1.out.later hb) I1.out hn1 (by omega)
        have szS := size_list S
        have hs6 : ((⟨S.toArray⟩ : ByteArray) ++ a2).size ≤ 1000000 := by rw [ByteArray.size_append, szS]; omega
        clear hA hS hSe
        go_wp2_with fail
        refine (BY _ hBX).mono ?_
        rintro x y1 ⟨rfl, hc1⟩
        have hD1 := below_on hBX hc1
        clear hc1 hBX BY
        go_wp2_with fail
        refine (event_read hRd hs6 _).mono ?_
        rintro x y2 ⟨vv, rfl, ho, hc2⟩
        have hD2 := below_on hD1 hc2
        rw [hn1.out] at ho
        obtain ⟨pp, cc, rfl⟩ := owns_slice ho
        have HM := hid (rowE_own ho hn1.out.symm)
        clear hc2 hD1 ho
        go_wp2_with fail
        refine (refev_same (cap := cc) (cap' := cap1) (show Hid (sameE L1 L1 = true) from sameE_self L1) HM.out (R1.out.later hD2) hn1 hn1 (by omega) (by omega)).mono ?_
        rintro x y3 ⟨rfl, hc3⟩
        have hD3 := below_on hD2 hc3
        clear hc3 hD2
        go_wp2_with fail
        go_ret
        exact ⟨rfl, hD3⟩
    · go_wp2_with fail
      refine (same_true HW6.out (R0.out.later hB6) hn0 (by omega)).mono ?_
      rintro x v8 ⟨rfl, hb8⟩
      have hB8 := below_on hB6 hb8
      have HV8 := hid (HV6.out.later hb8)
      clear hb8 hB6 HV6 HW6
      go_wp2_with fail
      refine (law_rising _ _ _ _ _ _ (show Hid (good M = true) from goodR_good hGM.out) hnm HV8.out hGM.out.fit (by unfold maxLen; omega)).mono ?_
      rintro x v9 ⟨rfl, hb9⟩
      have hBX := below_on hB8 hb9
      clear hb9 hB8 HV8
      rcases esB_cases (L := L1) (by rw [hn1.out]; exact h31) with ⟨hA, hS⟩ | ⟨hA, hS, lS⟩
      · have BY := fun (W : World) (hb : Below w.heap.size w W) => event_bytes (cap := cap1) (show Hid (esB L1 = ([], 11)) from hS) (R1.out.later hb) I1.out hn1 (by omega)
        clear hA hS
        go_wp2_with fail
        refine (BY _ hBX).mono ?_
        rintro x y1 ⟨rfl, hc1⟩
        have hD1 := below_on hBX hc1
        clear hc1 hBX BY
        go_wp2_with fail
        go_ret
        exact ⟨rfl, hD1⟩
      · obtain ⟨S, hSe⟩ : ∃ S, put L1.length ++ L1.flatMap evB = S := ⟨_, rfl⟩
        have hRd := hid (back_rest (a2 := a2) hA hSe I1.out hn1.out h31)
        rw [hSe] at hS lS
        have BY := fun (W : World) (hb : Below w.heap.size w W) => event_bytes (cap := cap1) (show Hid (esB L1 = (S, 0)) from hS) (R1.out.later hb) I1.out hn1 (by omega)
        have szS := size_list S
        have hs6 : ((⟨S.toArray⟩ : ByteArray) ++ a2).size ≤ 1000000 := by rw [ByteArray.size_append, szS]; omega
        clear hA hS hSe
        go_wp2_with fail
        refine (BY _ hBX).mono ?_
        rintro x y1 ⟨rfl, hc1⟩
        have hD1 := below_on hBX hc1
        clear hc1 hBX BY
        go_wp2_with fail
        refine (event_read hRd hs6 _).mono ?_
        rintro x y2 ⟨vv, rfl, ho, hc2⟩
        have hD2 := below_on hD1 hc2
        rw [hn1.out] at ho
        obtain ⟨pp, cc, rfl⟩ := owns_slice ho
        have HM := hid (rowE_own ho hn1.out.symm)
        clear hc2 hD1 ho
        go_wp2_with fail
        refine (refev_same (cap := cc) (cap' := cap1) (show Hid (sameE L1 L1 = true) from sameE_self L1) HM.out (R1.out.later hD2) hn1 hn1 (by omega) (by omega)).mono ?_
        rintro x y3 ⟨rfl, hc3⟩
        have hD3 := below_on hD2 hc3
        clear hc3 hD2
        go_wp2_with fail
        go_ret
        exact ⟨rfl, hD3⟩

theorem eventBack_own : ownKnob Try.prog.godebug = none := by kernel_rfl
theorem eventBack_laidOut : laidOutB Try.prog = true := by kernel_rfl
set_option maxRecDepth 100000 in
theorem eventBack_lifted (os : Os) (started : os.Started) (H : Type) (enc : TypeId × Value → H) :
    ReturnsInHanded {} Try.checked os 5 .any (Rows.eventBackSpec.pre6 enc Try.prog Try.f5 Rows.eventBackRow.domain false) (Rows.eventBackSpec.post enc Try.prog Try.f5 false true false false) := by
  refine returnsInHanded_of_change (C := Try.checked) eventBack_own started (by kernel_rfl) Try.func5
    (ChangeSpec.witness6 (enc := enc) (C := Try.checked) false ⟨#[], #[.slice none 0 0, .slice none 0 0, .string ByteArray.empty], []⟩ 8 (by kernel_rfl) (by kernel_rfl) (by kernel_rfl) (by kernel_rfl)) ?_
  intro W base args ds gs before hval0 hW hcnd _
  have hval : ∀ (j : Nat) t v, Try.f5.params[j]? = some t → args[j]? = some v → Value.okWide Try.prog W .any base t v := hval0
  have hW' := hW
  obtain ⟨p, q, hA0, hV, rfl, hfz, hnd⟩ := hW
  have hA : DataW.TrodAll enc Try.prog W 0 (fun _ => true) true Try.f5.params.toList args.toList ds p := hA0
  rw [Try.params5] at hA hval
  obtain ⟨v0, vs0, d0, ds0, p0, q0, hargs, rfl, rfl, h0, r0⟩ := trodAll_cons hA
  obtain ⟨v1, vs1, d1, ds1, p1, q1, rfl, rfl, rfl, h1, r1⟩ := trodAll_cons r0
  obtain ⟨v2, vs2, d2, ds2, p2, q2, rfl, rfl, rfl, h2, r2⟩ := trodAll_cons r1
  obtain ⟨rfl, rfl, rfl⟩ := trodAll_nil r2
  obtain rfl : args = #[v0, v1, v2] := by cases args; simp_all
  obtain ⟨rfl, rfl⟩ := trodVars_none hV
  have k0 := h0
  have lt0 : ∀ x ∈ p0, x.block < W.heap.size := by obtain ⟨m, hm⟩ := k0; exact DataW.trod_lt m _ _ _ hm
  have k1 := h1
  have lt1 : ∀ x ∈ p1, x.block < W.heap.size := by obtain ⟨m, hm⟩ := k1; exact DataW.trod_lt m _ _ _ hm
  have k2 := h2
  have lt2 : ∀ x ∈ p2, x.block < W.heap.size := by obtain ⟨m, hm⟩ := k2; exact DataW.trod_lt m _ _ _ hm
  obtain ⟨a0, cap0, L0, rfl, i0, r0', c0, m0⟩ := open_ths (hval 0 22 v0 rfl rfl) h0
  obtain ⟨a1, cap1, L1, rfl, i1, r1', c1, m1⟩ := open_evs (hval 1 23 v1 rfl rfl) h1
  obtain ⟨a2, rfl, rfl, rfl, w2⟩ := open_string Try.underlying9 (hval 2 9 v2 rfl rfl) h2
  clear hA0 hval0
  refine (eventBack_walk W a0 cap0 L0 i0 r0' c0 m0 a1 cap1 L1 i1 r1' c1 m1 a2 w2).mono fun e W' ⟨he, bel⟩ => ?_
  subst he
  exact ⟨_, rfl, _, _, _, [], _, [], hW', trodAll_mk1 (shut_bool Try.underlying4 _), (trodAll_cons_mk (Below.trod eventBack_laidOut (by kernel_rfl) (of_decide_eq_true (by kernel_rfl)) k0 bel lt0) (trodAll_cons_mk (Below.trod eventBack_laidOut (by kernel_rfl) (of_decide_eq_true (by kernel_rfl)) k1 bel lt1) (trodAll_cons_mk (Below.trod eventBack_laidOut (by kernel_rfl) (of_decide_eq_true (by kernel_rfl)) k2 bel lt2) trodAll_mk0))), rfl, bel.frame _, fun h => by cases h⟩

theorem eventBack_over : Rows.eventBackRow.holds Try.pinned (OpenSpec.ofChange Rows.eventBackSpec) :=
  OpenClaim.holds_of_wide 5 Try.f5 rfl rfl rfl rfl rfl rfl rfl ⟨rfl, rfl, rfl, rfl, rfl⟩ rfl rfl rfl rfl rfl (by kernel_rfl) Try.func5 (by kernel_rfl)
    (of_decide_eq_true (by kernel_rfl)) (by unfold Func.isWrapper; first | (rw [if_pos (by decide +kernel)]; kernel_rfl) | (rw [if_neg (by decide +kernel)]; exact ⟨rfl, rfl⟩))
    (fun os started H enc _ => eventBack_lifted os started H enc)

theorem eventBack_holds : Rows.EventBackSaid := eventBack_over
#print axioms eventBack_holds
end Go.Proofs.Ytkklchobiiajgaa
