/- CmdBack: for every two commands, every text of at most 60 bytes behind and every place to cut, texts of the commands not above 40 bytes: what was written is read again, whatever stands behind it; cut off it is none; just the same commands have the same bytes. No condition beyond the statement's own. -/
import Derived.Test.YtfcofhlcainanaaCmO
import Derived.Test.YtfcofhlcainanaaCmJ
import Derived.ProofKit
import Derived.OpenShut
import Derived.ShutString
import Derived.ChangeOld
import Derived.Below
import Derived.SizedLaws
namespace Go.Proofs.Ytfcofhlcainanaa
open Go.ChangeShapes Go.WideShapes Go.ChangeAt Go.RowKit
open Go.ChangeMaps (open_string shut_string)
set_option linter.unusedVariables false

set_option maxRecDepth 100000 in
set_option maxHeartbeats 4000000 in
theorem cmdBack_walk (w : World) (a0 : Cm) (w0 : inC a0) (a1 : Cm) (w1 : inC a1) (a2 : ByteArray) (w2 : a2.size ≤ maxLen) (a3 : Int) (w3 : (Lit.int .u8 a3).wf = true) :
    Calls Try.prog 4 #[a0.v, a1.v, .string a2, .int .u8 a3] w fun e w' => e = .returned (.bool true) ∧ Below w.heap.size w w' := by
  have hf0 := in_fit w0
  have hf1 := in_fit w1
  have hu := u8_bounds w3
  obtain ⟨W, hW⟩ : ∃ W, W = (w.alloc a0.o).alloc a1.o := ⟨_, rfl⟩
  have hE : Below w.heap.size w W := by rw [hW]; exact Go.Joins.below_alloc2 _ _ _
  have K1 := hid (show W.heap[w.heap.size]? = some a0.o by rw [hW]; exact old_at (new_at _ _ _ rfl) _)
  have K2 := hid (show W.heap[w.heap.size + 1]? = some a1.o by rw [hW]; exact new_at _ _ _ (by simp))
  have l2 : w.heap.size + 1 < W.heap.size := at_lt K2.out
  obtain ⟨q0, hq0⟩ : ∃ q, Hid (fewC a0 = q) := ⟨_, rfl⟩
  obtain ⟨q1, hq1⟩ : ∃ q, Hid (fewC a1 = q) := ⟨_, rfl⟩
  have C1 := fun w => few_cmd w a0 (fit_sized hf0)
  have C2 := fun w => few_cmd w a1 (fit_sized hf1)
  rw [hq0.out] at C1
  rw [hq1.out] at C2
  obtain ⟨r0, hr0⟩ : ∃ r, Hid (isC a0 = r) := ⟨_, rfl⟩
  obtain ⟨r1, hr1⟩ : ∃ r, Hid (isC a1 = r) := ⟨_, rfl⟩
  have C3 := fun w => isC_at hr0.out (fit_sized hf0) w
  have C4 := fun w => isC_at hr1.out (fit_sized hf1) w
  clear w0 w1 w3
  go_enter Try.func4, Try.ntmps4
  go_upto_region 1 with fail
  rw [← hW]
  clear hW
  go_wp2_with fail
  refine (known_holds _).mono ?_
  rintro x W1 ⟨rfl, hb⟩
  replace K1 := hid (var_on hb K1.out (by omega))
  replace K2 := hid (var_on hb K2.out l2)
  replace hE := below_on hE hb
  replace l2 := at_lt K2.out
  clear hb
  go_wp2_with (with_reducible refine wpList_load_cm rfl (.tmp 4) rfl rfl K1.out ?_)
  refine (C1 _).mono ?_
  rintro x W2 ⟨rfl, hb⟩
  replace K1 := hid (var_on hb K1.out (by omega))
  replace K2 := hid (var_on hb K2.out l2)
  replace hE := below_on hE hb
  replace l2 := at_lt K2.out
  clear hb C1
  cases q0
  · go_wp2_with fail
    go_ret
    exact ⟨rfl, hE⟩
  go_wp2_with ((with_reducible refine wpList_load_cmG ?_ (.tmp 5) rfl rfl K2.out ?_); · rfl)
  refine (C2 _).mono ?_
  rintro x W3 ⟨rfl, hb⟩
  replace K1 := hid (var_on hb K1.out (by omega))
  replace K2 := hid (var_on hb K2.out l2)
  replace hE := below_on hE hb
  replace l2 := at_lt K2.out
  clear hb C2
  cases q1
  · go_wp2_with fail
    go_ret
    exact ⟨rfl, hE⟩
  by_cases h60 : 60 < a2.size
  · have h60' : decide ((60 : Int) < (a2.size : Int)) = true := by simp; omega
    go_wp2_with fail
    go_ret
    exact ⟨rfl, hE⟩
  have h60' : decide ((60 : Int) < (a2.size : Int)) = false := by simp; omega
  go_wp2_with ((with_reducible refine wpList_load_cmG ?_ (.tmp 4) rfl rfl K1.out ?_); · rfl)
  refine (C3 _).mono ?_
  rintro x W4 ⟨rfl, hb⟩
  replace K1 := hid (var_on hb K1.out (by omega))
  replace K2 := hid (var_on hb K2.out l2)
  replace hE := below_on hE hb
  replace l2 := at_lt K2.out
  clear hb C3
  cases r0
  · go_wp2_with fail
    go_ret
    exact ⟨rfl, hE⟩
  go_wp2_with ((with_reducible refine wpList_load_cmG ?_ (.tmp 5) rfl rfl K2.out ?_); · rfl)
  refine (C4 _).mono ?_
  rintro x W5 ⟨rfl, hb⟩
  replace K1 := hid (var_on hb K1.out (by omega))
  replace K2 := hid (var_on hb K2.out l2)
  replace hE := below_on hE hb
  replace l2 := at_lt K2.out
  clear hb C4
  cases r1
  · go_wp2_with fail
    go_ret
    exact ⟨rfl, hE⟩
  have n0 := fit_nums hf0
  have n1 := fit_nums hf1
  obtain ⟨A, hA⟩ : ∃ A, Hid (toldL (partsP a0.kd) a0 = A) := ⟨_, rfl⟩
  obtain ⟨B, hB⟩ : ∃ B, Hid (toldL (partsP a1.kd) a1 = B) := ⟨_, rfl⟩
  have lA : A.length ≤ 288 := by
    rw [← hA.out]
    have := toldL_len a0 _ (isC_iff.1 hr0.out).1
    have := parts_len a0.kd
    omega
  have lA0 : 0 < A.length := by rw [← hA.out]; exact told_pos _
  have D1 := fun w => bytes_at (c := a0) (B := A) (e := 0) (by show bytesC a0 = _; unfold bytesC; rw [hr0.out, if_pos rfl, hA.out]) hf0 w
  have D2 := fun w => bytes_at (c := a1) (B := B) (e := 0) (by show bytesC a1 = _; unfold bytesC; rw [hr1.out, if_pos rfl, hB.out]) hf1 w
  have hback := read_back hr0.out n0
  rw [hA.out] at hback
  have D3 := fun w => cmd_read (s := (⟨A.toArray⟩ : ByteArray) ++ a2) (cc := a0) (zz := A.length) (ee := 0) (by show readC _ = _; rw [data_append]; exact hback _) (by
    rw [ByteArray.size_append]
    have e1 : (⟨A.toArray⟩ : ByteArray).size = A.length := rfl
    omega) w
  go_wp2_with (with_reducible refine wpList_load_cm rfl (.tmp 4) rfl rfl K1.out ?_)
  refine (D1 _).mono ?_
  rintro x W6 ⟨rfl, hb⟩
  replace K1 := hid (var_on hb K1.out (by omega))
  replace K2 := hid (var_on hb K2.out l2)
  replace hE := below_on hE hb
  replace l2 := at_lt K2.out
  clear hb D1
  go_wp2_with (with_reducible refine wpList_load_cm rfl (.tmp 5) rfl rfl K2.out ?_)
  refine (D2 _).mono ?_
  rintro x W7 ⟨rfl, hb⟩
  replace K1 := hid (var_on hb K1.out (by omega))
  replace K2 := hid (var_on hb K2.out l2)
  replace hE := below_on hE hb
  replace l2 := at_lt K2.out
  clear hb D2
  go_wp2_with fail
  refine (D3 _).mono ?_
  rintro x W8 ⟨rfl, hb⟩
  replace K1 := hid (var_on hb K1.out (by omega))
  replace K2 := hid (var_on hb K2.out l2)
  replace hE := below_on hE hb
  replace l2 := at_lt K2.out
  have sA : (⟨A.toArray⟩ : ByteArray).size = A.length := rfl
  clear hb D3
  have hQ := equal_cm_at (eqC_self a0)
  obtain ⟨n, rfl⟩ := Int.eq_ofNat_of_zero_le hu.1
  obtain ⟨AA, hAA⟩ : ∃ AA : ByteArray, Hid ((⟨A.toArray⟩ : ByteArray) = AA) := ⟨_, rfl⟩
  have sAA : AA.size = A.length := by rw [← hAA.out]; rfl
  have hk : n % A.length < A.length := Nat.mod_lt _ lA0
  obtain ⟨k, hkk⟩ : ∃ k, Hid (n % A.length = k) := ⟨_, rfl⟩
  rw [hkk.out] at hk
  have hne : ¬ (A.length : Int) = 0 := by omega
  have hmod : ((n : Int) % (A.length : Int)) = (k : Int) := by rw [← hkk.out]; simp
  rcases hrd : readC (A.take k) with ⟨x0, m0, e0⟩
  have he0 : ¬ e0 = 0 := by
    have := told_cut hr0.out n0 (k := k) (by rw [hA.out]; exact hk) (x := x0) (n := m0) (e := e0) (by rw [hA.out]; exact hrd)
    exact this
  obtain ⟨rfl, rfl, -⟩ := read_err hrd he0
  have HRD := hid hrd
  rw [hAA.out]
  rw [← sAA]
  obtain ⟨BB, hBB⟩ : ∃ BB : ByteArray, Hid ((⟨B.toArray⟩ : ByteArray) = BB) := ⟨_, rfl⟩
  rw [hBB.out]
  have D4 := fun w => cmd_read (s := AA.extract 0 k) (cc := zC) (zz := 0) (ee := e0) (by show readC _ = _; rw [← hAA.out, ByteArray.extract_mk]; exact HRD.out) (by rw [ByteArray.size_extract]; omega) w
  clear hrd hback
  go_wp2_with (first
    | ((with_reducible refine wpList_store_cm rfl (.tmp 13) (.tmp 59) rfl rfl rfl (new_zero _) ?_); intro W9 h9 b9 s9
       replace K1 := hid (b9.at (old_at K1.out _) (by omega))
       replace K2 := hid (b9.at (old_at K2.out _) (by omega))
       have K3 := hid h9
       replace hE := b9.below (hE.alloc (by omega) _) (by omega)
       replace l2 := at_lt K2.out
       have l3 := at_lt h9
       clear h9 b9 s9)
    | ((with_reducible refine wpList_load_cmG ?_ (.tmp 13) rfl rfl K3.out ?_); · rfl)
    | ((with_reducible refine wpList_load_cmG ?_ (.tmp 4) rfl rfl K1.out ?_); · rfl))
  refine (D4 _).mono ?_
  rintro x W10 ⟨rfl, hb⟩
  replace K1 := hid (var_on hb K1.out (by omega))
  replace K2 := hid (var_on hb K2.out l2)
  replace hE := below_on hE hb
  replace l2 := at_lt K2.out
  clear hb D4 K3 l3 hQ
  have g1 : ((e0 : Int) != 0) = true := by simpa using he0
  by_cases hsame : a0 = a1
  · have hQ := equal_cm_at (eqC_iff.2 hsame)
    have hAB : AA = BB := by rw [← hAA.out, ← hBB.out, ← hA.out, ← hB.out, hsame]
    subst hAB
    clear hsame
    go_wp2_with (first
      | ((with_reducible refine wpList_store_cm rfl (.tmp 16) (.tmp 97) rfl rfl rfl (new_zero _) ?_); intro W11 h11 b11 s11
         replace K1 := hid (b11.at (old_at K1.out _) (by omega))
         replace K2 := hid (b11.at (old_at K2.out _) (by omega))
         replace hE := b11.below (hE.alloc (by omega) _) (by omega)
         clear h11 b11 s11)
      | ((with_reducible refine wpList_load_cmG ?_ (.tmp 4) rfl rfl K1.out ?_); · rfl)
      | ((with_reducible refine wpList_load_cmG ?_ (.tmp 5) rfl rfl K2.out ?_); · rfl))
    go_ret
    exact ⟨rfl, hE⟩
  · have hQ := equal_cm_at (eqC_no.2 hsame)
    have hAB : ¬ AA.toList = BB.toList := by
      intro h
      have h1 := toList_inj.1 h
      rw [← hAA.out, ← hBB.out] at h1
      have h2 : A = B := by
        have := congrArg (fun b : ByteArray => b.data.toList) h1
        exact this
      exact hsame (told_inj hr0.out hr1.out n0 n1 (by rw [hA.out, hB.out, h2]))
    have hAB2 : (AA.toList == BB.toList) = false := by simpa using hAB
    clear hsame
    go_wp2_with (first
      | ((with_reducible refine wpList_store_cm rfl (.tmp 16) (.tmp 97) rfl rfl rfl (new_zero _) ?_); intro W11 h11 b11 s11
         replace K1 := hid (b11.at (old_at K1.out _) (by omega))
         replace K2 := hid (b11.at (old_at K2.out _) (by omega))
         replace hE := b11.below (hE.alloc (by omega) _) (by omega)
         clear h11 b11 s11)
      | ((with_reducible refine wpList_load_cmG ?_ (.tmp 4) rfl rfl K1.out ?_); · rfl)
      | ((with_reducible refine wpList_load_cmG ?_ (.tmp 5) rfl rfl K2.out ?_); · rfl))
    go_ret
    exact ⟨rfl, hE⟩

theorem cmdBack_own : ownKnob Try.prog.godebug = none := by kernel_rfl
theorem cmdBack_laidOut : laidOutB Try.prog = true := by kernel_rfl
set_option maxRecDepth 100000 in
theorem cmdBack_lifted (os : Os) (started : os.Started) (H : Type) (enc : TypeId × Value → H) :
    ReturnsInHanded {} Try.checked os 4 .any (Rows.cmdBackSpec.pre6 enc Try.prog Try.f4 Rows.cmdBackRow.domain false) (Rows.cmdBackSpec.post enc Try.prog Try.f4 false true false false) := by
  refine returnsInHanded_of_change (C := Try.checked) cmdBack_own started (by kernel_rfl) Try.func4
    (ChangeSpec.witness6 (enc := enc) (C := Try.checked) false ⟨#[], #[.agg #[.int .i64 0, .int .i64 0, .int .i64 0, .int .i64 0, .int .i64 0, .int .i64 0, .int .i64 0, .string ByteArray.empty, .int .i64 0, .string ByteArray.empty, .int .i64 0, .string ByteArray.empty, .int .i64 0, .string ByteArray.empty, .int .i64 0, .string ByteArray.empty, .int .i64 0, .int .i64 0, .int .i64 0, .int .i64 0, .int .i64 0, .int .i64 0], .agg #[.int .i64 0, .int .i64 0, .int .i64 0, .int .i64 0, .int .i64 0, .int .i64 0, .int .i64 0, .string ByteArray.empty, .int .i64 0, .string ByteArray.empty, .int .i64 0, .string ByteArray.empty, .int .i64 0, .string ByteArray.empty, .int .i64 0, .string ByteArray.empty, .int .i64 0, .int .i64 0, .int .i64 0, .int .i64 0, .int .i64 0, .int .i64 0], .string ByteArray.empty, .int .u8 0], []⟩ 8 (by kernel_rfl) (by kernel_rfl) (by kernel_rfl) (by kernel_rfl)) ?_
  intro W base args ds gs before hval0 hW hcnd _
  have hval : ∀ (j : Nat) t v, Try.f4.params[j]? = some t → args[j]? = some v → Value.okWide Try.prog W .any base t v := hval0
  have hW' := hW
  obtain ⟨p, q, hA0, hV, rfl, hfz, hnd⟩ := hW
  have hA : DataW.TrodAll enc Try.prog W 0 (fun _ => true) true Try.f4.params.toList args.toList ds p := hA0
  rw [Try.params4] at hA hval
  obtain ⟨v0, vs0, d0, ds0, p0, q0, hargs, rfl, rfl, h0, r0⟩ := trodAll_cons hA
  obtain ⟨v1, vs1, d1, ds1, p1, q1, rfl, rfl, rfl, h1, r1⟩ := trodAll_cons r0
  obtain ⟨v2, vs2, d2, ds2, p2, q2, rfl, rfl, rfl, h2, r2⟩ := trodAll_cons r1
  obtain ⟨v3, vs3, d3, ds3, p3, q3, rfl, rfl, rfl, h3, r3⟩ := trodAll_cons r2
  obtain ⟨rfl, rfl, rfl⟩ := trodAll_nil r3
  obtain rfl : args = #[v0, v1, v2, v3] := by cases args; simp_all
  obtain ⟨rfl, rfl⟩ := trodVars_none hV
  have k0 := h0
  have lt0 : ∀ x ∈ p0, x.block < W.heap.size := by obtain ⟨m, hm⟩ := k0; exact DataW.trod_lt m _ _ _ hm
  have k1 := h1
  have lt1 : ∀ x ∈ p1, x.block < W.heap.size := by obtain ⟨m, hm⟩ := k1; exact DataW.trod_lt m _ _ _ hm
  have k2 := h2
  have lt2 : ∀ x ∈ p2, x.block < W.heap.size := by obtain ⟨m, hm⟩ := k2; exact DataW.trod_lt m _ _ _ hm
  have k3 := h3
  have lt3 : ∀ x ∈ p3, x.block < W.heap.size := by obtain ⟨m, hm⟩ := k3; exact DataW.trod_lt m _ _ _ hm
  obtain ⟨a0, rfl, w0⟩ := open_cm (hval 0 30 v0 rfl rfl) h0
  obtain ⟨a1, rfl, w1⟩ := open_cm (hval 1 30 v1 rfl rfl) h1
  obtain ⟨a2, rfl, rfl, rfl, w2⟩ := open_string Try.underlying9 (hval 2 9 v2 rfl rfl) h2
  obtain ⟨a3, rfl, rfl, rfl, w3⟩ := open_int Try.underlying5 (hval 3 5 v3 rfl rfl) h3
  clear hA0 hval0
  refine (cmdBack_walk W a0 w0 a1 w1 a2 w2 a3 w3).mono fun e W' ⟨he, bel⟩ => ?_
  subst he
  exact ⟨_, rfl, _, _, _, [], _, [], hW', trodAll_mk1 (shut_bool Try.underlying4 _), (trodAll_cons_mk (Below.trod cmdBack_laidOut (by kernel_rfl) (of_decide_eq_true (by kernel_rfl)) k0 bel lt0) (trodAll_cons_mk (Below.trod cmdBack_laidOut (by kernel_rfl) (of_decide_eq_true (by kernel_rfl)) k1 bel lt1) (trodAll_cons_mk (Below.trod cmdBack_laidOut (by kernel_rfl) (of_decide_eq_true (by kernel_rfl)) k2 bel lt2) (trodAll_cons_mk (Below.trod cmdBack_laidOut (by kernel_rfl) (of_decide_eq_true (by kernel_rfl)) k3 bel lt3) trodAll_mk0)))), rfl, bel.frame _, fun h => by cases h⟩

theorem cmdBack_over : Rows.cmdBackRow.holds Try.pinned (OpenSpec.ofChange Rows.cmdBackSpec) :=
  OpenClaim.holds_of_wide 4 Try.f4 rfl rfl rfl rfl rfl rfl rfl ⟨rfl, rfl, rfl, rfl, rfl⟩ rfl rfl rfl rfl rfl (by kernel_rfl) Try.func4 (by kernel_rfl)
    (of_decide_eq_true (by kernel_rfl)) (by unfold Func.isWrapper; first | (rw [if_pos (by decide +kernel)]; kernel_rfl) | (rw [if_neg (by decide +kernel)]; exact ⟨rfl, rfl⟩))
    (fun os started H enc _ => cmdBack_lifted os started H enc)

theorem cmdBack_holds : Rows.CmdBackSaid := cmdBack_over
#print axioms cmdBack_holds
end Go.Proofs.Ytfcofhlcainanaa
