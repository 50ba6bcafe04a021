/- CmdTells: for every two commands whose texts are not above 40 bytes: Is, Watches, Same, and whether Bytes tells an error are what the document's own words, in the reference, say; at most 200 bytes. No condition beyond the statement's own. -/
import Derived.Test.YtfcofhlcainanaaCmC
import Derived.Test.YtfcofhlcainanaaCm200
import Derived.ProofKit
import Derived.OpenShut
import Derived.ShutString
import Derived.ChangeOld
import Derived.Below
import Derived.SizedLaws
namespace Go.Proofs.Ytfcofhlcainanaa
open Go.ChangeShapes Go.WideShapes Go.ChangeAt Go.RowKit
open Go.ChangeMaps (open_string shut_string)
set_option linter.unusedVariables false

set_option maxRecDepth 100000 in
set_option maxHeartbeats 8000000 in
theorem cmdTells_walk (w : World) (a0 : Cm) (w0 : inC a0) (a1 : Cm) (w1 : inC a1) :
    Calls Try.prog 3 #[a0.v, a1.v] w fun e w' => e = .returned (.bool true) ∧ Below w.heap.size w w' := by
  have hf0 := in_fit w0
  have hf1 := in_fit w1
  obtain ⟨W, hW⟩ : ∃ W, W = (w.alloc a0.o).alloc a1.o := ⟨_, rfl⟩
  have hE : Below w.heap.size w W := by rw [hW]; exact Go.Joins.below_alloc2 _ _ _
  have K1 := hid (show W.heap[w.heap.size]? = some a0.o by rw [hW]; exact old_at (new_at _ _ _ rfl) _)
  have K2 := hid (show W.heap[w.heap.size + 1]? = some a1.o by rw [hW]; exact new_at _ _ _ (by simp))
  have l2 : w.heap.size + 1 < W.heap.size := at_lt K2.out
  obtain ⟨q0, hq0⟩ : ∃ q, Hid (fewC a0 = q) := ⟨_, rfl⟩
  obtain ⟨q1, hq1⟩ : ∃ q, Hid (fewC a1 = q) := ⟨_, rfl⟩
  have C1 := fun w => few_cmd w a0 (fit_sized hf0)
  have C2 := fun w => few_cmd w a1 (fit_sized hf1)
  rw [hq0.out] at C1
  rw [hq1.out] at C2
  obtain ⟨r, hr⟩ : ∃ r, Hid (isC a0 = r) := ⟨_, rfl⟩
  have D1 := fun w => isC_at hr.out (fit_sized hf0) w
  have D2 := fun w => refIs_at hr.out (fit_sized hf0) w
  obtain ⟨wb, hwb⟩ : ∃ b, Hid (watchB a0.kd = b) := ⟨_, rfl⟩
  have D3 := fun w => cmd_watches w a0
  have D4 := fun w => ref_watches w a0
  rw [hwb.out] at D3 D4
  obtain ⟨eb, heb⟩ : ∃ b, Hid (eqC a0 a1 = b) := ⟨_, rfl⟩
  have D5 := fun w => cmd_same w a0 a1
  rw [heb.out] at D5
  have hQ := equal_cm_at heb.out
  clear w0 w1
  go_enter Try.func3, Try.ntmps3
  go_upto_region 1 with fail
  rw [← hW]
  clear hW
  go_wp2_with fail
  refine (known_holds _).mono ?_
  rintro x W1 ⟨rfl, hb⟩
  replace K1 := hid (var_on hb K1.out (by omega))
  replace K2 := hid (var_on hb K2.out l2)
  replace hE := below_on hE hb
  replace l2 := at_lt K2.out
  clear hb
  go_wp2_with (with_reducible refine wpList_load_cm rfl (.tmp 2) rfl rfl K1.out ?_)
  refine (C1 _).mono ?_
  rintro x W2 ⟨rfl, hb⟩
  replace K1 := hid (var_on hb K1.out (by omega))
  replace K2 := hid (var_on hb K2.out l2)
  replace hE := below_on hE hb
  replace l2 := at_lt K2.out
  clear hb C1
  cases q0
  · go_wp2_with fail
    go_ret
    exact ⟨rfl, hE⟩
  go_wp2_with ((with_reducible refine wpList_load_cmG ?_ (.tmp 3) rfl rfl K2.out ?_); · rfl)
  refine (C2 _).mono ?_
  rintro x W3 ⟨rfl, hb⟩
  replace K1 := hid (var_on hb K1.out (by omega))
  replace K2 := hid (var_on hb K2.out l2)
  replace hE := below_on hE hb
  replace l2 := at_lt K2.out
  clear hb C2
  cases q1
  · go_wp2_with fail
    go_ret
    exact ⟨rfl, hE⟩
  obtain ⟨B, e, hBe, hlen, hcase⟩ : ∃ (B : List UInt8) (e : Nat), bytesC a0 = (B, e) ∧ B.length ≤ 200 ∧ ((r = true ∧ e = 0) ∨ (r = false ∧ e = 11 ∧ B = [])) := by
    cases hrr : r
    · exact ⟨[], 11, by unfold bytesC; rw [hr.out, hrr]; rfl, by simp, .inr ⟨rfl, rfl, rfl⟩⟩
    · exact ⟨toldL (partsP a0.kd) a0, 0, by unfold bytesC; rw [hr.out, hrr]; rfl, told_200 (hr.out.trans hrr), .inl ⟨rfl, rfl⟩⟩
  have D0 := fun w => bytes_at (hid hBe) hf0 w
  go_wp2_with (with_reducible refine wpList_load_cm rfl (.tmp 2) rfl rfl K1.out ?_)
  refine (D0 _).mono ?_
  rintro x W4 ⟨rfl, hb⟩
  replace K1 := hid (var_on hb K1.out (by omega))
  replace K2 := hid (var_on hb K2.out l2)
  replace hE := below_on hE hb
  replace l2 := at_lt K2.out
  clear hb D0 hBe
  have hG1 : ∀ W', (∃ p : Regrown, W' = Sort.grow (redrawn W4 p.d) p.os) → W'.heap[w.heap.size]? = some a0.o := fun W' ⟨p, e⟩ => by rw [e]; exact var_on (below_regrown W4 p.d p.os) K1.out (at_lt K1.out)
  have hG2 : ∀ W', (∃ p : Regrown, W' = Sort.grow (redrawn W4 p.d) p.os) → W'.heap[w.heap.size + 1]? = some a1.o := fun W' ⟨p, e⟩ => by rw [e]; exact var_on (below_regrown W4 p.d p.os) K2.out (at_lt K2.out)
  have b1 : (r == r) = true := by simp
  have b2 : (wb == wb) = true := by simp
  have b3 : (eb == eb) = true := by simp
  rcases hcase with ⟨rfl, rfl⟩ | ⟨rfl, rfl, rfl⟩
  · have hl : decide ((B.length : Int) ≤ 200) = true := by simp; omega
    go_upto_region 6 with fail
    refine wp_region_quiet_below (by kernel_rfl) (by kernel_rfl) ?_
    repeat (first | go_big_quiet_skip | ((with_reducible refine quiet_load_cm ?_ (.tmp 2) rfl rfl hG1 ?_); (· rfl); simp only [Act.put, List.setIfInBounds_toArray, List.set_cons_zero, List.set_cons_succ]) | ((with_reducible refine quiet_load_cm ?_ (.tmp 3) rfl rfl hG2 ?_); (· rfl); simp only [Act.put, List.setIfInBounds_toArray, List.set_cons_zero, List.set_cons_succ]) | (go_big_quiet_want; go_big_quiet_op; first | go_big_quiet_on | go_big_quiet_call (first | with_reducible exact Calls.regrown_of (D1 _) | with_reducible exact Calls.regrown_of (D2 _) | with_reducible exact Calls.regrown_of (D3 _) | with_reducible exact Calls.regrown_of (D4 _) | with_reducible exact Calls.regrown_of (D5 _))))
    refine wpQuiet_nil ?_
    intro _ hw'
    obtain ⟨⟨dq, osq⟩, hw''⟩ := hw'
    subst hw''
    go_wp2_with fail
    go_ret
    exact ⟨rfl, below_on hE (below_regrown _ _ _)⟩
  · go_upto_region 6 with fail
    refine wp_region_quiet_below (by kernel_rfl) (by kernel_rfl) ?_
    repeat (first | go_big_quiet_skip | ((with_reducible refine quiet_load_cm ?_ (.tmp 2) rfl rfl hG1 ?_); (· rfl); simp only [Act.put, List.setIfInBounds_toArray, List.set_cons_zero, List.set_cons_succ]) | ((with_reducible refine quiet_load_cm ?_ (.tmp 3) rfl rfl hG2 ?_); (· rfl); simp only [Act.put, List.setIfInBounds_toArray, List.set_cons_zero, List.set_cons_succ]) | (go_big_quiet_want; go_big_quiet_op; first | go_big_quiet_on | go_big_quiet_call (first | with_reducible exact Calls.regrown_of (D1 _) | with_reducible exact Calls.regrown_of (D2 _) | with_reducible exact Calls.regrown_of (D3 _) | with_reducible exact Calls.regrown_of (D4 _) | with_reducible exact Calls.regrown_of (D5 _))))
    refine wpQuiet_nil ?_
    intro _ hw'
    obtain ⟨⟨dq, osq⟩, hw''⟩ := hw'
    subst hw''
    go_wp2_with fail
    go_ret
    exact ⟨rfl, below_on hE (below_regrown _ _ _)⟩

theorem cmdTells_own : ownKnob Try.prog.godebug = none := by kernel_rfl
theorem cmdTells_laidOut : laidOutB Try.prog = true := by kernel_rfl
set_option maxRecDepth 100000 in
theorem cmdTells_lifted (os : Os) (started : os.Started) (H : Type) (enc : TypeId × Value → H) :
    ReturnsInHanded {} Try.checked os 3 .any (Rows.cmdTellsSpec.pre6 enc Try.prog Try.f3 Rows.cmdTellsRow.domain false) (Rows.cmdTellsSpec.post enc Try.prog Try.f3 false true false false) := by
  refine returnsInHanded_of_change (C := Try.checked) cmdTells_own started (by kernel_rfl) Try.func3
    (ChangeSpec.witness6 (enc := enc) (C := Try.checked) false ⟨#[], #[.agg #[.int .i64 0, .int .i64 0, .int .i64 0, .int .i64 0, .int .i64 0, .int .i64 0, .int .i64 0, .string ByteArray.empty, .int .i64 0, .string ByteArray.empty, .int .i64 0, .string ByteArray.empty, .int .i64 0, .string ByteArray.empty, .int .i64 0, .string ByteArray.empty, .int .i64 0, .int .i64 0, .int .i64 0, .int .i64 0, .int .i64 0, .int .i64 0], .agg #[.int .i64 0, .int .i64 0, .int .i64 0, .int .i64 0, .int .i64 0, .int .i64 0, .int .i64 0, .string ByteArray.empty, .int .i64 0, .string ByteArray.empty, .int .i64 0, .string ByteArray.empty, .int .i64 0, .string ByteArray.empty, .int .i64 0, .string ByteArray.empty, .int .i64 0, .int .i64 0, .int .i64 0, .int .i64 0, .int .i64 0, .int .i64 0]], []⟩ 8 (by kernel_rfl) (by kernel_rfl) (by kernel_rfl) (by kernel_rfl)) ?_
  intro W base args ds gs before hval0 hW hcnd _
  have hval : ∀ (j : Nat) t v, Try.f3.params[j]? = some t → args[j]? = some v → Value.okWide Try.prog W .any base t v := hval0
  have hW' := hW
  obtain ⟨p, q, hA0, hV, rfl, hfz, hnd⟩ := hW
  have hA : DataW.TrodAll enc Try.prog W 0 (fun _ => true) true Try.f3.params.toList args.toList ds p := hA0
  rw [Try.params3] at hA hval
  obtain ⟨v0, vs0, d0, ds0, p0, q0, hargs, rfl, rfl, h0, r0⟩ := trodAll_cons hA
  obtain ⟨v1, vs1, d1, ds1, p1, q1, rfl, rfl, rfl, h1, r1⟩ := trodAll_cons r0
  obtain ⟨rfl, rfl, rfl⟩ := trodAll_nil r1
  obtain rfl : args = #[v0, v1] := by cases args; simp_all
  obtain ⟨rfl, rfl⟩ := trodVars_none hV
  have k0 := h0
  have lt0 : ∀ x ∈ p0, x.block < W.heap.size := by obtain ⟨m, hm⟩ := k0; exact DataW.trod_lt m _ _ _ hm
  have k1 := h1
  have lt1 : ∀ x ∈ p1, x.block < W.heap.size := by obtain ⟨m, hm⟩ := k1; exact DataW.trod_lt m _ _ _ hm
  obtain ⟨a0, rfl, w0⟩ := open_cm (hval 0 30 v0 rfl rfl) h0
  obtain ⟨a1, rfl, w1⟩ := open_cm (hval 1 30 v1 rfl rfl) h1
  clear hA0 hval0
  refine (cmdTells_walk W a0 w0 a1 w1).mono fun e W' ⟨he, bel⟩ => ?_
  subst he
  exact ⟨_, rfl, _, _, _, [], _, [], hW', trodAll_mk1 (shut_bool Try.underlying4 _), (trodAll_cons_mk (Below.trod cmdTells_laidOut (by kernel_rfl) (of_decide_eq_true (by kernel_rfl)) k0 bel lt0) (trodAll_cons_mk (Below.trod cmdTells_laidOut (by kernel_rfl) (of_decide_eq_true (by kernel_rfl)) k1 bel lt1) trodAll_mk0)), rfl, bel.frame _, fun h => by cases h⟩

theorem cmdTells_over : Rows.cmdTellsRow.holds Try.pinned (OpenSpec.ofChange Rows.cmdTellsSpec) :=
  OpenClaim.holds_of_wide 3 Try.f3 rfl rfl rfl rfl rfl rfl rfl ⟨rfl, rfl, rfl, rfl, rfl⟩ rfl rfl rfl rfl rfl (by kernel_rfl) Try.func3 (by kernel_rfl)
    (of_decide_eq_true (by kernel_rfl)) (by unfold Func.isWrapper; first | (rw [if_pos (by decide +kernel)]; kernel_rfl) | (rw [if_neg (by decide +kernel)]; exact ⟨rfl, rfl⟩))
    (fun os started H enc _ => cmdTells_lifted os started H enc)

theorem cmdTells_holds : Rows.CmdTellsSaid := cmdTells_over
#print axioms cmdTells_holds
end Go.Proofs.Ytfcofhlcainanaa
