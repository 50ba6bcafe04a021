/- ThingTells holds: of every thing and every row of them whether they are any and their bytes, numbers and servers, as the reference tells; the function returns true. -/
import Derived.Test.YtlbbdpkbglkmnaaKnown7
import Derived.Test.YtlbbdpkbglkmnaaThgC
import Derived.Test.YtlbbdpkbglkmnaaThgO
import Derived.ProofKit
import Derived.OpenShut
import Derived.ShutString
import Derived.ChangeOld
import Derived.Below
import Derived.SizedLaws
namespace Go.Proofs.Ytlbbdpkbglkmnaa
open Go.ChangeShapes Go.WideShapes Go.ChangeAt Go.RowKit
open Go.ChangeMaps (open_string shut_string)
set_option linter.unusedVariables false

theorem few_len {L : List Th} (h : fewL L = true) : L.length ≤ 30 := by
  unfold fewL at h
  rw [Bool.and_eq_true, decide_eq_true_eq] at h
  exact h.2
theorem allT_cases {L : List Th} (hl : L.length ≤ 30) : ∃ S e, allT L = (S, e) ∧ S.length ≤ 40000 := by
  cases hg : good L
  · exact ⟨[], 11, by unfold allT; rw [if_neg (by omega), hg]; rfl, by simp⟩
  · refine ⟨put L.length ++ L.flatMap thB, 0, by unfold allT; rw [if_neg (by omega), hg]; rfl, ?_⟩
    have h1 := put_length L.length
    have h2 := flat_len thB 168 L (fun t ht => by
      obtain ⟨k, hk, rfl⟩ := List.getElem_of_mem ht
      have := good_at hg hk
      rw [okT_eq (t := L[k]) (by simp [hk])] at this
      exact thB_len (by simpa using (Bool.and_eq_true _ _ ▸ this).1))
    rw [List.length_append]
    omega
theorem same_at {a b : Th} {r : Bool} (h : Hid (eqT a b = r)) (w : World) : Calls Try.prog 19 #[a.v, b.v] w fun e w' => e = .returned (.bool r) ∧ Below w.heap.size w w' := by
  rw [← h.out]; exact thing_same w a b
set_option maxHeartbeats 4000000 in
set_option maxRecDepth 100000 in
theorem thingTells_walk (w : World) (a0 : Th) (w0 : inT a0) (a1 : Th) (w1 : inT a1) (a2 : Option Addr) (cap2 : Nat) (L : List Th) (i2 : ∀ t ∈ L, inT t) (r2 : RowT w a2 L) (c2 : L.length ≤ cap2) (m2 : cap2 ≤ maxLen) (a3 : Int) (w3 : (Lit.int .i64 a3).wf = true) (a4 : Int) (w4 : (Lit.int .i64 a4).wf = true) : Calls Try.prog 3 #[a0.v, a1.v, .slice a2 L.length cap2, .int .i64 a3, .int .i64 a4] w fun e w' => e = .returned (.bool true) ∧ Below w.heap.size w w' := by
  clear w3 w4
  have hm2 : cap2 ≤ 9223372036854775807 := by unfold maxLen at m2; omega
  have hml : L.length ≤ maxLen := by omega
  obtain ⟨n, hn⟩ : ∃ n, Hid (L.length = n) := ⟨_, rfl⟩
  obtain ⟨f0, hf0⟩ : ∃ q, Hid (few4 a0.f = q) := ⟨_, rfl⟩
  obtain ⟨f1, hf1⟩ : ∃ q, Hid (few4 a1.f = q) := ⟨_, rfl⟩
  obtain ⟨f2, hf2⟩ : ∃ q, Hid (fewL L = q) := ⟨_, rfl⟩
  obtain ⟨q, hq⟩ : ∃ q, Hid (isT a0 = q) := ⟨_, rfl⟩
  obtain ⟨r, hr⟩ : ∃ q, Hid (eqT a0 a1 = q) := ⟨_, rfl⟩
  have hR := equal_th_at hr.out
  have CF := fun (w' : World) (hb : Below w.heap.size w w') => few_things w' a2 cap2 L (r2.later hb) i2 hml
  rw [hf2.out, hn.out] at CF
  have HB0 : Hid (Below w.heap.size w ((w.alloc a0.o).alloc a1.o)) := Go.Joins.below_alloc2 w _ _
  have J0 : Hid (((w.alloc a0.o).alloc a1.o).heap[w.heap.size]? = some a0.o) := old_at (new_at _ _ _ rfl) _
  have J1 : Hid (((w.alloc a0.o).alloc a1.o).heap[w.heap.size + 1]? = some a1.o) := new_at _ _ _ (by simp)
  rw [hn.out]
  go_enter Try.func3, Try.ntmps3
  go_wp2_with fail
  refine (known_holds _).mono ?_
  rintro x v1 ⟨rfl, hb⟩
  have hE := below_on HB0.out hb
  have K0 := hid (var_on hb J0.out (at_lt J0.out))
  have K1 := hid (var_on hb J1.out (at_lt J1.out))
  have l0 := at_lt K0.out
  have l1 := at_lt K1.out
  clear hb HB0 J0 J1
  have c0 := cells_at K0.out
  have c1 := cells_at K1.out
  go_wp2_with fail
  refine (fewT_at hf0.out _ w0).mono ?_
  rintro x v2 ⟨rfl, hb⟩
  replace hE := below_on hE hb
  replace K0 := hid (var_on hb K0.out l0)
  replace K1 := hid (var_on hb K1.out l1)
  replace l0 := at_lt K0.out
  replace l1 := at_lt K1.out
  clear hb c0 c1
  cases f0
  · go_wp2_with fail
    go_ret
    exact ⟨rfl, hE⟩
  have c1 := cells_at K1.out
  go_wp2_with fail
  refine (fewT_at hf1.out _ w1).mono ?_
  rintro x v3 ⟨rfl, hb⟩
  replace hE := below_on hE hb
  replace K0 := hid (var_on hb K0.out l0)
  replace K1 := hid (var_on hb K1.out l1)
  replace l0 := at_lt K0.out
  replace l1 := at_lt K1.out
  clear hb c1
  cases f1
  · go_wp2_with fail
    go_ret
    exact ⟨rfl, hE⟩
  go_wp2_with fail
  refine (CF _ hE).mono ?_
  rintro x v4 ⟨rfl, hb⟩
  replace hE := below_on hE hb
  replace K0 := hid (var_on hb K0.out l0)
  replace K1 := hid (var_on hb K1.out l1)
  replace l0 := at_lt K0.out
  replace l1 := at_lt K1.out
  clear hb CF
  cases f2
  · go_wp2_with fail
    go_ret
    exact ⟨rfl, hE⟩
  obtain ⟨S, e, hA, lS⟩ := allT_cases (few_len hf2.out)
  have C1 := fun (w' : World) (hb : Below w.heap.size w w') => thing_all (hid hA) (r2.later hb) i2 c2 m2
  have C2 := fun (w' : World) (hb : Below w.heap.size w w') => ref_all (hid hA) (r2.later hb) i2 c2 m2
  rw [hn.out] at C1 C2
  clear hA
  have c0 := cells_at K0.out
  go_wp2_with fail
  refine (refT_at hq _ w0).mono ?_
  rintro x v5 ⟨rfl, hb⟩
  replace hE := below_on hE hb
  replace K0 := hid (var_on hb K0.out l0)
  replace K1 := hid (var_on hb K1.out l1)
  replace l0 := at_lt K0.out
  replace l1 := at_lt K1.out
  clear hb c0
  have c0 := cells_at K0.out
  cases q
  · have CB := fun (w' : World) => thing_bytes (hid (bytesT_no hq.out)) w0 w'
    go_wp2_with fail
    refine (CB _).mono ?_
    rintro x v6 ⟨rfl, hb⟩
    replace hE := below_on hE hb
    replace K0 := hid (var_on hb K0.out l0)
    replace K1 := hid (var_on hb K1.out l1)
    replace l0 := at_lt K0.out
    replace l1 := at_lt K1.out
    clear hb c0
    go_wp2_with fail
    refine (C1 _ hE).mono ?_
    rintro x v7 ⟨rfl, hb⟩
    replace hE := below_on hE hb
    replace K0 := hid (var_on hb K0.out l0)
    replace K1 := hid (var_on hb K1.out l1)
    replace l0 := at_lt K0.out
    replace l1 := at_lt K1.out
    clear hb
    go_wp2_with fail
    refine (C2 _ hE).mono ?_
    rintro x v8 ⟨rfl, hb⟩
    replace hE := below_on hE hb
    replace K0 := hid (var_on hb K0.out l0)
    replace K1 := hid (var_on hb K1.out l1)
    replace l0 := at_lt K0.out
    replace l1 := at_lt K1.out
    clear hb C1 C2 CB
    have g0 := grown_cells K0.out
    have g1 := grown_cells K1.out
    have hfin : ∀ d os, Hid (Below w.heap.size w (Sort.grow (redrawn v8 d) os)) := fun d os => below_on hE (below_regrown v8 d os)
    clear hE
    go_wp2_with fail
    refine wp_region_quiet_below (by kernel_rfl) (by kernel_rfl) ?_
    repeat (first | go_big_quiet_skip | (go_big_quiet_want; go_big_quiet_op; first | go_big_quiet_on | go_big_quiet_call (first
      | exact Calls.regrown_of (refT_at hq _ w0)
      | exact Calls.regrown_of (isT_at hq _ w0)
      | exact Calls.regrown_of (same_at hr _)
      | exact Calls.regrown_of (thing_server _ _)
      | exact Calls.regrown_of (ref_server _ _)
      | exact Calls.regrown_of (thing_number _ _ _)
      | exact Calls.regrown_of (ref_numberT _ _ _))))
    refine wpQuiet_nil ?_
    intro _ hw'
    obtain ⟨⟨dq, osq⟩, hw''⟩ := hw'
    subst hw''
    go_wp2_with fail
    go_ret
    exact ⟨by simp, (hfin _ _).out⟩
  · obtain ⟨B, hB'⟩ : ∃ B, Hid (thB a0 = B) := ⟨_, rfl⟩
    have lB : B.length ≤ 168 := by rw [← hB'.out]; exact thB_len hq.out
    have CB := fun (w' : World) => thing_bytes (B := B) (e := 0) (by show bytesT a0 = _; rw [bytesT_yes hq.out, hB'.out]) w0 w'
    obtain ⟨D, hD⟩ : ∃ D, Hid (wholeD a0 = D) := ⟨_, rfl⟩
    have hDD : Hid (isD D = true) := by show isD D = true; rw [← hD.out, isT_whole]; exact hq.out
    have hfit : ∀ k, fitF (D.f k) := by rw [← hD.out]; exact whole_fit hq.out w0
    have hS : Hid (bytesK D 4 = B) := by show bytesK D 4 = B; rw [← hD.out]; exact hB'.out
    go_wp2_with fail
    refine (ref_full _ a0).mono ?_
    rintro x y1 ⟨rfl, hb⟩
    replace hE := below_on hE hb
    replace K0 := hid (var_on hb K0.out l0)
    replace K1 := hid (var_on hb K1.out l1)
    replace l0 := at_lt K0.out
    replace l1 := at_lt K1.out
    clear hb c0
    rw [hD.out]
    go_wp2_with fail
    refine (ref_bytes _ D hDD.out hfit).mono ?_
    rintro x y2 ⟨rfl, hb⟩
    rw [hS.out]
    replace hE := below_on hE hb
    replace K0 := hid (var_on hb K0.out l0)
    replace K1 := hid (var_on hb K1.out l1)
    replace l0 := at_lt K0.out
    replace l1 := at_lt K1.out
    clear hb
    have c0 := cells_at K0.out
    go_wp2_with fail
    refine (CB _).mono ?_
    rintro x v6 ⟨rfl, hb⟩
    replace hE := below_on hE hb
    replace K0 := hid (var_on hb K0.out l0)
    replace K1 := hid (var_on hb K1.out l1)
    replace l0 := at_lt K0.out
    replace l1 := at_lt K1.out
    clear hb c0
    go_wp2_with fail
    refine (C1 _ hE).mono ?_
    rintro x v7 ⟨rfl, hb⟩
    replace hE := below_on hE hb
    replace K0 := hid (var_on hb K0.out l0)
    replace K1 := hid (var_on hb K1.out l1)
    replace l0 := at_lt K0.out
    replace l1 := at_lt K1.out
    clear hb
    go_wp2_with fail
    refine (C2 _ hE).mono ?_
    rintro x v8 ⟨rfl, hb⟩
    replace hE := below_on hE hb
    replace K0 := hid (var_on hb K0.out l0)
    replace K1 := hid (var_on hb K1.out l1)
    replace l0 := at_lt K0.out
    replace l1 := at_lt K1.out
    clear hb C1 C2 CB
    have g0 := grown_cells K0.out
    have g1 := grown_cells K1.out
    have hfin : ∀ d os, Hid (Below w.heap.size w (Sort.grow (redrawn v8 d) os)) := fun d os => below_on hE (below_regrown v8 d os)
    clear hE
    go_wp2_with fail
    refine wp_region_quiet_below (by kernel_rfl) (by kernel_rfl) ?_
    repeat (first | go_big_quiet_skip | (go_big_quiet_want; go_big_quiet_op; first | go_big_quiet_on | go_big_quiet_call (first
      | exact Calls.regrown_of (refT_at hq _ w0)
      | exact Calls.regrown_of (isT_at hq _ w0)
      | exact Calls.regrown_of (same_at hr _)
      | exact Calls.regrown_of (thing_server _ _)
      | exact Calls.regrown_of (ref_server _ _)
      | exact Calls.regrown_of (thing_number _ _ _)
      | exact Calls.regrown_of (ref_numberT _ _ _))))
    refine wpQuiet_nil ?_
    intro _ hw'
    obtain ⟨⟨dq, osq⟩, hw''⟩ := hw'
    subst hw''
    go_wp2_with fail
    go_ret
    exact ⟨by simp, (hfin _ _).out⟩

theorem thingTells_own : ownKnob Try.prog.godebug = none := by kernel_rfl
theorem thingTells_laidOut : laidOutB Try.prog = true := by kernel_rfl
set_option maxRecDepth 100000 in
theorem thingTells_lifted (os : Os) (started : os.Started) (H : Type) (enc : TypeId × Value → H) :
    ReturnsInHanded {} Try.checked os 3 .any (Rows.thingTellsSpec.pre6 enc Try.prog Try.f3 Rows.thingTellsRow.domain false) (Rows.thingTellsSpec.post enc Try.prog Try.f3 false true false false) := by
  refine returnsInHanded_of_change (C := Try.checked) thingTells_own started (by kernel_rfl) Try.func3
    (ChangeSpec.witness6 (enc := enc) (C := Try.checked) false ⟨#[], #[.agg #[.int .i64 0, .int .i64 0, .int .i64 0, .int .i64 0, .string ByteArray.empty, .int .i64 0, .string ByteArray.empty, .int .i64 0, .string ByteArray.empty, .int .i64 0, .string ByteArray.empty], .agg #[.int .i64 0, .int .i64 0, .int .i64 0, .int .i64 0, .string ByteArray.empty, .int .i64 0, .string ByteArray.empty, .int .i64 0, .string ByteArray.empty, .int .i64 0, .string ByteArray.empty], .slice none 0 0, .int .i64 0, .int .i64 0], []⟩ 8 (by kernel_rfl) (by kernel_rfl) (by kernel_rfl) (by kernel_rfl)) ?_
  intro W base args ds gs before hval0 hW hcnd _
  have hval : ∀ (j : Nat) t v, Try.f3.params[j]? = some t → args[j]? = some v → Value.okWide Try.prog W .any base t v := hval0
  have hW' := hW
  obtain ⟨p, q, hA0, hV, rfl, hfz, hnd⟩ := hW
  have hA : DataW.TrodAll enc Try.prog W 0 (fun _ => true) true Try.f3.params.toList args.toList ds p := hA0
  rw [Try.params3] at hA hval
  obtain ⟨v0, vs0, d0, ds0, p0, q0, hargs, rfl, rfl, h0, r0⟩ := trodAll_cons hA
  obtain ⟨v1, vs1, d1, ds1, p1, q1, rfl, rfl, rfl, h1, r1⟩ := trodAll_cons r0
  obtain ⟨v2, vs2, d2, ds2, p2, q2, rfl, rfl, rfl, h2, r2⟩ := trodAll_cons r1
  obtain ⟨v3, vs3, d3, ds3, p3, q3, rfl, rfl, rfl, h3, r3⟩ := trodAll_cons r2
  obtain ⟨v4, vs4, d4, ds4, p4, q4, rfl, rfl, rfl, h4, r4⟩ := trodAll_cons r3
  obtain ⟨rfl, rfl, rfl⟩ := trodAll_nil r4
  obtain rfl : args = #[v0, v1, v2, v3, v4] := by cases args; simp_all
  obtain ⟨rfl, rfl⟩ := trodVars_none hV
  have k0 := h0
  have lt0 : ∀ x ∈ p0, x.block < W.heap.size := by obtain ⟨m, hm⟩ := k0; exact DataW.trod_lt m _ _ _ hm
  have k1 := h1
  have lt1 : ∀ x ∈ p1, x.block < W.heap.size := by obtain ⟨m, hm⟩ := k1; exact DataW.trod_lt m _ _ _ hm
  have k2 := h2
  have lt2 : ∀ x ∈ p2, x.block < W.heap.size := by obtain ⟨m, hm⟩ := k2; exact DataW.trod_lt m _ _ _ hm
  have k3 := h3
  have lt3 : ∀ x ∈ p3, x.block < W.heap.size := by obtain ⟨m, hm⟩ := k3; exact DataW.trod_lt m _ _ _ hm
  have k4 := h4
  have lt4 : ∀ x ∈ p4, x.block < W.heap.size := by obtain ⟨m, hm⟩ := k4; exact DataW.trod_lt m _ _ _ hm
  obtain ⟨a0, rfl, w0⟩ := open_th (hval 0 28 v0 rfl rfl) h0
  obtain ⟨a1, rfl, w1⟩ := open_th (hval 1 28 v1 rfl rfl) h1
  obtain ⟨a2, cap2, L2, rfl, i2, r2', c2, m2⟩ := open_ths (hval 2 29 v2 rfl rfl) h2
  obtain ⟨a3, rfl, rfl, rfl, w3⟩ := open_int Try.underlying3 (hval 3 3 v3 rfl rfl) h3
  obtain ⟨a4, rfl, rfl, rfl, w4⟩ := open_int Try.underlying3 (hval 4 3 v4 rfl rfl) h4
  clear hA0 hval0
  refine (thingTells_walk W a0 w0 a1 w1 a2 cap2 L2 i2 r2' c2 m2 a3 w3 a4 w4).mono fun e W' ⟨he, bel⟩ => ?_
  subst he
  exact ⟨_, rfl, _, _, _, [], _, [], hW', trodAll_mk1 (shut_bool Try.underlying4 _), (trodAll_cons_mk (Below.trod thingTells_laidOut (by kernel_rfl) (of_decide_eq_true (by kernel_rfl)) k0 bel lt0) (trodAll_cons_mk (Below.trod thingTells_laidOut (by kernel_rfl) (of_decide_eq_true (by kernel_rfl)) k1 bel lt1) (trodAll_cons_mk (Below.trod thingTells_laidOut (by kernel_rfl) (of_decide_eq_true (by kernel_rfl)) k2 bel lt2) (trodAll_cons_mk (Below.trod thingTells_laidOut (by kernel_rfl) (of_decide_eq_true (by kernel_rfl)) k3 bel lt3) (trodAll_cons_mk (Below.trod thingTells_laidOut (by kernel_rfl) (of_decide_eq_true (by kernel_rfl)) k4 bel lt4) trodAll_mk0))))), rfl, bel.frame _, fun h => by cases h⟩

theorem thingTells_over : Rows.thingTellsRow.holds Try.pinned (OpenSpec.ofChange Rows.thingTellsSpec) :=
  OpenClaim.holds_of_wide 3 Try.f3 rfl rfl rfl rfl rfl rfl rfl ⟨rfl, rfl, rfl, rfl, rfl⟩ rfl rfl rfl rfl rfl (by kernel_rfl) Try.func3 (by kernel_rfl)
    (of_decide_eq_true (by kernel_rfl)) (by unfold Func.isWrapper; first | (rw [if_pos (by decide +kernel)]; kernel_rfl) | (rw [if_neg (by decide +kernel)]; exact ⟨rfl, rfl⟩))
    (fun os started H enc _ => thingTells_lifted os started H enc)

theorem thingTells_holds : Rows.ThingTellsSaid := thingTells_over
#print axioms thingTells_holds
end Go.Proofs.Ytlbbdpkbglkmnaa
