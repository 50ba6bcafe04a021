/- GeomMinus holds: each point of one rectangle is in the other one, or in just one of what is left, and the function returns true. -/
import Derived.Test.YtkbfcmlchmgmnaaGeomR
import Derived.Test.YtkbfcmlchmgmnaaGeomT
import Derived.Test.YtkbfcmlchmgmnaaKnown3
import Derived.ProofKit
import Derived.OpenShut
import Derived.ShutString
import Derived.ChangeOld
import Derived.Below
import Derived.SizedLaws
namespace Go.Proofs.Ytkbfcmlchmgmnaa
open Go.ChangeShapes Go.WideShapes Go.ChangeAt Go.RowKit
open Go.ChangeMaps (open_string shut_string)
set_option linter.unusedVariables false

set_option maxHeartbeats 4000000 in
set_option maxRecDepth 100000 in
theorem geomMinus_walk (w : World) (a0 a1 a2 a3 b0 b1 b2 b3 x y : Int) : Calls Try.prog 4 #[rc a0 a1 a2 a3, rc b0 b1 b2 b3, pt x y] w fun e w' => e = .returned (.bool true) ∧ Below w.heap.size w w' := by
  obtain ⟨m0, m1, m2, m3, hm⟩ : ∃ m0 m1 m2 m3 : Int, Hid (meetR ⟨a0, a1, a2, a3⟩ ⟨b0, b1, b2, b3⟩ = ⟨m0, m1, m2, m3⟩) := ⟨_, _, _, _, rfl⟩
  obtain ⟨L, hL⟩ : ∃ L, Hid (minusL ⟨a0, a1, a2, a3⟩ ⟨b0, b1, b2, b3⟩ = L) := ⟨_, rfl⟩
  have hL4 : L.length ≤ 4 := by rw [← hL.out]; exact minus_le _ _
  obtain ⟨ia, ha⟩ : ∃ i, Hid (inB ⟨a0, a1, a2, a3⟩ x y = i) := ⟨_, rfl⟩
  obtain ⟨ib, hbb⟩ : ∃ i, Hid (inB ⟨b0, b1, b2, b3⟩ x y = i) := ⟨_, rfl⟩
  have hcnt : Hid (cntL L x y = if ia && !ib then 1 else 0) := by
    have := minus_count ⟨a0, a1, a2, a3⟩ ⟨b0, b1, b2, b3⟩ x y
    rw [hL.out, ha.out, hbb.out] at this
    exact this
  have him : Hid (inB ⟨m0, m1, m2, m3⟩ x y = (ia && ib)) := by
    have := in_meet ⟨a0, a1, a2, a3⟩ ⟨b0, b1, b2, b3⟩ x y
    rw [hm.out, ha.out, hbb.out] at this
    exact this
  go_enter Try.func4, Try.ntmps4
  go_wp2_with fail
  have hB0 : Below w.heap.size w (((w.alloc (ro a0 a1 a2 a3)).alloc (ro b0 b1 b2 b3)).alloc (.cells #[.int .i64 x, .int .i64 y] 25)) := ((below1 _ _).alloc (by simp) _).alloc (by simp; omega) _
  have ca := cells4 (old_at (old_at (new_at w (ro a0 a1 a2 a3) _ rfl) (ro b0 b1 b2 b3)) (.cells #[.int .i64 x, .int .i64 y] 25))
  have cb := cells4 (old_at (new_at (w.alloc (ro a0 a1 a2 a3)) (ro b0 b1 b2 b3) (w.heap.size + 1) (by simp)) (.cells #[.int .i64 x, .int .i64 y] 25))
  have cp := cells2 (new_at ((w.alloc (ro a0 a1 a2 a3)).alloc (ro b0 b1 b2 b3)) (.cells #[.int .i64 x, .int .i64 y] 25) (w.heap.size + 1 + 1) (by simp))
  obtain ⟨W0, hW0⟩ : ∃ W0, ((w.alloc (ro a0 a1 a2 a3)).alloc (ro b0 b1 b2 b3)).alloc (.cells #[.int .i64 x, .int .i64 y] 25) = W0 := ⟨_, rfl⟩
  unfold ro at hW0 hB0 ca cb cp
  rw [hW0] at hB0 ca cb cp ⊢
  clear hW0
  have HB0 : Hid (Below w.heap.size w W0) := hB0
  have CA : Hid (∀ W, _) := ca
  have CB : Hid (∀ W, _) := cb
  have CP : Hid (∀ W, _) := cp
  clear ca cb cp hB0
  go_at_call 8
  refine (known_true _).mono ?_
  rintro z w1 ⟨rfl, hE⟩
  have fa := CA.out _ hE
  go_wp2_with fail
  go_at_call 9
  refine (few_any _ _ _ _ _).mono ?_
  rintro z w2 ⟨f1, rfl, hb⟩
  replace hE := below_on hE hb
  clear hb fa
  cases f1
  · go_wp2
    go_ret
    exact ⟨rfl, below_on HB0.out hE⟩
  have fb := CB.out _ hE
  go_wp2_with fail
  go_at_call 9
  refine (few_any _ _ _ _ _).mono ?_
  rintro z w3 ⟨f2, rfl, hb⟩
  replace hE := below_on hE hb
  clear hb fb
  cases f2
  · go_wp2
    go_ret
    exact ⟨rfl, below_on HB0.out hE⟩
  have fa := CA.out _ hE
  have fb := CB.out _ hE
  go_wp2_with fail
  go_at_call 10
  refine (geom_minus _ _ _ _ _ _ _ _ _).mono ?_
  rintro z w4 ⟨v, rfl, ho, hb⟩
  rw [hL.out] at ho
  obtain ⟨p1, c1, rfl⟩ := owns_slice ho
  replace hE := below_on hE hb
  clear hb fa fb
  go_wp2_with fail
  go_loopw [8, 9] (fun n i wr => ∃ k : Nat, k ≤ L.length ∧ i = .int .i64 k ∧ n = .int .i64 (cntL (L.take k) x y : Nat) ∧ Below w4.heap.size w4 wr) (fun _ i _ => L.length - (intOf i).toNat)
  case atStart => exact ⟨0, by omega, rfl, by simp [cntL], Below.refl _ _⟩
  case round =>
    obtain ⟨k, hk, rfl, rfl, hb⟩ := hrel
    have hck := cnt_le L k x y
    obtain ⟨c, hc⟩ : ∃ c, Hid (cntL (L.take k) x y = c) := ⟨_, rfl⟩
    rw [hc.out] at hck ⊢
    by_cases hlt : k < L.length
    · have hlt' : (k : Int) < (L.length : Int) := by omega
      have hlt0 : (0 : Int) ≤ (k : Int) := by omega
      obtain ⟨q0, q1, q2, q3, hp⟩ := get_rc L k hlt
      have Hp : Hid (L[k]? = some ⟨q0, q1, q2, q3⟩) := hp
      have hF : Hid (emptyB ⟨q0, q1, q2, q3⟩ = false) := minus_full (hL.out ▸ hp)
      clear hp
      obtain ⟨g1, rfl⟩ := owns_some ho (by omega)
      have r1 := row_at (owns_on ho hb) Hp.out rfl
      go_wp2_with fail
      go_at_call 16
      refine (geom_empty _ _ _ _ _).mono ?_
      rintro z w5 ⟨rfl, hb5⟩
      rw [hF.out]
      replace hb := below_on hb hb5
      clear r1 hb5
      have fr := fun d os => row_at (owns_on ho (below_on hb (below_regrown w5 d os))) Hp.out rfl
      have fp := fun d os => CP.out _ (below_on hE (below_on hb (below_regrown w5 d os)))
      have hfin : ∀ d os, Hid (Below w4.heap.size w4 (Sort.grow (redrawn w5 d) os)) := fun d os => below_on hb (below_regrown w5 d os)
      obtain ⟨i, hi⟩ : ∃ i, Hid (inB ⟨q0, q1, q2, q3⟩ x y = i) := ⟨_, rfl⟩
      clear ho hb
      go_wp2_with fail
      refine wp_region_quiet_below (by kernel_rfl) (by kernel_rfl) ?_
      repeat (first | go_big_quiet_skip | (go_big_quiet_want; go_big_quiet_op; first | go_big_quiet_on | go_big_quiet_call (first
        | exact Calls.regrown_of (calls_val (geom_in _ _ _ _ _ _ _) (by rw [hi.out])))))
      refine wpQuiet_nil ?_
      intro _ hw'
      obtain ⟨⟨dq, osq⟩, hw''⟩ := hw'
      subst hw''
      have hn := cnt_take Hp.out x y
      rw [hc.out, hi.out] at hn
      cases i
      · go_wp2
        go_roundw
        case rel => exact ⟨k + 1, by omega, by go_num, by rw [hn]; simp, (hfin _ _).out⟩
        case measure => simp [intOf]; omega
      · go_wp2
        go_roundw
        case rel => exact ⟨k + 1, by omega, by go_num, by rw [hn]; go_num, (hfin _ _).out⟩
        case measure => simp [intOf]; omega
    · have hk' : k = L.length := by omega
      subst hk'
      have hcc : Hid (c = if ia && !ib then 1 else 0) := by rw [← hc.out, ← hcnt.out]; exact congrArg (fun l => cntL l x y) (List.take_length (l := L))
      replace hE := below_on hE hb
      clear hck hc ho hb
      have fa := CA.out _ hE
      have fp := CP.out _ hE
      go_wp2_with fail
      go_at_call 18
      refine (geom_in _ _ _ _ _ _ _).mono ?_
      rintro z w5 ⟨rfl, hb5⟩
      rw [ha.out]
      replace hE := below_on hE hb5
      clear hb5 fa fp
      have fb := CB.out _ hE
      have fp := CP.out _ hE
      cases ia
      · obtain rfl : c = 0 := by simpa using hcc.out
        replace him : Hid (inB ⟨m0, m1, m2, m3⟩ x y = false) := by have h := him.out; simp at h; exact h
        clear fb fp hcc hcnt
        have hL4' : (L.length : Int) ≤ 4 := by omega
        have fa := fun d os => CA.out _ (below_on hE (below_regrown w5 d os))
        have fb := fun d os => CB.out _ (below_on hE (below_regrown w5 d os))
        have fp := fun d os => CP.out _ (below_on hE (below_regrown w5 d os))
        have hfin : ∀ d os, Hid (Below w.heap.size w (Sort.grow (redrawn w5 d) os)) := fun d os => below_on HB0.out (below_on hE (below_regrown w5 d os))
        clear hE
        go_wp2_with fail
        refine wp_region_quiet_below (by kernel_rfl) (by kernel_rfl) ?_
        repeat (first | go_big_quiet_skip | (go_big_quiet_want; go_big_quiet_op; first | go_big_quiet_on | go_big_quiet_call (first
          | exact Calls.regrown_of (calls_val (geom_in _ _ _ _ _ _ _) (by first | rw [him.out] | rw [ha.out] | rw [hbb.out]))
          | exact Calls.regrown_of (geom_meet_at hm _))))
        refine wpQuiet_nil ?_
        intro _ hw'
        obtain ⟨⟨dq, osq⟩, hw''⟩ := hw'
        subst hw''
        go_wp2
        go_ret
        exact ⟨rfl, (hfin _ _).out⟩

      · go_wp2_with fail
        go_at_call 18
        refine (geom_in _ _ _ _ _ _ _).mono ?_
        rintro z w6 ⟨rfl, hb6⟩
        rw [hbb.out]
        replace hE := below_on hE hb6
        clear hb6 fb fp
        cases ib
        · obtain rfl : c = 1 := by simpa using hcc.out
          replace him : Hid (inB ⟨m0, m1, m2, m3⟩ x y = false) := by have h := him.out; simp at h; exact h
          clear hcc hcnt
          have hL4' : (L.length : Int) ≤ 4 := by omega
          have fa := fun d os => CA.out _ (below_on hE (below_regrown w6 d os))
          have fb := fun d os => CB.out _ (below_on hE (below_regrown w6 d os))
          have fp := fun d os => CP.out _ (below_on hE (below_regrown w6 d os))
          have hfin : ∀ d os, Hid (Below w.heap.size w (Sort.grow (redrawn w6 d) os)) := fun d os => below_on HB0.out (below_on hE (below_regrown w6 d os))
          clear hE
          go_wp2_with fail
          refine wp_region_quiet_below (by kernel_rfl) (by kernel_rfl) ?_
          repeat (first | go_big_quiet_skip | (go_big_quiet_want; go_big_quiet_op; first | go_big_quiet_on | go_big_quiet_call (first
            | exact Calls.regrown_of (calls_val (geom_in _ _ _ _ _ _ _) (by first | rw [him.out] | rw [ha.out] | rw [hbb.out]))
            | exact Calls.regrown_of (geom_meet_at hm _))))
          refine wpQuiet_nil ?_
          intro _ hw'
          obtain ⟨⟨dq, osq⟩, hw''⟩ := hw'
          subst hw''
          go_wp2
          go_ret
          exact ⟨rfl, (hfin _ _).out⟩

        · obtain rfl : c = 0 := by simpa using hcc.out
          replace him : Hid (inB ⟨m0, m1, m2, m3⟩ x y = true) := by have h := him.out; simp at h; exact h
          clear hcc hcnt
          have hL4' : (L.length : Int) ≤ 4 := by omega
          have fa := fun d os => CA.out _ (below_on hE (below_regrown w6 d os))
          have fb := fun d os => CB.out _ (below_on hE (below_regrown w6 d os))
          have fp := fun d os => CP.out _ (below_on hE (below_regrown w6 d os))
          have hfin : ∀ d os, Hid (Below w.heap.size w (Sort.grow (redrawn w6 d) os)) := fun d os => below_on HB0.out (below_on hE (below_regrown w6 d os))
          clear hE
          go_wp2_with fail
          refine wp_region_quiet_below (by kernel_rfl) (by kernel_rfl) ?_
          repeat (first | go_big_quiet_skip | (go_big_quiet_want; go_big_quiet_op; first | go_big_quiet_on | go_big_quiet_call (first
            | exact Calls.regrown_of (calls_val (geom_in _ _ _ _ _ _ _) (by first | rw [him.out] | rw [ha.out] | rw [hbb.out]))
            | exact Calls.regrown_of (geom_meet_at hm _))))
          refine wpQuiet_nil ?_
          intro _ hw'
          obtain ⟨⟨dq, osq⟩, hw''⟩ := hw'
          subst hw''
          go_wp2
          go_ret
          exact ⟨rfl, (hfin _ _).out⟩

theorem geomMinus_own : ownKnob Try.prog.godebug = none := by kernel_rfl
theorem geomMinus_laidOut : laidOutB Try.prog = true := by kernel_rfl
set_option maxRecDepth 100000 in
theorem geomMinus_lifted (os : Os) (started : os.Started) (H : Type) (enc : TypeId × Value → H) :
    ReturnsInHanded {} Try.checked os 4 .any (Rows.geomMinusSpec.pre6 enc Try.prog Try.f4 Rows.geomMinusRow.domain false) (Rows.geomMinusSpec.post enc Try.prog Try.f4 false true false false) := by
  refine returnsInHanded_of_change (C := Try.checked) geomMinus_own started (by kernel_rfl) Try.func4
    (ChangeSpec.witness6 (enc := enc) (C := Try.checked) false ⟨#[], #[.agg #[.int .i64 0, .int .i64 0, .int .i64 0, .int .i64 0], .agg #[.int .i64 0, .int .i64 0, .int .i64 0, .int .i64 0], .agg #[.int .i64 0, .int .i64 0]], []⟩ 8 (by kernel_rfl) (by kernel_rfl) (by kernel_rfl) (by kernel_rfl)) ?_
  intro W base args ds gs before hval0 hW hcnd _
  have hval : ∀ (j : Nat) t v, Try.f4.params[j]? = some t → args[j]? = some v → Value.okWide Try.prog W .any base t v := hval0
  have hW' := hW
  obtain ⟨p, q, hA0, hV, rfl, hfz, hnd⟩ := hW
  have hA : DataW.TrodAll enc Try.prog W 0 (fun _ => true) true Try.f4.params.toList args.toList ds p := hA0
  rw [Try.params4] at hA hval
  obtain ⟨v0, vs0, d0, ds0, p0, q0, hargs, rfl, rfl, h0, r0⟩ := trodAll_cons hA
  obtain ⟨v1, vs1, d1, ds1, p1, q1, rfl, rfl, rfl, h1, r1⟩ := trodAll_cons r0
  obtain ⟨v2, vs2, d2, ds2, p2, q2, rfl, rfl, rfl, h2, r2⟩ := trodAll_cons r1
  obtain ⟨rfl, rfl, rfl⟩ := trodAll_nil r2
  obtain rfl : args = #[v0, v1, v2] := by cases args; simp_all
  obtain ⟨rfl, rfl⟩ := trodVars_none hV
  have k0 := h0
  have lt0 : ∀ x ∈ p0, x.block < W.heap.size := by obtain ⟨m, hm⟩ := k0; exact DataW.trod_lt m _ _ _ hm
  have k1 := h1
  have lt1 : ∀ x ∈ p1, x.block < W.heap.size := by obtain ⟨m, hm⟩ := k1; exact DataW.trod_lt m _ _ _ hm
  have k2 := h2
  have lt2 : ∀ x ∈ p2, x.block < W.heap.size := by obtain ⟨m, hm⟩ := k2; exact DataW.trod_lt m _ _ _ hm
  obtain ⟨c00, c01, c02, c03, y00, y01, y02, y03, n0, rfl, rfl, rfl, t00, t01, t02, t03⟩ := Go.Joins.open_agg4 Try.underlying23 (by kernel_rfl) (by kernel_rfl) (hval 0 23 v0 rfl rfl) h0
  obtain ⟨a00, e00, -, w00⟩ := DataW.trod_int Try.underlying3 t00
  obtain rfl : c00 = .int .i64 a00 := by simpa using e00
  obtain ⟨a01, e01, -, w01⟩ := DataW.trod_int Try.underlying3 t01
  obtain rfl : c01 = .int .i64 a01 := by simpa using e01
  obtain ⟨a02, e02, -, w02⟩ := DataW.trod_int Try.underlying3 t02
  obtain rfl : c02 = .int .i64 a02 := by simpa using e02
  obtain ⟨a03, e03, -, w03⟩ := DataW.trod_int Try.underlying3 t03
  obtain rfl : c03 = .int .i64 a03 := by simpa using e03
  obtain ⟨c10, c11, c12, c13, y10, y11, y12, y13, n1, rfl, rfl, rfl, t10, t11, t12, t13⟩ := Go.Joins.open_agg4 Try.underlying23 (by kernel_rfl) (by kernel_rfl) (hval 1 23 v1 rfl rfl) h1
  obtain ⟨a10, e10, -, w10⟩ := DataW.trod_int Try.underlying3 t10
  obtain rfl : c10 = .int .i64 a10 := by simpa using e10
  obtain ⟨a11, e11, -, w11⟩ := DataW.trod_int Try.underlying3 t11
  obtain rfl : c11 = .int .i64 a11 := by simpa using e11
  obtain ⟨a12, e12, -, w12⟩ := DataW.trod_int Try.underlying3 t12
  obtain rfl : c12 = .int .i64 a12 := by simpa using e12
  obtain ⟨a13, e13, -, w13⟩ := DataW.trod_int Try.underlying3 t13
  obtain rfl : c13 = .int .i64 a13 := by simpa using e13
  obtain ⟨c20, c21, y20, y21, n2, rfl, rfl, rfl, t20, t21⟩ := Go.Joins.open_agg2 Try.underlying25 (by kernel_rfl) (by kernel_rfl) (hval 2 25 v2 rfl rfl) h2
  obtain ⟨a20, e20, -, w20⟩ := DataW.trod_int Try.underlying3 t20
  obtain rfl : c20 = .int .i64 a20 := by simpa using e20
  obtain ⟨a21, e21, -, w21⟩ := DataW.trod_int Try.underlying3 t21
  obtain rfl : c21 = .int .i64 a21 := by simpa using e21
  clear hA0 hval0
  refine (geomMinus_walk W a00 a01 a02 a03 a10 a11 a12 a13 a20 a21).mono fun e W' ⟨he, bel⟩ => ?_
  subst he
  exact ⟨_, rfl, _, _, _, [], _, [], hW', trodAll_mk1 (shut_bool Try.underlying4 _), (trodAll_cons_mk (Below.trod geomMinus_laidOut (by kernel_rfl) (of_decide_eq_true (by kernel_rfl)) k0 bel lt0) (trodAll_cons_mk (Below.trod geomMinus_laidOut (by kernel_rfl) (of_decide_eq_true (by kernel_rfl)) k1 bel lt1) (trodAll_cons_mk (Below.trod geomMinus_laidOut (by kernel_rfl) (of_decide_eq_true (by kernel_rfl)) k2 bel lt2) trodAll_mk0))), rfl, bel.frame _, fun h => by cases h⟩

theorem geomMinus_over : Rows.geomMinusRow.holds Try.pinned (OpenSpec.ofChange Rows.geomMinusSpec) :=
  OpenClaim.holds_of_wide 4 Try.f4 rfl rfl rfl rfl rfl rfl rfl ⟨rfl, rfl, rfl, rfl, rfl⟩ rfl rfl rfl rfl rfl (by kernel_rfl) Try.func4 (by kernel_rfl)
    (of_decide_eq_true (by kernel_rfl)) (by unfold Func.isWrapper; first | (rw [if_pos (by decide +kernel)]; kernel_rfl) | (rw [if_neg (by decide +kernel)]; exact ⟨rfl, rfl⟩))
    (fun os started H enc _ => geomMinus_lifted os started H enc)

theorem geomMinus_holds : Rows.GeomMinusSaid := geomMinus_over
#print axioms geomMinus_holds
end Go.Proofs.Ytkbfcmlchmgmnaa
