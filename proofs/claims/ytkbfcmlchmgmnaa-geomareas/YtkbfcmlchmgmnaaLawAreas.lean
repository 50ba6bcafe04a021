/- GeomAreas holds: the areas of what both have and of what is left are the area, and the function returns true. -/
import Derived.Test.YtkbfcmlchmgmnaaGeomR
import Derived.Test.YtkbfcmlchmgmnaaGeomT
import Derived.Test.YtkbfcmlchmgmnaaKnown3
import Derived.ProofKit
import Derived.OpenShut
import Derived.ShutString
import Derived.ChangeOld
import Derived.Below
import Derived.SizedLaws
namespace Go.Proofs.Ytkbfcmlchmgmnaa
open Go.ChangeShapes Go.WideShapes Go.ChangeAt Go.RowKit
open Go.ChangeMaps (open_string shut_string)
set_option linter.unusedVariables false

set_option maxHeartbeats 4000000 in
set_option maxRecDepth 100000 in
theorem geomAreas_walk (w : World) (a0 a1 a2 a3 b0 b1 b2 b3 : Int) : Calls Try.prog 5 #[rc a0 a1 a2 a3, rc b0 b1 b2 b3] w fun e w' => e = .returned (.bool true) ∧ Below w.heap.size w w' := by
  obtain ⟨m0, m1, m2, m3, hm⟩ : ∃ m0 m1 m2 m3 : Int, Hid (meetR ⟨a0, a1, a2, a3⟩ ⟨b0, b1, b2, b3⟩ = ⟨m0, m1, m2, m3⟩) := ⟨_, _, _, _, rfl⟩
  obtain ⟨L, hL⟩ : ∃ L, Hid (minusL ⟨a0, a1, a2, a3⟩ ⟨b0, b1, b2, b3⟩ = L) := ⟨_, rfl⟩
  have hL4 : L.length ≤ 4 := by rw [← hL.out]; exact minus_le _ _
  obtain ⟨A, hA⟩ : ∃ A, Hid (areaI ⟨a0, a1, a2, a3⟩ = A) := ⟨_, rfl⟩
  obtain ⟨M, hM⟩ : ∃ M, Hid (areaI ⟨m0, m1, m2, m3⟩ = M) := ⟨_, rfl⟩
  have hAb : 0 ≤ A ∧ A ≤ 4096 := by rw [← hA.out]; exact area_bounds _
  have hMb : 0 ≤ M ∧ M ≤ 4096 := by rw [← hM.out]; exact area_bounds _
  have hsum : Hid (M + sumA L = A) := by
    have := area_minus ⟨a0, a1, a2, a3⟩ ⟨b0, b1, b2, b3⟩
    rw [hL.out, hm.out, hM.out, hA.out] at this
    exact this
  go_enter Try.func5, Try.ntmps5
  go_wp2_with fail
  have hB0 : Below w.heap.size w ((w.alloc (ro a0 a1 a2 a3)).alloc (ro b0 b1 b2 b3)) := (below1 _ _).alloc (by simp) _
  have ca := cells4 (old_at (new_at w (ro a0 a1 a2 a3) _ rfl) (ro b0 b1 b2 b3))
  have cb := cells4 (new_at (w.alloc (ro a0 a1 a2 a3)) (ro b0 b1 b2 b3) (w.heap.size + 1) (by simp))
  obtain ⟨W0, hW0⟩ : ∃ W0, (w.alloc (ro a0 a1 a2 a3)).alloc (ro b0 b1 b2 b3) = W0 := ⟨_, rfl⟩
  unfold ro at hW0 hB0 ca cb
  rw [hW0] at hB0 ca cb ⊢
  clear hW0
  have HB0 : Hid (Below w.heap.size w W0) := hB0
  have CA : Hid (∀ W, _) := ca
  have CB : Hid (∀ W, _) := cb
  clear ca cb hB0
  go_at_call 8
  refine (known_true _).mono ?_
  rintro z w1 ⟨rfl, hE⟩
  have fa := CA.out _ hE
  go_wp2_with fail
  go_at_call 9
  refine (few_any _ _ _ _ _).mono ?_
  rintro z w2 ⟨f1, rfl, hb⟩
  replace hE := below_on hE hb
  clear hb fa
  cases f1
  · go_wp2
    go_ret
    exact ⟨rfl, below_on HB0.out hE⟩
  have fb := CB.out _ hE
  go_wp2_with fail
  go_at_call 9
  refine (few_any _ _ _ _ _).mono ?_
  rintro z w3 ⟨f2, rfl, hb⟩
  replace hE := below_on hE hb
  clear hb fb
  cases f2
  · go_wp2
    go_ret
    exact ⟨rfl, below_on HB0.out hE⟩
  have fa := CA.out _ hE
  have fb := CB.out _ hE
  go_wp2_with fail
  go_at_call 20
  refine (geom_meet_at hm _).mono ?_
  rintro z w4 ⟨rfl, hb⟩
  replace hE := below_on hE hb
  clear hb fa fb
  go_wp2_with fail
  go_at_call 22
  refine (geom_area _ _ _ _ _).mono ?_
  rintro z w5 ⟨rfl, hb⟩
  rw [hM.out]
  replace hE := below_on hE hb
  clear hb
  have fa := CA.out _ hE
  have fb := CB.out _ hE
  go_wp2_with fail
  go_at_call 10
  refine (geom_minus _ _ _ _ _ _ _ _ _).mono ?_
  rintro z w6 ⟨v, rfl, ho, hb⟩
  rw [hL.out] at ho
  obtain ⟨p1, c1, rfl⟩ := owns_slice ho
  replace hE := below_on hE hb
  clear hb fa fb
  go_wp2_with fail
  go_loopw [5, 7] (fun n i wr => ∃ (k : Nat) (s : Int), k ≤ L.length ∧ i = .int .i64 k ∧ n = .int .i64 s ∧ Hid (s = M + sumA (L.take k)) ∧ Below w6.heap.size w6 wr) (fun _ i _ => L.length - (intOf i).toNat)
  case atStart => exact ⟨0, M, by omega, rfl, rfl, by show M = _; simp [sumA], Below.refl _ _⟩
  case round =>
    obtain ⟨k, s, hk, rfl, rfl, hs, hb⟩ := hrel
    by_cases hlt : k < L.length
    · have hlt' : (k : Int) < (L.length : Int) := by omega
      have hlt0 : (0 : Int) ≤ (k : Int) := by omega
      obtain ⟨q0, q1, q2, q3, hp⟩ := get_rc L k hlt
      have Hp : Hid (L[k]? = some ⟨q0, q1, q2, q3⟩) := hp
      have hpart := minus_part (a := ⟨a0, a1, a2, a3⟩) (b := ⟨b0, b1, b2, b3⟩) (r := ⟨q0, q1, q2, q3⟩) (by rw [hL.out]; exact List.mem_of_getElem? hp)
      obtain ⟨e0, e1, e2, e3, he⟩ : ∃ m0 m1 m2 m3 : Int, Hid (meetR ⟨q0, q1, q2, q3⟩ ⟨b0, b1, b2, b3⟩ = ⟨m0, m1, m2, m3⟩) := ⟨_, _, _, _, rfl⟩
      obtain ⟨t0, t1, t2, t3, ht⟩ : ∃ m0 m1 m2 m3 : Int, Hid (meetR ⟨q0, q1, q2, q3⟩ ⟨a0, a1, a2, a3⟩ = ⟨m0, m1, m2, m3⟩) := ⟨_, _, _, _, rfl⟩
      rw [he.out, ht.out] at hpart
      have hEm : Hid (emptyB ⟨e0, e1, e2, e3⟩ = true) := hpart.1
      have hSa : Hid (sameB ⟨t0, t1, t2, t3⟩ ⟨q0, q1, q2, q3⟩ = true) := hpart.2
      clear hp hpart
      obtain ⟨B, hB⟩ : ∃ B, Hid (areaI ⟨q0, q1, q2, q3⟩ = B) := ⟨_, rfl⟩
      have hsB : Hid (s + B = M + sumA (L.take (k + 1))) := by
        have h := sumA_take Hp.out
        rw [hB.out] at h
        have h2 := hs.out
        show s + B = _
        omega
      have hbnd := sumA_bounds (L.take (k + 1))
      have hlen : (L.take (k + 1)).length ≤ 4 := by simp; omega
      have hsb0 : 0 ≤ s + B := by have := hsB.out; omega
      have hsb1 : s + B ≤ 100000 := by have := hsB.out; omega
      clear hbnd hlen
      obtain ⟨g1, rfl⟩ := owns_some ho (by omega)
      have r1 := row_at (owns_on ho hb) Hp.out rfl
      go_wp2_with fail
      go_at_call 22
      refine (geom_area _ _ _ _ _).mono ?_
      rintro z w7 ⟨rfl, hb7⟩
      rw [hB.out]
      replace hb := below_on hb hb7
      clear r1 hb7
      have fr := fun d os => row_at (owns_on ho (below_on hb (below_regrown w7 d os))) Hp.out rfl
      have fa := fun d os => CA.out _ (below_on hE (below_on hb (below_regrown w7 d os)))
      have fb := fun d os => CB.out _ (below_on hE (below_on hb (below_regrown w7 d os)))
      have hfin : ∀ d os, Hid (Below w6.heap.size w6 (Sort.grow (redrawn w7 d) os)) := fun d os => below_on hb (below_regrown w7 d os)
      have Ho : Hid (w6.ownsRow _ _ _ _ _ _) := ho
      clear ho hb
      go_wp2_with fail
      refine wp_region_quiet_below (by kernel_rfl) (by kernel_rfl) ?_
      repeat (first | go_big_quiet_skip | (go_big_quiet_want; go_big_quiet_op; first | go_big_quiet_on | go_big_quiet_call (first
        | exact Calls.regrown_of (calls_val (geom_meet _ _ _ _ _ _ _ _ _) (by first | rw [he.out] | rw [ht.out]))
        | exact Calls.regrown_of (calls_val (geom_empty _ _ _ _ _) (by rw [hEm.out]))
        | exact Calls.regrown_of (calls_val (geom_same _ _ _ _ _ _ _ _ _) (by rw [hSa.out])))))
      refine wpQuiet_nil ?_
      intro _ hw'
      obtain ⟨⟨dq, osq⟩, hw''⟩ := hw'
      subst hw''
      have hb8 := hfin dq osq
      obtain ⟨W8, hW8⟩ : ∃ W8, Sort.grow (redrawn w7 dq) osq = W8 := ⟨_, rfl⟩
      rw [hW8] at hb8 ⊢
      clear hW8 fr fa fb hfin
      go_wp2_with fail
      go_loopw [8] (fun j wq => ∃ i : Nat, i ≤ k ∧ j = .int .i64 i ∧ Below w6.heap.size w6 wq) (fun j _ => k - (intOf j).toNat)
      case atStart => exact ⟨0, by omega, rfl, hb8.out⟩
      case round =>
        obtain ⟨i, hi, rfl, hbq⟩ := hrel
        by_cases hlt2 : i < k
        · have hlt2' : (i : Int) < (k : Int) := by omega
          have hlt20 : (0 : Int) ≤ (i : Int) := by omega
          have hlt21 : (i : Int) < (L.length : Int) := by omega
          obtain ⟨u0, u1, u2, u3, hu⟩ := get_rc L i (by omega)
          have Hu : Hid (L[i]? = some ⟨u0, u1, u2, u3⟩) := hu
          obtain ⟨d0, d1, d2, d3, hd⟩ : ∃ m0 m1 m2 m3 : Int, Hid (meetR ⟨q0, q1, q2, q3⟩ ⟨u0, u1, u2, u3⟩ = ⟨m0, m1, m2, m3⟩) := ⟨_, _, _, _, rfl⟩
          have hEd : Hid (emptyB ⟨d0, d1, d2, d3⟩ = true) := by
            have h := List.pairwise_iff_getElem.1 (hL.out ▸ minus_apart ⟨a0, a1, a2, a3⟩ ⟨b0, b1, b2, b3⟩) i k (by omega) hlt hlt2
            rw [(List.getElem?_eq_some_iff.1 hu).2, (List.getElem?_eq_some_iff.1 Hp.out).2, hd.out] at h
            exact h
          clear hu
          have fr := fun d os => row_at (owns_on Ho.out (below_on hbq (below_regrown wr d os))) Hp.out rfl
          have fu := fun d os => row_at (owns_on Ho.out (below_on hbq (below_regrown wr d os))) Hu.out rfl
          have hfin : ∀ d os, Hid (Below w6.heap.size w6 (Sort.grow (redrawn wr d) os)) := fun d os => below_on hbq (below_regrown wr d os)
          clear hbq
          go_wp2_with fail
          refine wp_region_quiet_below (by kernel_rfl) (by kernel_rfl) ?_
          repeat (first | go_big_quiet_skip | (go_big_quiet_want; go_big_quiet_op; first | go_big_quiet_on | go_big_quiet_call (first
            | exact Calls.regrown_of (calls_val (geom_meet _ _ _ _ _ _ _ _ _) (by rw [hd.out]))
            | exact Calls.regrown_of (calls_val (geom_empty _ _ _ _ _) (by rw [hEd.out])))))
          refine wpQuiet_nil ?_
          intro _ hw'
          obtain ⟨⟨dq, osq⟩, hw''⟩ := hw'
          subst hw''
          go_wp2
          go_roundw
          case rel => exact ⟨i + 1, by omega, by go_num, (hfin _ _).out⟩
          case measure => simp [intOf]; omega
        · have hik : i = k := by omega
          subst hik
          go_wp2
          go_roundw
          case rel => exact ⟨i + 1, _, by omega, by go_num, rfl, hsB.out, hbq⟩
          case measure => simp [intOf]; omega
    · have hk' : k = L.length := by omega
      subst hk'
      have hsA : s = A := by rw [hs.out, ← hsum.out, List.take_length]
      subst hsA
      replace hE := below_on hE hb
      clear ho hb hs
      have fa := CA.out _ hE
      go_wp2_with fail
      go_at_call 22
      refine (geom_area _ _ _ _ _).mono ?_
      rintro z w7 ⟨rfl, hb7⟩
      rw [hA.out]
      replace hE := below_on hE hb7
      clear hb7
      replace fa := CA.out _ hE
      go_wp2_with fail
      go_at_call 22
      refine (geom_area _ _ _ _ _).mono ?_
      rintro z w8 ⟨rfl, hb7⟩
      rw [hA.out]
      replace hE := below_on hE hb7
      clear hb7
      replace fa := CA.out _ hE
      have hA0 := hAb.1
      have hA1 := hAb.2
      go_wp2_with fail
      go_at_call 22
      refine (geom_area _ _ _ _ _).mono ?_
      rintro z w9 ⟨rfl, hb7⟩
      rw [hA.out]
      replace hE := below_on hE hb7
      clear hb7
      go_wp2
      go_ret
      exact ⟨by simp, below_on HB0.out hE⟩

theorem geomAreas_own : ownKnob Try.prog.godebug = none := by kernel_rfl
theorem geomAreas_laidOut : laidOutB Try.prog = true := by kernel_rfl
set_option maxRecDepth 100000 in
theorem geomAreas_lifted (os : Os) (started : os.Started) (H : Type) (enc : TypeId × Value → H) :
    ReturnsInHanded {} Try.checked os 5 .any (Rows.geomAreasSpec.pre6 enc Try.prog Try.f5 Rows.geomAreasRow.domain false) (Rows.geomAreasSpec.post enc Try.prog Try.f5 false true false false) := by
  refine returnsInHanded_of_change (C := Try.checked) geomAreas_own started (by kernel_rfl) Try.func5
    (ChangeSpec.witness6 (enc := enc) (C := Try.checked) false ⟨#[], #[.agg #[.int .i64 0, .int .i64 0, .int .i64 0, .int .i64 0], .agg #[.int .i64 0, .int .i64 0, .int .i64 0, .int .i64 0]], []⟩ 8 (by kernel_rfl) (by kernel_rfl) (by kernel_rfl) (by kernel_rfl)) ?_
  intro W base args ds gs before hval0 hW hcnd _
  have hval : ∀ (j : Nat) t v, Try.f5.params[j]? = some t → args[j]? = some v → Value.okWide Try.prog W .any base t v := hval0
  have hW' := hW
  obtain ⟨p, q, hA0, hV, rfl, hfz, hnd⟩ := hW
  have hA : DataW.TrodAll enc Try.prog W 0 (fun _ => true) true Try.f5.params.toList args.toList ds p := hA0
  rw [Try.params5] at hA hval
  obtain ⟨v0, vs0, d0, ds0, p0, q0, hargs, rfl, rfl, h0, r0⟩ := trodAll_cons hA
  obtain ⟨v1, vs1, d1, ds1, p1, q1, rfl, rfl, rfl, h1, r1⟩ := trodAll_cons r0
  obtain ⟨rfl, rfl, rfl⟩ := trodAll_nil r1
  obtain rfl : args = #[v0, v1] := by cases args; simp_all
  obtain ⟨rfl, rfl⟩ := trodVars_none hV
  have k0 := h0
  have lt0 : ∀ x ∈ p0, x.block < W.heap.size := by obtain ⟨m, hm⟩ := k0; exact DataW.trod_lt m _ _ _ hm
  have k1 := h1
  have lt1 : ∀ x ∈ p1, x.block < W.heap.size := by obtain ⟨m, hm⟩ := k1; exact DataW.trod_lt m _ _ _ hm
  obtain ⟨c00, c01, c02, c03, y00, y01, y02, y03, n0, rfl, rfl, rfl, t00, t01, t02, t03⟩ := Go.Joins.open_agg4 Try.underlying23 (by kernel_rfl) (by kernel_rfl) (hval 0 23 v0 rfl rfl) h0
  obtain ⟨a00, e00, -, w00⟩ := DataW.trod_int Try.underlying3 t00
  obtain rfl : c00 = .int .i64 a00 := by simpa using e00
  obtain ⟨a01, e01, -, w01⟩ := DataW.trod_int Try.underlying3 t01
  obtain rfl : c01 = .int .i64 a01 := by simpa using e01
  obtain ⟨a02, e02, -, w02⟩ := DataW.trod_int Try.underlying3 t02
  obtain rfl : c02 = .int .i64 a02 := by simpa using e02
  obtain ⟨a03, e03, -, w03⟩ := DataW.trod_int Try.underlying3 t03
  obtain rfl : c03 = .int .i64 a03 := by simpa using e03
  obtain ⟨c10, c11, c12, c13, y10, y11, y12, y13, n1, rfl, rfl, rfl, t10, t11, t12, t13⟩ := Go.Joins.open_agg4 Try.underlying23 (by kernel_rfl) (by kernel_rfl) (hval 1 23 v1 rfl rfl) h1
  obtain ⟨a10, e10, -, w10⟩ := DataW.trod_int Try.underlying3 t10
  obtain rfl : c10 = .int .i64 a10 := by simpa using e10
  obtain ⟨a11, e11, -, w11⟩ := DataW.trod_int Try.underlying3 t11
  obtain rfl : c11 = .int .i64 a11 := by simpa using e11
  obtain ⟨a12, e12, -, w12⟩ := DataW.trod_int Try.underlying3 t12
  obtain rfl : c12 = .int .i64 a12 := by simpa using e12
  obtain ⟨a13, e13, -, w13⟩ := DataW.trod_int Try.underlying3 t13
  obtain rfl : c13 = .int .i64 a13 := by simpa using e13
  clear hA0 hval0
  refine (geomAreas_walk W a00 a01 a02 a03 a10 a11 a12 a13).mono fun e W' ⟨he, bel⟩ => ?_
  subst he
  exact ⟨_, rfl, _, _, _, [], _, [], hW', trodAll_mk1 (shut_bool Try.underlying4 _), (trodAll_cons_mk (Below.trod geomAreas_laidOut (by kernel_rfl) (of_decide_eq_true (by kernel_rfl)) k0 bel lt0) (trodAll_cons_mk (Below.trod geomAreas_laidOut (by kernel_rfl) (of_decide_eq_true (by kernel_rfl)) k1 bel lt1) trodAll_mk0)), rfl, bel.frame _, fun h => by cases h⟩

theorem geomAreas_over : Rows.geomAreasRow.holds Try.pinned (OpenSpec.ofChange Rows.geomAreasSpec) :=
  OpenClaim.holds_of_wide 5 Try.f5 rfl rfl rfl rfl rfl rfl rfl ⟨rfl, rfl, rfl, rfl, rfl⟩ rfl rfl rfl rfl rfl (by kernel_rfl) Try.func5 (by kernel_rfl)
    (of_decide_eq_true (by kernel_rfl)) (by unfold Func.isWrapper; first | (rw [if_pos (by decide +kernel)]; kernel_rfl) | (rw [if_neg (by decide +kernel)]; exact ⟨rfl, rfl⟩))
    (fun os started H enc _ => geomAreas_lifted os started H enc)

theorem geomAreas_holds : Rows.GeomAreasSaid := geomAreas_over
#print axioms geomAreas_holds
end Go.Proofs.Ytkbfcmlchmgmnaa
