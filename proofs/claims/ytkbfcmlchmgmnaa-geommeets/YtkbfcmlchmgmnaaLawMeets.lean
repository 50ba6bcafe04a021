/- GeomMeets holds: what both have is the same in either order and grouping, and the function returns true. -/
import Derived.Test.YtkbfcmlchmgmnaaGeomR
import Derived.Test.YtkbfcmlchmgmnaaGeomS
import Derived.Test.YtkbfcmlchmgmnaaKnown3
import Derived.ProofKit
import Derived.OpenShut
import Derived.ShutString
import Derived.ChangeOld
import Derived.Below
import Derived.SizedLaws
namespace Go.Proofs.Ytkbfcmlchmgmnaa
open Go.ChangeShapes Go.WideShapes Go.ChangeAt Go.RowKit
open Go.ChangeMaps (open_string shut_string)
set_option linter.unusedVariables false

set_option maxHeartbeats 4000000 in
set_option maxRecDepth 100000 in
theorem geomMeets_walk (w : World) (a0 a1 a2 a3 b0 b1 b2 b3 c0 c1 c2 c3 x y : Int) : Calls Try.prog 6 #[rc a0 a1 a2 a3, rc b0 b1 b2 b3, rc c0 c1 c2 c3, pt x y] w fun e w' => e = .returned (.bool true) ∧ Below w.heap.size w w' := by
  obtain ⟨m0, m1, m2, m3, hm⟩ : ∃ m0 m1 m2 m3 : Int, Hid (meetR ⟨a0, a1, a2, a3⟩ ⟨b0, b1, b2, b3⟩ = ⟨m0, m1, m2, m3⟩) := ⟨_, _, _, _, rfl⟩
  obtain ⟨n0, n1, n2, n3, hn⟩ : ∃ m0 m1 m2 m3 : Int, Hid (meetR ⟨b0, b1, b2, b3⟩ ⟨a0, a1, a2, a3⟩ = ⟨m0, m1, m2, m3⟩) := ⟨_, _, _, _, rfl⟩
  obtain ⟨u0, u1, u2, u3, hu⟩ : ∃ u0 u1 u2 u3 : Int, Hid (meetR ⟨m0, m1, m2, m3⟩ ⟨c0, c1, c2, c3⟩ = ⟨u0, u1, u2, u3⟩) := ⟨_, _, _, _, rfl⟩
  obtain ⟨q0, q1, q2, q3, hq⟩ : ∃ u0 u1 u2 u3 : Int, Hid (meetR ⟨b0, b1, b2, b3⟩ ⟨c0, c1, c2, c3⟩ = ⟨u0, u1, u2, u3⟩) := ⟨_, _, _, _, rfl⟩
  obtain ⟨r0, r1, r2, r3, hr⟩ : ∃ u0 u1 u2 u3 : Int, Hid (meetR ⟨a0, a1, a2, a3⟩ ⟨q0, q1, q2, q3⟩ = ⟨u0, u1, u2, u3⟩) := ⟨_, _, _, _, rfl⟩
  obtain ⟨s0, s1, s2, s3, hs⟩ : ∃ u0 u1 u2 u3 : Int, Hid (meetR ⟨a0, a1, a2, a3⟩ ⟨a0, a1, a2, a3⟩ = ⟨u0, u1, u2, u3⟩) := ⟨_, _, _, _, rfl⟩
  have e1 : Hid (sameB ⟨m0, m1, m2, m3⟩ ⟨n0, n1, n2, n3⟩ = true) := sameB_of (hm.out.symm.trans ((meet_comm _ _).trans hn.out))
  have e2 : Hid (sameB ⟨u0, u1, u2, u3⟩ ⟨r0, r1, r2, r3⟩ = true) := sameB_of (by rw [← hu.out, ← hr.out, ← hq.out, ← hm.out, meet_assoc])
  have e3 : Hid (sameB ⟨s0, s1, s2, s3⟩ ⟨a0, a1, a2, a3⟩ = true) := by have := meet_self ⟨a0, a1, a2, a3⟩; rw [hs.out] at this; exact this
  have e4 : Hid (minusL ⟨m0, m1, m2, m3⟩ ⟨a0, a1, a2, a3⟩ = []) := by have := minus_meet ⟨a0, a1, a2, a3⟩ ⟨b0, b1, b2, b3⟩; rw [hm.out] at this; exact this
  have e5 : Hid (inB ⟨m0, m1, m2, m3⟩ x y = (inB ⟨a0, a1, a2, a3⟩ x y && inB ⟨b0, b1, b2, b3⟩ x y)) := by have := in_meet ⟨a0, a1, a2, a3⟩ ⟨b0, b1, b2, b3⟩ x y; rw [hm.out] at this; exact this
  go_enter Try.func6, Try.ntmps6
  go_wp2_with fail
  have hB0 : Below w.heap.size w ((((w.alloc (ro a0 a1 a2 a3)).alloc (ro b0 b1 b2 b3)).alloc (ro c0 c1 c2 c3)).alloc (.cells #[.int .i64 x, .int .i64 y] 25)) := (((below1 _ _).alloc (by simp) _).alloc (by simp; omega) _).alloc (by simp; omega) _
  have ca := cells4 (old_at (old_at (old_at (new_at w (ro a0 a1 a2 a3) _ rfl) (ro b0 b1 b2 b3)) (ro c0 c1 c2 c3)) (.cells #[.int .i64 x, .int .i64 y] 25))
  have cb := cells4 (old_at (old_at (new_at (w.alloc (ro a0 a1 a2 a3)) (ro b0 b1 b2 b3) (w.heap.size + 1) (by simp)) (ro c0 c1 c2 c3)) (.cells #[.int .i64 x, .int .i64 y] 25))
  have cc := cells4 (old_at (new_at ((w.alloc (ro a0 a1 a2 a3)).alloc (ro b0 b1 b2 b3)) (ro c0 c1 c2 c3) (w.heap.size + 1 + 1) (by simp)) (.cells #[.int .i64 x, .int .i64 y] 25))
  have cp := cells2 (new_at (((w.alloc (ro a0 a1 a2 a3)).alloc (ro b0 b1 b2 b3)).alloc (ro c0 c1 c2 c3)) (.cells #[.int .i64 x, .int .i64 y] 25) (w.heap.size + 1 + 1 + 1) (by simp))
  obtain ⟨W0, hW0⟩ : ∃ W0, (((w.alloc (ro a0 a1 a2 a3)).alloc (ro b0 b1 b2 b3)).alloc (ro c0 c1 c2 c3)).alloc (.cells #[.int .i64 x, .int .i64 y] 25) = W0 := ⟨_, rfl⟩
  unfold ro at hW0 hB0 ca cb cc cp
  rw [hW0] at hB0 ca cb cc cp ⊢
  clear hW0
  have HB0 : Hid (Below w.heap.size w W0) := hB0
  have CA : Hid (∀ W, _) := ca
  have CB : Hid (∀ W, _) := cb
  have CC : Hid (∀ W, _) := cc
  have CP : Hid (∀ W, _) := cp
  clear ca cb cc cp hB0
  go_at_call 8
  refine (known_true _).mono ?_
  rintro z w1 ⟨rfl, hE⟩
  have fa := CA.out _ hE
  go_wp2_with fail
  go_at_call 9
  refine (few_any _ _ _ _ _).mono ?_
  rintro z w2 ⟨f1, rfl, hb⟩
  replace hE := below_on hE hb
  clear hb fa
  cases f1
  · go_wp2
    go_ret
    exact ⟨rfl, below_on HB0.out hE⟩
  have fb := CB.out _ hE
  go_wp2_with fail
  go_at_call 9
  refine (few_any _ _ _ _ _).mono ?_
  rintro z w3 ⟨f2, rfl, hb⟩
  replace hE := below_on hE hb
  clear hb fb
  cases f2
  · go_wp2
    go_ret
    exact ⟨rfl, below_on HB0.out hE⟩
  have fc := CC.out _ hE
  go_wp2_with fail
  go_at_call 9
  refine (few_any _ _ _ _ _).mono ?_
  rintro z w4 ⟨f3, rfl, hb⟩
  replace hE := below_on hE hb
  clear hb fc
  cases f3
  · go_wp2
    go_ret
    exact ⟨rfl, below_on HB0.out hE⟩
  have fa := CA.out _ hE
  have fb := CB.out _ hE
  go_wp2_with fail
  go_at_call 20
  refine (geom_meet_at hm _).mono ?_
  rintro z w5 ⟨rfl, hb⟩
  replace hE := below_on hE hb
  clear hb fa fb
  go_wp2_with fail
  have hE6 := hE.alloc hE.size (ro m0 m1 m2 m3)
  have cm := new_at w5 (ro m0 m1 m2 m3) _ rfl
  obtain ⟨W6, hW6⟩ : ∃ W6, w5.alloc (ro m0 m1 m2 m3) = W6 := ⟨_, rfl⟩
  obtain ⟨G, hG⟩ : ∃ G, w5.heap.size = G := ⟨_, rfl⟩
  unfold ro at hW6 hE6 cm
  rw [hW6] at hE6 cm ⊢
  rw [hG] at cm ⊢
  clear hW6 hG hE
  have fm := fun d os => cells4 cm _ (below_regrown W6 d os)
  have fa := fun d os => CA.out _ (below_on hE6 (below_regrown W6 d os))
  have fb := fun d os => CB.out _ (below_on hE6 (below_regrown W6 d os))
  have fc := fun d os => CC.out _ (below_on hE6 (below_regrown W6 d os))
  have fp := fun d os => CP.out _ (below_on hE6 (below_regrown W6 d os))
  clear cm
  have hfin : ∀ d os, Hid (Below w.heap.size w (Sort.grow (redrawn W6 d) os)) := fun d os => below_on HB0.out (below_on hE6 (below_regrown W6 d os))
  clear hE6
  obtain ⟨i, hi⟩ : ∃ i, Hid (inB ⟨m0, m1, m2, m3⟩ x y = i) := ⟨_, rfl⟩
  cases i
  · refine wp_region_quiet_below (by kernel_rfl) (by kernel_rfl) ?_
    repeat (first | go_big_quiet_skip | (go_big_quiet_want; go_big_quiet_op; first | go_big_quiet_on | go_big_quiet_call (first
          | exact Calls.regrown_of (calls_val (geom_meet _ _ _ _ _ _ _ _ _) (by first | rw [hn.out] | rw [hu.out] | rw [hq.out] | rw [hr.out] | rw [hs.out]))
          | exact Calls.regrown_of (calls_val (geom_same _ _ _ _ _ _ _ _ _) (by first | rw [e1.out] | rw [e2.out] | rw [e3.out]))
          | exact Calls.regrown_of (calls_val (geom_in _ _ _ _ _ _ _) (by first | rw [hi.out] | rw [ha.out] | rw [hb.out]))
          | exact Calls.regrown_of (geom_minus_nil e4 _))))
    refine wpQuiet_nil ?_
    intro _ hw'
    obtain ⟨⟨dq, osq⟩, hw''⟩ := hw'
    subst hw''
    go_wp2
    go_ret
    exact ⟨rfl, (hfin _ _).out⟩
  · have ha : Hid (inB ⟨a0, a1, a2, a3⟩ x y = true) := by have := e5.out; rw [hi.out] at this; simp at this; exact this.1
    have hb : Hid (inB ⟨b0, b1, b2, b3⟩ x y = true) := by have := e5.out; rw [hi.out] at this; simp at this; exact this.2
    refine wp_region_quiet_below (by kernel_rfl) (by kernel_rfl) ?_
    repeat (first | go_big_quiet_skip | (go_big_quiet_want; go_big_quiet_op; first | go_big_quiet_on | go_big_quiet_call (first
          | exact Calls.regrown_of (calls_val (geom_meet _ _ _ _ _ _ _ _ _) (by first | rw [hn.out] | rw [hu.out] | rw [hq.out] | rw [hr.out] | rw [hs.out]))
          | exact Calls.regrown_of (calls_val (geom_same _ _ _ _ _ _ _ _ _) (by first | rw [e1.out] | rw [e2.out] | rw [e3.out]))
          | exact Calls.regrown_of (calls_val (geom_in _ _ _ _ _ _ _) (by first | rw [hi.out] | rw [ha.out] | rw [hb.out]))
          | exact Calls.regrown_of (geom_minus_nil e4 _))))
    refine wpQuiet_nil ?_
    intro _ hw'
    obtain ⟨⟨dq, osq⟩, hw''⟩ := hw'
    subst hw''
    go_wp2
    go_ret
    exact ⟨rfl, (hfin _ _).out⟩

theorem geomMeets_own : ownKnob Try.prog.godebug = none := by kernel_rfl
theorem geomMeets_laidOut : laidOutB Try.prog = true := by kernel_rfl
set_option maxRecDepth 100000 in
theorem geomMeets_lifted (os : Os) (started : os.Started) (H : Type) (enc : TypeId × Value → H) :
    ReturnsInHanded {} Try.checked os 6 .any (Rows.geomMeetsSpec.pre6 enc Try.prog Try.f6 Rows.geomMeetsRow.domain false) (Rows.geomMeetsSpec.post enc Try.prog Try.f6 false true false false) := by
  refine returnsInHanded_of_change (C := Try.checked) geomMeets_own started (by kernel_rfl) Try.func6
    (ChangeSpec.witness6 (enc := enc) (C := Try.checked) false ⟨#[], #[.agg #[.int .i64 0, .int .i64 0, .int .i64 0, .int .i64 0], .agg #[.int .i64 0, .int .i64 0, .int .i64 0, .int .i64 0], .agg #[.int .i64 0, .int .i64 0, .int .i64 0, .int .i64 0], .agg #[.int .i64 0, .int .i64 0]], []⟩ 8 (by kernel_rfl) (by kernel_rfl) (by kernel_rfl) (by kernel_rfl)) ?_
  intro W base args ds gs before hval0 hW hcnd _
  have hval : ∀ (j : Nat) t v, Try.f6.params[j]? = some t → args[j]? = some v → Value.okWide Try.prog W .any base t v := hval0
  have hW' := hW
  obtain ⟨p, q, hA0, hV, rfl, hfz, hnd⟩ := hW
  have hA : DataW.TrodAll enc Try.prog W 0 (fun _ => true) true Try.f6.params.toList args.toList ds p := hA0
  rw [Try.params6] at hA hval
  obtain ⟨v0, vs0, d0, ds0, p0, q0, hargs, rfl, rfl, h0, r0⟩ := trodAll_cons hA
  obtain ⟨v1, vs1, d1, ds1, p1, q1, rfl, rfl, rfl, h1, r1⟩ := trodAll_cons r0
  obtain ⟨v2, vs2, d2, ds2, p2, q2, rfl, rfl, rfl, h2, r2⟩ := trodAll_cons r1
  obtain ⟨v3, vs3, d3, ds3, p3, q3, rfl, rfl, rfl, h3, r3⟩ := trodAll_cons r2
  obtain ⟨rfl, rfl, rfl⟩ := trodAll_nil r3
  obtain rfl : args = #[v0, v1, v2, v3] := by cases args; simp_all
  obtain ⟨rfl, rfl⟩ := trodVars_none hV
  have k0 := h0
  have lt0 : ∀ x ∈ p0, x.block < W.heap.size := by obtain ⟨m, hm⟩ := k0; exact DataW.trod_lt m _ _ _ hm
  have k1 := h1
  have lt1 : ∀ x ∈ p1, x.block < W.heap.size := by obtain ⟨m, hm⟩ := k1; exact DataW.trod_lt m _ _ _ hm
  have k2 := h2
  have lt2 : ∀ x ∈ p2, x.block < W.heap.size := by obtain ⟨m, hm⟩ := k2; exact DataW.trod_lt m _ _ _ hm
  have k3 := h3
  have lt3 : ∀ x ∈ p3, x.block < W.heap.size := by obtain ⟨m, hm⟩ := k3; exact DataW.trod_lt m _ _ _ hm
  obtain ⟨c00, c01, c02, c03, y00, y01, y02, y03, n0, rfl, rfl, rfl, t00, t01, t02, t03⟩ := Go.Joins.open_agg4 Try.underlying23 (by kernel_rfl) (by kernel_rfl) (hval 0 23 v0 rfl rfl) h0
  obtain ⟨a00, e00, -, w00⟩ := DataW.trod_int Try.underlying3 t00
  obtain rfl : c00 = .int .i64 a00 := by simpa using e00
  obtain ⟨a01, e01, -, w01⟩ := DataW.trod_int Try.underlying3 t01
  obtain rfl : c01 = .int .i64 a01 := by simpa using e01
  obtain ⟨a02, e02, -, w02⟩ := DataW.trod_int Try.underlying3 t02
  obtain rfl : c02 = .int .i64 a02 := by simpa using e02
  obtain ⟨a03, e03, -, w03⟩ := DataW.trod_int Try.underlying3 t03
  obtain rfl : c03 = .int .i64 a03 := by simpa using e03
  obtain ⟨c10, c11, c12, c13, y10, y11, y12, y13, n1, rfl, rfl, rfl, t10, t11, t12, t13⟩ := Go.Joins.open_agg4 Try.underlying23 (by kernel_rfl) (by kernel_rfl) (hval 1 23 v1 rfl rfl) h1
  obtain ⟨a10, e10, -, w10⟩ := DataW.trod_int Try.underlying3 t10
  obtain rfl : c10 = .int .i64 a10 := by simpa using e10
  obtain ⟨a11, e11, -, w11⟩ := DataW.trod_int Try.underlying3 t11
  obtain rfl : c11 = .int .i64 a11 := by simpa using e11
  obtain ⟨a12, e12, -, w12⟩ := DataW.trod_int Try.underlying3 t12
  obtain rfl : c12 = .int .i64 a12 := by simpa using e12
  obtain ⟨a13, e13, -, w13⟩ := DataW.trod_int Try.underlying3 t13
  obtain rfl : c13 = .int .i64 a13 := by simpa using e13
  obtain ⟨c20, c21, c22, c23, y20, y21, y22, y23, n2, rfl, rfl, rfl, t20, t21, t22, t23⟩ := Go.Joins.open_agg4 Try.underlying23 (by kernel_rfl) (by kernel_rfl) (hval 2 23 v2 rfl rfl) h2
  obtain ⟨a20, e20, -, w20⟩ := DataW.trod_int Try.underlying3 t20
  obtain rfl : c20 = .int .i64 a20 := by simpa using e20
  obtain ⟨a21, e21, -, w21⟩ := DataW.trod_int Try.underlying3 t21
  obtain rfl : c21 = .int .i64 a21 := by simpa using e21
  obtain ⟨a22, e22, -, w22⟩ := DataW.trod_int Try.underlying3 t22
  obtain rfl : c22 = .int .i64 a22 := by simpa using e22
  obtain ⟨a23, e23, -, w23⟩ := DataW.trod_int Try.underlying3 t23
  obtain rfl : c23 = .int .i64 a23 := by simpa using e23
  obtain ⟨c30, c31, y30, y31, n3, rfl, rfl, rfl, t30, t31⟩ := Go.Joins.open_agg2 Try.underlying25 (by kernel_rfl) (by kernel_rfl) (hval 3 25 v3 rfl rfl) h3
  obtain ⟨a30, e30, -, w30⟩ := DataW.trod_int Try.underlying3 t30
  obtain rfl : c30 = .int .i64 a30 := by simpa using e30
  obtain ⟨a31, e31, -, w31⟩ := DataW.trod_int Try.underlying3 t31
  obtain rfl : c31 = .int .i64 a31 := by simpa using e31
  clear hA0 hval0
  refine (geomMeets_walk W a00 a01 a02 a03 a10 a11 a12 a13 a20 a21 a22 a23 a30 a31).mono fun e W' ⟨he, bel⟩ => ?_
  subst he
  exact ⟨_, rfl, _, _, _, [], _, [], hW', trodAll_mk1 (shut_bool Try.underlying4 _), (trodAll_cons_mk (Below.trod geomMeets_laidOut (by kernel_rfl) (of_decide_eq_true (by kernel_rfl)) k0 bel lt0) (trodAll_cons_mk (Below.trod geomMeets_laidOut (by kernel_rfl) (of_decide_eq_true (by kernel_rfl)) k1 bel lt1) (trodAll_cons_mk (Below.trod geomMeets_laidOut (by kernel_rfl) (of_decide_eq_true (by kernel_rfl)) k2 bel lt2) (trodAll_cons_mk (Below.trod geomMeets_laidOut (by kernel_rfl) (of_decide_eq_true (by kernel_rfl)) k3 bel lt3) trodAll_mk0)))), rfl, bel.frame _, fun h => by cases h⟩

theorem geomMeets_over : Rows.geomMeetsRow.holds Try.pinned (OpenSpec.ofChange Rows.geomMeetsSpec) :=
  OpenClaim.holds_of_wide 6 Try.f6 rfl rfl rfl rfl rfl rfl rfl ⟨rfl, rfl, rfl, rfl, rfl⟩ rfl rfl rfl rfl rfl (by kernel_rfl) Try.func6 (by kernel_rfl)
    (of_decide_eq_true (by kernel_rfl)) (by unfold Func.isWrapper; first | (rw [if_pos (by decide +kernel)]; kernel_rfl) | (rw [if_neg (by decide +kernel)]; exact ⟨rfl, rfl⟩))
    (fun os started H enc _ => geomMeets_lifted os started H enc)

theorem geomMeets_holds : Rows.GeomMeetsSaid := geomMeets_over
#print axioms geomMeets_holds
end Go.Proofs.Ytkbfcmlchmgmnaa
