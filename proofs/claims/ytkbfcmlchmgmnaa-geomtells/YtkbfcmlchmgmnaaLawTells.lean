/- GeomTells holds: geom's functions and the reference's return the same, and the function returns true. -/
import Derived.Test.YtkbfcmlchmgmnaaGeomR
import Derived.Test.YtkbfcmlchmgmnaaKnown3
import Derived.Deep.RegionHeld3
import Derived.ProofKit
import Derived.OpenShut
import Derived.ShutString
import Derived.ChangeOld
import Derived.Below
import Derived.SizedLaws
namespace Go.Proofs.Ytkbfcmlchmgmnaa
open Go.ChangeShapes Go.WideShapes Go.ChangeAt Go.RowKit
open Go.ChangeMaps (open_string shut_string)
set_option linter.unusedVariables false

set_option maxHeartbeats 4000000 in
set_option maxRecDepth 100000 in
theorem geomTells_walk (w : World) (a0 a1 a2 a3 b0 b1 b2 b3 x y : Int) : Calls Try.prog 3 #[rc a0 a1 a2 a3, rc b0 b1 b2 b3, pt x y] w fun e w' => e = .returned (.bool true) ∧ Below w.heap.size w w' := by
  obtain ⟨m0, m1, m2, m3, hm⟩ : ∃ m0 m1 m2 m3 : Int, Hid (meetR ⟨a0, a1, a2, a3⟩ ⟨b0, b1, b2, b3⟩ = ⟨m0, m1, m2, m3⟩) := ⟨_, _, _, _, rfl⟩
  obtain ⟨L, hL⟩ : ∃ L, Hid (minusL ⟨a0, a1, a2, a3⟩ ⟨b0, b1, b2, b3⟩ = L) := ⟨_, rfl⟩
  have hL4 : L.length ≤ 4 := by rw [← hL.out]; exact minus_le _ _
  have hQ : ∀ (W : World) (p0 p1 p2 p3 : Int), (Op.equalIn 10000 23 (rc p0 p1 p2 p3) (rc p0 p1 p2 p3)).run Try.prog W = .ok true W := fun W p0 p1 p2 p3 => by rw [equal_rc]; simp [eqB]
  unfold rc at hQ
  go_enter Try.func3, Try.ntmps3
  go_wp2_with fail
  have hB0 : Below w.heap.size w (((w.alloc (ro a0 a1 a2 a3)).alloc (ro b0 b1 b2 b3)).alloc (.cells #[.int .i64 x, .int .i64 y] 25)) := ((below1 _ _).alloc (by simp) _).alloc (by simp; omega) _
  have ca := cells4 (old_at (old_at (new_at w (ro a0 a1 a2 a3) _ rfl) (ro b0 b1 b2 b3)) (.cells #[.int .i64 x, .int .i64 y] 25))
  have cb := cells4 (old_at (new_at (w.alloc (ro a0 a1 a2 a3)) (ro b0 b1 b2 b3) (w.heap.size + 1) (by simp)) (.cells #[.int .i64 x, .int .i64 y] 25))
  have cp := cells2 (new_at ((w.alloc (ro a0 a1 a2 a3)).alloc (ro b0 b1 b2 b3)) (.cells #[.int .i64 x, .int .i64 y] 25) (w.heap.size + 1 + 1) (by simp))
  obtain ⟨W0, hW0⟩ : ∃ W0, ((w.alloc (ro a0 a1 a2 a3)).alloc (ro b0 b1 b2 b3)).alloc (.cells #[.int .i64 x, .int .i64 y] 25) = W0 := ⟨_, rfl⟩
  unfold ro at hW0 hB0 ca cb cp
  rw [hW0] at hB0 ca cb cp ⊢
  clear hW0
  have HB0 : Hid (Below w.heap.size w W0) := hB0
  have CA : Hid (∀ W, _) := ca
  have CB : Hid (∀ W, _) := cb
  have CP : Hid (∀ W, _) := cp
  clear ca cb cp hB0
  go_at_call 8
  refine (known_true _).mono ?_
  rintro z w1 ⟨rfl, hE⟩
  have fa := CA.out _ hE
  have fb := CB.out _ hE
  have fp := CP.out _ hE
  go_wp2_with fail
  go_at_call 9
  refine (few_any _ _ _ _ _).mono ?_
  rintro z w2 ⟨f1, rfl, hb⟩
  replace hE := below_on hE hb
  replace fa := CA.out _ hE
  replace fb := CB.out _ hE
  replace fp := CP.out _ hE
  clear hb
  cases f1
  · go_wp2
    go_ret
    exact ⟨rfl, below_on HB0.out hE⟩
  go_wp2_with fail
  go_at_call 9
  refine (few_any _ _ _ _ _).mono ?_
  rintro z w3 ⟨f2, rfl, hb⟩
  replace hE := below_on hE hb
  replace fa := CA.out _ hE
  replace fb := CB.out _ hE
  replace fp := CP.out _ hE
  clear hb
  cases f2
  · go_wp2
    go_ret
    exact ⟨rfl, below_on HB0.out hE⟩
  go_wp2_with fail
  obtain ⟨fa0, fa1, fa2, fa3, -⟩ := fa
  obtain ⟨fb0, fb1, fb2, fb3, -⟩ := fb
  clear fp
  go_region_held3 (fun w' => w'.cell? ⟨w.heap.size, 0, none⟩ = some (.int .i64 a0) ∧ w'.cell? ⟨w.heap.size, 1, none⟩ = some (.int .i64 a1) ∧ w'.cell? ⟨w.heap.size, 2, none⟩ = some (.int .i64 a2) ∧ w'.cell? ⟨w.heap.size, 3, none⟩ = some (.int .i64 a3) ∧ w'.cell? ⟨w.heap.size + 1, 0, none⟩ = some (.int .i64 b0) ∧ w'.cell? ⟨w.heap.size + 1, 1, none⟩ = some (.int .i64 b1) ∧ w'.cell? ⟨w.heap.size + 1, 2, none⟩ = some (.int .i64 b2) ∧ w'.cell? ⟨w.heap.size + 1, 3, none⟩ = some (.int .i64 b3))
    (first | go_keep | (go_split_ands; refine ⟨?_, ?_, ?_, ?_, ?_, ?_, ?_, ?_⟩ <;> exact cell_below hbK (by assumption)))
    (first
      | (go_at_call 10; refine (geom_minus _ _ _ _ _ _ _ _ _).mono ?_; rintro z w4 ⟨v1, rfl, ho1, hbK⟩; rw [hL.out] at ho1; obtain ⟨p1, c1, rfl⟩ := owns_slice ho1; have hE4 := below_on hE.drew hbK)
      | (go_at_call 11; refine (ref_minus _ _ _ _ _ _ _ _ _).mono ?_; rintro z w5 ⟨v2, rfl, ho2, hbK⟩; rw [hL.out] at ho2; obtain ⟨p2, c2, rfl⟩ := owns_slice ho2; have hE5 := below_on hE4 hbK; have ho3 := owns_on ho1 hbK))
  all_goals
    have fa := CA.out _ hE5
    have fb := CB.out _ hE5
    have fp := CP.out _ hE5
    clear fa0 fa1 fa2 fa3 fb0 fb1 fb2 fb3 ho1 hbK hE4
    go_wp2_with fail
    go_loopw [9] (fun i wr => ∃ k : Nat, k ≤ L.length ∧ i = .int .i64 k ∧ Below w5.heap.size w5 wr) (fun i _ => L.length - (intOf i).toNat)
    case atStart => exact ⟨0, by omega, rfl, Below.refl _ _⟩
    case round =>
      obtain ⟨k, hk, rfl, hb⟩ := hrel
      clear fa fb fp
      by_cases hlt : k < L.length
      · have hlt' : (k : Int) < (L.length : Int) := by omega
        have hlt0 : (0 : Int) ≤ (k : Int) := by omega
        obtain ⟨q0, q1, q2, q3, hp⟩ := get_rc L k hlt
        obtain ⟨g1, rfl⟩ := owns_some ho3 (by omega)
        obtain ⟨g2, rfl⟩ := owns_some ho2 (by omega)
        have r1 := row_at (owns_on ho3 hb) hp rfl
        have r2 := row_at (owns_on ho2 hb) hp rfl
        clear hp ho3 ho2
        go_wp2_with fail
        go_quiet (fail)
        go_wp2
        go_roundw
        case rel => exact ⟨k + 1, by omega, by go_num, hb.trans (Go.Joins.below_draws _ _ _)⟩
        case measure => simp [intOf]; omega
      · have hk' : k = L.length := by omega
        subst hk'
        have hE6 := below_on hE5 hb
        have fa := fun d os => CA.out _ (below_on hE6 (below_regrown wr d os))
        have fb := fun d os => CB.out _ (below_on hE6 (below_regrown wr d os))
        have fp := fun d os => CP.out _ (below_on hE6 (below_regrown wr d os))
        clear ho3 ho2 hb
        go_wp2_with fail
        refine wp_region_quiet_below (by kernel_rfl) (by kernel_rfl) ?_
        repeat (first | go_big_quiet_skip | (go_big_quiet_want; go_big_quiet_op; first | go_big_quiet_on | go_big_quiet_call (first
          | exact Calls.regrown_of (geom_on _ _ _) | exact Calls.regrown_of (ref_on _ _ _)
          | exact Calls.regrown_of (geom_is _ _ _ _ _) | exact Calls.regrown_of (ref_is _ _ _ _ _)
          | exact Calls.regrown_of (geom_empty _ _ _ _ _) | exact Calls.regrown_of (ref_empty _ _ _ _ _)
          | exact Calls.regrown_of (geom_in _ _ _ _ _ _ _) | exact Calls.regrown_of (ref_in _ _ _ _ _ _ _)
          | exact Calls.regrown_of (geom_meet_at hm _) | exact Calls.regrown_of (ref_meet_at hm _)
          | exact Calls.regrown_of (geom_area _ _ _ _ _) | exact Calls.regrown_of (ref_area _ _ _ _ _)
          | exact Calls.regrown_of (geom_same _ _ _ _ _ _ _ _ _) | exact Calls.regrown_of (ref_same _ _ _ _ _ _ _ _ _))))
        refine wpQuiet_nil ?_
        intro _ hw'
        obtain ⟨⟨dq, osq⟩, hw''⟩ := hw'
        subst hw''
        go_wp2
        go_ret
        exact ⟨rfl, below_on HB0.out (below_on hE6 (below_regrown wr dq osq))⟩

theorem geomTells_own : ownKnob Try.prog.godebug = none := by kernel_rfl
theorem geomTells_laidOut : laidOutB Try.prog = true := by kernel_rfl
set_option maxRecDepth 100000 in
theorem geomTells_lifted (os : Os) (started : os.Started) (H : Type) (enc : TypeId × Value → H) :
    ReturnsInHanded {} Try.checked os 3 .any (Rows.geomTellsSpec.pre6 enc Try.prog Try.f3 Rows.geomTellsRow.domain false) (Rows.geomTellsSpec.post enc Try.prog Try.f3 false true false false) := by
  refine returnsInHanded_of_change (C := Try.checked) geomTells_own started (by kernel_rfl) Try.func3
    (ChangeSpec.witness6 (enc := enc) (C := Try.checked) false ⟨#[], #[.agg #[.int .i64 0, .int .i64 0, .int .i64 0, .int .i64 0], .agg #[.int .i64 0, .int .i64 0, .int .i64 0, .int .i64 0], .agg #[.int .i64 0, .int .i64 0]], []⟩ 8 (by kernel_rfl) (by kernel_rfl) (by kernel_rfl) (by kernel_rfl)) ?_
  intro W base args ds gs before hval0 hW hcnd _
  have hval : ∀ (j : Nat) t v, Try.f3.params[j]? = some t → args[j]? = some v → Value.okWide Try.prog W .any base t v := hval0
  have hW' := hW
  obtain ⟨p, q, hA0, hV, rfl, hfz, hnd⟩ := hW
  have hA : DataW.TrodAll enc Try.prog W 0 (fun _ => true) true Try.f3.params.toList args.toList ds p := hA0
  rw [Try.params3] at hA hval
  obtain ⟨v0, vs0, d0, ds0, p0, q0, hargs, rfl, rfl, h0, r0⟩ := trodAll_cons hA
  obtain ⟨v1, vs1, d1, ds1, p1, q1, rfl, rfl, rfl, h1, r1⟩ := trodAll_cons r0
  obtain ⟨v2, vs2, d2, ds2, p2, q2, rfl, rfl, rfl, h2, r2⟩ := trodAll_cons r1
  obtain ⟨rfl, rfl, rfl⟩ := trodAll_nil r2
  obtain rfl : args = #[v0, v1, v2] := by cases args; simp_all
  obtain ⟨rfl, rfl⟩ := trodVars_none hV
  have k0 := h0
  have lt0 : ∀ x ∈ p0, x.block < W.heap.size := by obtain ⟨m, hm⟩ := k0; exact DataW.trod_lt m _ _ _ hm
  have k1 := h1
  have lt1 : ∀ x ∈ p1, x.block < W.heap.size := by obtain ⟨m, hm⟩ := k1; exact DataW.trod_lt m _ _ _ hm
  have k2 := h2
  have lt2 : ∀ x ∈ p2, x.block < W.heap.size := by obtain ⟨m, hm⟩ := k2; exact DataW.trod_lt m _ _ _ hm
  obtain ⟨c00, c01, c02, c03, y00, y01, y02, y03, n0, rfl, rfl, rfl, t00, t01, t02, t03⟩ := Go.Joins.open_agg4 Try.underlying23 (by kernel_rfl) (by kernel_rfl) (hval 0 23 v0 rfl rfl) h0
  obtain ⟨a00, e00, -, w00⟩ := DataW.trod_int Try.underlying3 t00
  obtain rfl : c00 = .int .i64 a00 := by simpa using e00
  obtain ⟨a01, e01, -, w01⟩ := DataW.trod_int Try.underlying3 t01
  obtain rfl : c01 = .int .i64 a01 := by simpa using e01
  obtain ⟨a02, e02, -, w02⟩ := DataW.trod_int Try.underlying3 t02
  obtain rfl : c02 = .int .i64 a02 := by simpa using e02
  obtain ⟨a03, e03, -, w03⟩ := DataW.trod_int Try.underlying3 t03
  obtain rfl : c03 = .int .i64 a03 := by simpa using e03
  obtain ⟨c10, c11, c12, c13, y10, y11, y12, y13, n1, rfl, rfl, rfl, t10, t11, t12, t13⟩ := Go.Joins.open_agg4 Try.underlying23 (by kernel_rfl) (by kernel_rfl) (hval 1 23 v1 rfl rfl) h1
  obtain ⟨a10, e10, -, w10⟩ := DataW.trod_int Try.underlying3 t10
  obtain rfl : c10 = .int .i64 a10 := by simpa using e10
  obtain ⟨a11, e11, -, w11⟩ := DataW.trod_int Try.underlying3 t11
  obtain rfl : c11 = .int .i64 a11 := by simpa using e11
  obtain ⟨a12, e12, -, w12⟩ := DataW.trod_int Try.underlying3 t12
  obtain rfl : c12 = .int .i64 a12 := by simpa using e12
  obtain ⟨a13, e13, -, w13⟩ := DataW.trod_int Try.underlying3 t13
  obtain rfl : c13 = .int .i64 a13 := by simpa using e13
  obtain ⟨c20, c21, y20, y21, n2, rfl, rfl, rfl, t20, t21⟩ := Go.Joins.open_agg2 Try.underlying25 (by kernel_rfl) (by kernel_rfl) (hval 2 25 v2 rfl rfl) h2
  obtain ⟨a20, e20, -, w20⟩ := DataW.trod_int Try.underlying3 t20
  obtain rfl : c20 = .int .i64 a20 := by simpa using e20
  obtain ⟨a21, e21, -, w21⟩ := DataW.trod_int Try.underlying3 t21
  obtain rfl : c21 = .int .i64 a21 := by simpa using e21
  clear hA0 hval0
  refine (geomTells_walk W a00 a01 a02 a03 a10 a11 a12 a13 a20 a21).mono fun e W' ⟨he, bel⟩ => ?_
  subst he
  exact ⟨_, rfl, _, _, _, [], _, [], hW', trodAll_mk1 (shut_bool Try.underlying4 _), (trodAll_cons_mk (Below.trod geomTells_laidOut (by kernel_rfl) (of_decide_eq_true (by kernel_rfl)) k0 bel lt0) (trodAll_cons_mk (Below.trod geomTells_laidOut (by kernel_rfl) (of_decide_eq_true (by kernel_rfl)) k1 bel lt1) (trodAll_cons_mk (Below.trod geomTells_laidOut (by kernel_rfl) (of_decide_eq_true (by kernel_rfl)) k2 bel lt2) trodAll_mk0))), rfl, bel.frame _, fun h => by cases h⟩

theorem geomTells_over : Rows.geomTellsRow.holds Try.pinned (OpenSpec.ofChange Rows.geomTellsSpec) :=
  OpenClaim.holds_of_wide 3 Try.f3 rfl rfl rfl rfl rfl rfl rfl ⟨rfl, rfl, rfl, rfl, rfl⟩ rfl rfl rfl rfl rfl (by kernel_rfl) Try.func3 (by kernel_rfl)
    (of_decide_eq_true (by kernel_rfl)) (by unfold Func.isWrapper; first | (rw [if_pos (by decide +kernel)]; kernel_rfl) | (rw [if_neg (by decide +kernel)]; exact ⟨rfl, rfl⟩))
    (fun os started H enc _ => geomTells_lifted os started H enc)

theorem geomTells_holds : Rows.GeomTellsSaid := geomTells_over
#print axioms geomTells_holds
end Go.Proofs.Ytkbfcmlchmgmnaa
