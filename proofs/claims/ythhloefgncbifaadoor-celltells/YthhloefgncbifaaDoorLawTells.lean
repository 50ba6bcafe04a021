/- CellTells holds (tied card): whose cell, its points, all that a rectangle has points of, who is beside whom, as the reference says; the package's table of masks starts as the program's text lays it. -/
import Derived.Test.YthhloefgncbifaaDoorKnown5
import Derived.Test.YthhloefgncbifaaDoorCellsQ
import Derived.Test.YthhloefgncbifaaDoorLaid
import Derived.Test.YthhloefgncbifaaDoorCards
import Derived.Test.YthhloefgncbifaaDoorTie
import Derived.SevenTiedAt
import Derived.Deep.RegionHeld3
import Derived.ProofKit
import Derived.OpenShut
import Derived.ShutString
import Derived.ChangeOld
import Derived.Below
import Derived.SizedLaws
namespace Go.Proofs.YthhloefgncbifaaDoor
open Go.ChangeShapes Go.WideShapes Go.ChangeAt Go.RowKit
open Go.ChangeMaps (open_string shut_string)
set_option linter.unusedVariables false

set_option maxRecDepth 100000 in
set_option maxHeartbeats 2000000 in
theorem cellTells_walk (w : World) (hL : Masks w) (x y : Int) (r0 r1 r2 r3 : Int) (a : Int) (wa : (Lit.int .i64 a).wf = true) (b : Int) (wb : (Lit.int .i64 b).wf = true) :
    Calls Tryd.prog 3 #[pt x y, rc r0 r1 r2 r3, .int .i64 a, .int .i64 b] w fun e w' => e = .returned (.bool true) ∧ Below w.heap.size w w' := by
  clear wa wb
  have HL : Hid (Masks w) := hL
  clear hL
  obtain ⟨c, hc⟩ : ∃ c, Hid (ofN x y = c) := ⟨_, rfl⟩
  obtain ⟨e, he⟩ : ∃ e, Hid (ofE x y = e) := ⟨_, rfl⟩
  obtain ⟨p0, p1, p2, p3, hp⟩ : ∃ p0 p1 p2 p3 : Int, Hid (cellR a = ⟨p0, p1, p2, p3⟩) := ⟨_, _, _, _, rfl⟩
  obtain ⟨q, hq⟩ : ∃ q, Hid (isC a = q) := ⟨_, rfl⟩
  obtain ⟨s, hs⟩ : ∃ s, Hid (besB a b = s) := ⟨_, rfl⟩
  obtain ⟨L, hLc⟩ : ∃ L, Hid (coverL ⟨r0, r1, r2, r3⟩ 16 = L) := ⟨_, rfl⟩
  have hlen : L.length ≤ 16 := by rw [← hLc.out]; exact coverL_le _ _
  have hQ : ∀ W : World, (Op.equalIn 10000 25 (rc p0 p1 p2 p3) (rc p0 p1 p2 p3)).run Tryd.prog W = .ok true W := fun W => by rw [equal_rc]; simp [eqB]
  unfold rc at hQ
  go_enter Tryd.func3, Tryd.ntmps3
  go_wp2_with fail
  go_at_call 7
  refine (known_true _ (HL.out.below ((below1 _ _).alloc (by simp) _))).mono ?_
  rintro z W0 ⟨rfl, hb0⟩
  have CP : Hid (∀ W, Below W0.heap.size W0 W → W.cell? ⟨w.heap.size, 0, none⟩ = some (.int .i64 x) ∧ W.cell? ⟨w.heap.size, 1, none⟩ = some (.int .i64 y) ∧ w.heap.size < W.heap.size) := cells2 (var_on hb0 (old_at (new_at _ _ _ rfl) _) (by simp; omega))
  have CR : Hid (∀ W, Below W0.heap.size W0 W → W.cell? ⟨w.heap.size + 1, 0, none⟩ = some (.int .i64 r0) ∧ W.cell? ⟨w.heap.size + 1, 1, none⟩ = some (.int .i64 r1) ∧ W.cell? ⟨w.heap.size + 1, 2, none⟩ = some (.int .i64 r2) ∧ W.cell? ⟨w.heap.size + 1, 3, none⟩ = some (.int .i64 r3) ∧ w.heap.size + 1 < W.heap.size) := cells4 (var_on hb0 (new_at _ _ _ (by simp)) (by simp))
  have hB0 : Hid (Below w.heap.size w W0) := ((below1 _ _).alloc (by simp) _).trans (hb0.mono (by simp; omega))
  clear hb0
  have HM : Hid (Masks W0) := HL.out.below hB0.out
  have hEnd : Hid (∀ W, Below W0.heap.size W0 W → Below w.heap.size w W) := fun W h => hB0.out.trans (h.mono hB0.out.size)
  clear hB0 HL
  have fp := CP.out _ (Below.refl _ _)
  go_wp2_with fail
  go_at_call 8
  refine (cells_of _ HM.out _ _).mono ?_
  rintro z w1 ⟨rfl, hE⟩
  rw [hc.out, he.out]
  replace fp := CP.out _ hE
  go_wp2_with fail
  go_at_call 9
  refine (ref_cell _ _ _).mono ?_
  rintro z w2 ⟨rfl, hb2⟩
  replace hE := below_on hE hb2
  clear hb2 fp CP
  rw [hc.out, he.out]
  go_wp2_with fail
  go_at_call 10
  refine (cells_rect _ (HM.out.below hE) _).mono ?_
  rintro z w3 ⟨rfl, hb3⟩
  replace hE := below_on hE hb3
  clear hb3
  rw [hp.out, hq.out]
  go_wp2_with fail
  go_at_call 11
  refine (ref_rect _ _).mono ?_
  rintro z w4 ⟨rfl, hb4⟩
  have k1 : Hid (w4.heap[w3.heap.size]? = some (ro p0 p1 p2 p3)) := var_on hb4 (new_at _ _ _ rfl) (by simp)
  replace hE := below_on (hE.alloc hE.size _) hb4
  clear hb4
  rw [hp.out, hq.out]
  go_wp2_with fail
  have k2 : Hid ((w4.alloc (ro p0 p1 p2 p3)).heap[w3.heap.size]? = some (ro p0 p1 p2 p3)) := old_at k1.out _
  have k3 : Hid ((w4.alloc (ro p0 p1 p2 p3)).heap[w4.heap.size]? = some (ro p0 p1 p2 p3)) := new_at _ _ _ rfl
  replace hE := hE.alloc hE.size (ro p0 p1 p2 p3)
  obtain ⟨W1, hW1⟩ : ∃ W1, w4.alloc (ro p0 p1 p2 p3) = W1 := ⟨_, rfl⟩
  rw [hW1] at k2 k3 hE ⊢
  clear hW1 k1
  have CX : Hid (∀ W, Below W1.heap.size W1 W → W.cell? ⟨w3.heap.size, 0, none⟩ = some (.int .i64 p0) ∧ W.cell? ⟨w3.heap.size, 1, none⟩ = some (.int .i64 p1) ∧ W.cell? ⟨w3.heap.size, 2, none⟩ = some (.int .i64 p2) ∧ W.cell? ⟨w3.heap.size, 3, none⟩ = some (.int .i64 p3) ∧ w3.heap.size < W.heap.size) := cells4 k2.out
  have CY : Hid (∀ W, Below W1.heap.size W1 W → W.cell? ⟨w4.heap.size, 0, none⟩ = some (.int .i64 p0) ∧ W.cell? ⟨w4.heap.size, 1, none⟩ = some (.int .i64 p1) ∧ W.cell? ⟨w4.heap.size, 2, none⟩ = some (.int .i64 p2) ∧ W.cell? ⟨w4.heap.size, 3, none⟩ = some (.int .i64 p3) ∧ w4.heap.size < W.heap.size) := cells4 k3.out
  clear k2 k3
  have HM1 : Hid (Masks W1) := HM.out.below hE
  have hEnd1 : Hid (∀ W, Below W1.heap.size W1 W → Below w.heap.size w W) := fun W h => hEnd.out _ (below_on hE h)
  obtain ⟨f0, f1, f2, f3, -⟩ := CR.out _ hE
  clear hE CR HM hEnd
  go_region_held3 (fun w' => w'.cell? ⟨w.heap.size + 1, 0, none⟩ = some (.int .i64 r0) ∧ w'.cell? ⟨w.heap.size + 1, 1, none⟩ = some (.int .i64 r1) ∧ w'.cell? ⟨w.heap.size + 1, 2, none⟩ = some (.int .i64 r2) ∧ w'.cell? ⟨w.heap.size + 1, 3, none⟩ = some (.int .i64 r3))
    (first | go_keep | (go_split_ands; refine ⟨?_, ?_, ?_, ?_⟩ <;> exact cell_below hbK (by assumption)))
    (first
      | (go_at_call 12; refine (cells_cover _ (HM1.out.below (Below.refl _ _).drew) _ _ _ _).mono ?_; rintro z w5 ⟨v1, rfl, ho1, hbK⟩; rw [hLc.out] at ho1; obtain ⟨g1, c1, rfl⟩ := owns_slice ho1; have hE5 := below_on (Below.refl _ _).drew hbK)
      | (go_at_call 13; refine (ref_cover _ _ _ _ _).mono ?_; rintro z w6 ⟨v2, rfl, ho2, hbK⟩; rw [hLc.out] at ho2; obtain ⟨g2, c2, rfl⟩ := owns_slice ho2; have hE6 := below_on hE5 hbK; have ho3 := owns_on ho1 hbK))
  all_goals
    clear f0 f1 f2 f3 ho1 hbK hE5
    obtain ⟨m, hm⟩ : ∃ m, L.length = m := ⟨_, rfl⟩
    rw [hm] at ho2 ho3 hlen ⊢
    have hm' : Hid (L.length = m) := hm
    have hO : Hid (w6.ownsRow _ 3 1 (.slice g1 m c1) m (vals L)) := ho3
    have hO' : Hid (w6.ownsRow _ 3 1 (.slice g2 m c2) m (vals L)) := ho2
    clear ho2 ho3 hm
    go_wp2_with fail
    go_loopw [19] (fun i wr => ∃ k : Nat, k ≤ m ∧ i = .int .i64 k ∧ Below w6.heap.size w6 wr) (fun i _ => m - (intOf i).toNat)
    case atStart => exact ⟨0, by omega, rfl, Below.refl _ _⟩
    case round =>
      obtain ⟨k, hk, rfl, hb⟩ := hrel
      by_cases hlt : k < m
      · have hlt' : (k : Int) < m := by omega
        have hlt0 : (0 : Int) ≤ (k : Int) := by omega
        obtain ⟨d, hd⟩ : ∃ d, Hid (L[k]? = some d) := ⟨_, List.getElem?_eq_getElem (by rw [hm'.out]; exact hlt)⟩
        obtain ⟨g1', rfl⟩ := owns_some hO.out (by omega)
        obtain ⟨g2', rfl⟩ := owns_some hO'.out (by omega)
        have h1 := cell_below hb (row_int hO.out hd.out hm'.out.symm)
        have h2 := cell_below hb (row_int hO'.out hd.out hm'.out.symm)
        go_wp2_with fail
        go_quiet (fail)
        go_wp2
        go_roundw
        case rel => exact ⟨k + 1, by omega, by go_num, below_drewN hb _⟩
        case measure => simp [intOf]; omega
      · have hlt' : ¬ ((k : Int) < m) := by omega
        have hE := below_on hE6 hb
        have fx := CX.out _ hE
        have fy := CY.out _ hE
        have hqq : (q == q) = true := by cases q <;> rfl
        have hss : (s == s) = true := by cases s <;> rfl
        clear hb hE6
        go_wp2_with fail
        go_at_call 14
        refine (cells_is _ _).mono ?_
        rintro z w7 ⟨rfl, rfl⟩
        rw [hq.out]
        go_wp2_with fail
        go_at_call 15
        refine (ref_is_cell _ _).mono ?_
        rintro z w7 ⟨rfl, rfl⟩
        rw [hq.out]
        clear fx fy
        go_wp2_with fail
        go_at_call 16
        refine (cells_beside _ (HM1.out.below hE) _ _).mono ?_
        rintro z w8 ⟨rfl, hb8⟩
        replace hE := below_on hE hb8
        rw [hs.out]
        go_wp2_with fail
        go_at_call 17
        refine (ref_beside _ _ _).mono ?_
        rintro z w9 ⟨rfl, hb9⟩
        replace hE := below_on hE hb9
        rw [hs.out]
        go_wp2
        go_ret
        exact ⟨rfl, hEnd1.out _ hE⟩

theorem cellTells_own : ownKnob Tryd.prog.godebug = none := by kernel_rfl
theorem cellTells_laidOut : laidOutB Tryd.prog = true := by kernel_rfl
set_option maxRecDepth 100000 in
theorem cellTells_lifted (os : Os) (started : os.Started) (H : Type) (enc : TypeId × Value → H) :
    ReturnsInHanded {} Tryd.checked os 3 .any (fun w args => (Rows.cellTellsSpec.pre enc Tryd.prog Tryd.f3 [] false w args ∧ laidMetH Tryd.prog laids w) ∧ sizedMet enc Tryd.prog Tryd.f3 (OpenSpec.ofChange Rows.cellTellsSpec) false w args) (Rows.cellTellsSpec.post enc Tryd.prog Tryd.f3 false true false false) := by
  refine returnsInHanded_of_change_and (C := Tryd.checked) (X := fun w _ => laidMetH Tryd.prog laids w) (fun _ _ _ hh h => h.of_heap hh) own_knob started (by kernel_rfl) Tryd.func3
    (ChangeSpec.witness_shaped (enc := enc) (C := Tryd.checked) (os := os) (X := fun w _ => laidMetH Tryd.prog laids w) false (World.laidAll Tryd.prog os laids) #[.agg #[.int .i64 0, .int .i64 0], .agg #[.int .i64 0, .int .i64 0, .int .i64 0, .int .i64 0], .int .i64 0, .int .i64 0] 8 rfl (World.shaped_of_ZipB (by kernel_rfl) (by kernel_rfl)) (by kernel_rfl) (by kernel_rfl) (by kernel_rfl) (door_met os _)) ?_
  intro W base args ds gs before hval0 hW _ _ hL _
  have hval : ∀ (j : Nat) t v, Tryd.f3.params[j]? = some t → args[j]? = some v → Value.okWide Tryd.prog W .any base t v := hval0
  have hW' := hW
  obtain ⟨p, q, hA0, hV, rfl, hfz, hnd⟩ := hW
  have hA : DataW.TrodAll enc Tryd.prog W 0 (fun _ => true) true Tryd.f3.params.toList args.toList ds p := hA0
  rw [Tryd.params3] at hA hval
  obtain ⟨v0, vs0, d0, ds0, p0, q0, hargs, rfl, rfl, h0, r0⟩ := trodAll_cons hA
  obtain ⟨v1, vs1, d1, ds1, p1, q1, rfl, rfl, rfl, h1, r1⟩ := trodAll_cons r0
  obtain ⟨v2, vs2, d2, ds2, p2, q2, rfl, rfl, rfl, h2, r2⟩ := trodAll_cons r1
  obtain ⟨v3, vs3, d3, ds3, p3, q3, rfl, rfl, rfl, h3, r3⟩ := trodAll_cons r2
  obtain ⟨rfl, rfl, rfl⟩ := trodAll_nil r3
  obtain rfl : args = #[v0, v1, v2, v3] := by cases args; simp_all
  obtain ⟨rfl, rfl⟩ := trodVars_none hV
  have k0 := h0
  have lt0 : ∀ x ∈ p0, x.block < W.heap.size := by obtain ⟨m, hm⟩ := k0; exact DataW.trod_lt m _ _ _ hm
  have k1 := h1
  have lt1 : ∀ x ∈ p1, x.block < W.heap.size := by obtain ⟨m, hm⟩ := k1; exact DataW.trod_lt m _ _ _ hm
  have k2 := h2
  have lt2 : ∀ x ∈ p2, x.block < W.heap.size := by obtain ⟨m, hm⟩ := k2; exact DataW.trod_lt m _ _ _ hm
  have k3 := h3
  have lt3 : ∀ x ∈ p3, x.block < W.heap.size := by obtain ⟨m, hm⟩ := k3; exact DataW.trod_lt m _ _ _ hm
  obtain ⟨c00, c01, y00, y01, n0, rfl, rfl, rfl, t00, t01⟩ := Go.Joins.open_agg2 Tryd.underlying23 (by kernel_rfl) (by kernel_rfl) (hval 0 23 v0 rfl rfl) h0
  obtain ⟨a00, e00, -, w00⟩ := DataW.trod_int Tryd.underlying3 t00
  obtain rfl : c00 = .int .i64 a00 := by simpa using e00
  obtain ⟨a01, e01, -, w01⟩ := DataW.trod_int Tryd.underlying3 t01
  obtain rfl : c01 = .int .i64 a01 := by simpa using e01
  obtain ⟨c10, c11, c12, c13, y10, y11, y12, y13, n1, rfl, rfl, rfl, t10, t11, t12, t13⟩ := Go.Joins.open_agg4 Tryd.underlying25 (by kernel_rfl) (by kernel_rfl) (hval 1 25 v1 rfl rfl) h1
  obtain ⟨a10, e10, -, w10⟩ := DataW.trod_int Tryd.underlying3 t10
  obtain rfl : c10 = .int .i64 a10 := by simpa using e10
  obtain ⟨a11, e11, -, w11⟩ := DataW.trod_int Tryd.underlying3 t11
  obtain rfl : c11 = .int .i64 a11 := by simpa using e11
  obtain ⟨a12, e12, -, w12⟩ := DataW.trod_int Tryd.underlying3 t12
  obtain rfl : c12 = .int .i64 a12 := by simpa using e12
  obtain ⟨a13, e13, -, w13⟩ := DataW.trod_int Tryd.underlying3 t13
  obtain rfl : c13 = .int .i64 a13 := by simpa using e13
  obtain ⟨a2, rfl, rfl, rfl, w2⟩ := open_int Tryd.underlying3 (hval 2 3 v2 rfl rfl) h2
  obtain ⟨a3, rfl, rfl, rfl, w3⟩ := open_int Tryd.underlying3 (hval 3 3 v3 rfl rfl) h3
  clear hA0 hval0
  refine (cellTells_walk W (of_laid hL) a00 a01 a10 a11 a12 a13 a2 w2 a3 w3).mono fun e W' ⟨he, bel⟩ => ?_
  subst he
  exact ⟨_, rfl, _, _, _, [], _, [], hW', trodAll_mk1 (shut_bool Tryd.underlying4 _), (trodAll_cons_mk (Below.trod cellTells_laidOut (by kernel_rfl) (of_decide_eq_true (by kernel_rfl)) k0 bel lt0) (trodAll_cons_mk (Below.trod cellTells_laidOut (by kernel_rfl) (of_decide_eq_true (by kernel_rfl)) k1 bel lt1) (trodAll_cons_mk (Below.trod cellTells_laidOut (by kernel_rfl) (of_decide_eq_true (by kernel_rfl)) k2 bel lt2) (trodAll_cons_mk (Below.trod cellTells_laidOut (by kernel_rfl) (of_decide_eq_true (by kernel_rfl)) k3 bel lt3) trodAll_mk0)))), rfl, bel.frame _, fun h => by cases h⟩

theorem cellTells_over : Rows.cellTellsRow.holds Tryd.pinned (OpenSpec.ofChange Rows.cellTellsSpec) :=
  OpenClaim.holds_of_wide 3 Tryd.f3 rfl rfl rfl rfl rfl rfl rfl ⟨rfl, rfl, rfl, rfl, rfl⟩ rfl rfl rfl rfl rfl (by kernel_rfl) Tryd.func3 (by kernel_rfl)
    (of_decide_eq_true (by kernel_rfl)) (by unfold Func.isWrapper; first | (rw [if_pos (by decide +kernel)]; kernel_rfl) | (rw [if_neg (by decide +kernel)]; exact ⟨rfl, rfl⟩))
    (fun os started H enc _ => cellTells_lifted os started H enc)

theorem cellTells_holds : Rows.CellTellsCardSaid :=
  Claim7.holds_tied_plain_at .later [] [.data] true (true, "538d28736f568148dde0d0d35bcae49565480ca64308aa011f2f237717ab1407") false
    cellTells_over (fun _ h => by cases h) (by kernel_rfl) (fun _ h => by cases h) cellTells_row_tie rfl ⟨rfl, rfl⟩ (by kernel_rfl) rfl
    (fun f fn hf hfn => by
      obtain rfl : f = 3 := Option.some.inj ((show Tryd.prog.funcNamed "vedette/vedettelaw5.CellTells" = some 3 by kernel_rfl).symm.trans hf) |>.symm
      obtain rfl : fn = Tryd.f3 := (Option.some.inj (Tryd.func3.symm.trans hfn)).symm
      exact ⟨by kernel_rfl, fun j t ht => by
        rw [Tryd.params3] at ht
        have hm : t ∈ [23, 25, 3, 3] := by simpa using Array.mem_of_getElem? ht
        have hall : ([23, 25, 3, 3].all fun u => !Tryd.prog.wantsStandIn u) = true := by kernel_rfl
        exact (show Tryd.prog.wantsStandIn t = false by simpa using List.all_eq_true.1 hall t hm)⟩)
    (by kernel_rfl)
#print axioms cellTells_holds
end Go.Proofs.YthhloefgncbifaaDoor
