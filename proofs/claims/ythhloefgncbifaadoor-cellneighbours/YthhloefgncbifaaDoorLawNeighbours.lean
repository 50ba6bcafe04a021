/- CellNeighbours holds (tied card): beside goes both ways, three to eight, a step leads to the cell itself or one beside it; the package's table of masks starts as the program's text lays it. -/
import Derived.Test.YthhloefgncbifaaDoorKnown5
import Derived.Test.YthhloefgncbifaaDoorCellsQ
import Derived.Test.YthhloefgncbifaaDoorLaid
import Derived.Test.YthhloefgncbifaaDoorCards
import Derived.Test.YthhloefgncbifaaDoorTie
import Derived.SevenTiedAt
import Derived.ProofKit
import Derived.OpenShut
import Derived.ShutString
import Derived.ChangeOld
import Derived.Below
import Derived.SizedLaws
namespace Go.Proofs.YthhloefgncbifaaDoor
open Go.ChangeShapes Go.WideShapes Go.ChangeAt Go.RowKit
open Go.ChangeMaps (open_string shut_string)
set_option linter.unusedVariables false

set_option maxRecDepth 100000 in
set_option maxHeartbeats 2000000 in
theorem cellNeighbours_walk (w : World) (hL : Masks w) (a0 : Int) (w0 : (Lit.int .u8 a0).wf = true) (a1 : Int) (w1 : (Lit.int .u8 a1).wf = true) (a20 a21 : Int) (a3 : Int) (w3 : (Lit.int .u8 a3).wf = true) (a4 : Int) (w4 : (Lit.int .u8 a4).wf = true) :
    Calls Tryd.prog 5 #[.int .u8 a0, .int .u8 a1, pt a20 a21, .int .u8 a3, .int .u8 a4] w fun e w' => e = .returned (.bool true) ∧ Below w.heap.size w w' := by
  obtain ⟨a, rfl, ha⟩ := nat_u8 w0
  obtain ⟨b, rfl, hb⟩ := nat_u8 w1
  obtain ⟨s, rfl, hs⟩ := nat_u8 w3
  obtain ⟨t, rfl, ht⟩ := nat_u8 w4
  clear w0 w1 w3 w4
  have HL : Hid (Masks w) := hL
  clear hL
  obtain ⟨x, hx⟩ : ∃ x : Nat, Hid (x = a % 16) := ⟨_, rfl⟩
  have hx16 : x < 16 := by have := hx.out; omega
  have hx0 : (a : Int) % 16 = x := by have := hx.out; omega
  obtain ⟨y, hy⟩ : ∃ y : Nat, Hid (y = b % 16) := ⟨_, rfl⟩
  have hy16 : y < 16 := by have := hy.out; omega
  have hy0 : (b : Int) % 16 = y := by have := hy.out; omega
  obtain ⟨d, hd⟩ : ∃ d : Nat, Hid (d = s % 3) := ⟨_, rfl⟩
  have hd3 : d < 3 := by have := hd.out; omega
  have hd0 : (s : Int) % 3 = d := by have := hd.out; omega
  obtain ⟨f, hf⟩ : ∃ f : Nat, Hid (f = t % 3) := ⟨_, rfl⟩
  have hf3 : f < 3 := by have := hf.out; omega
  have hf0 : (t : Int) % 3 = f := by have := hf.out; omega
  clear hx hy hd hf
  go_enter Tryd.func5, Tryd.ntmps5
  go_wp2_with fail
  go_at_call 7
  refine (known_true _ (HL.out.below (below1 _ _))).mono ?_
  rintro z W0 ⟨rfl, hb0⟩
  have CA : Hid (∀ W, Below W0.heap.size W0 W → W.cell? ⟨w.heap.size, 0, none⟩ = some (.int .i64 a20) ∧ W.cell? ⟨w.heap.size, 1, none⟩ = some (.int .i64 a21) ∧ w.heap.size < W.heap.size) := cells2 (var_on hb0 (new_at _ _ _ rfl) (by simp))
  have hB0 : Hid (Below w.heap.size w W0) := below_on (below1 _ _) hb0
  clear hb0
  have HM : Hid (Masks W0) := HL.out.below hB0.out
  go_wp2_with fail
  clear hx0 hy0
  go_loopw [13, 14] (fun v i wr => ∃ (k n : Nat), k ≤ 16 ∧ i = .int .i64 k ∧ Hid (n = nbN x k) ∧ v = .int .i64 n ∧ Below W0.heap.size W0 wr) (fun _ i _ => 16 - (intOf i).toNat)
  case atStart => exact ⟨0, 0, by omega, rfl, rfl, rfl, Below.refl _ _⟩
  case round =>
    obtain ⟨k, n, hk, rfl, hn, rfl, hE⟩ := hrel
    have hn16 : n ≤ 16 := by rw [hn.out]; exact Nat.le_trans (nb_le _ _) hk
    by_cases hlt : k < 16
    · have hlt' : (k : Int) < 16 := by omega
      go_wp2_with fail
      go_at_call 16
      refine (cells_beside _ (HM.out.below hE) _ _).mono ?_
      rintro z w1 ⟨rfl, hb1⟩
      replace hE := below_on hE hb1
      clear hb1
      cases hq : besB x k
      · go_wp2
        go_roundw
        case rel => exact ⟨k + 1, n, by omega, by go_num, hn.out.trans (nb_skip hq).symm, rfl, hE⟩
        case measure => simp [intOf]; omega
      · go_wp2
        go_roundw
        case rel => exact ⟨k + 1, n + 1, by omega, by go_num, (congrArg (· + 1) hn.out).trans (nb_add hq).symm, by go_num, hE⟩
        case measure => simp [intOf]; omega
    · have hk16 : k = 16 := by omega
      subst hk16
      have hn3 : n = 3 ∨ n = 5 ∨ n = 8 := by rw [hn.out]; exact nb_all x hx16
      clear hn hlt hk
      have hN : Hid (((n : Int) == 3) = true ∨ ((n : Int) == 3) = false ∧ ((n : Int) == 5) = true ∨ ((n : Int) == 3) = false ∧ ((n : Int) == 5) = false ∧ ((n : Int) == 8) = true) := by
        show _ ∨ _
        rcases hn3 with rfl | rfl | rfl <;> decide
      clear hn3
      have hsy : Hid (∀ W, Masks W → Calls Tryd.prog 16 #[.int .i64 (y : Nat), .int .i64 (x : Nat)] W fun e w' => e = .returned (.bool (besB x y)) ∧ Below W.heap.size W w') := fun W h => by
        rw [bes_symm]; exact cells_beside W h _ _
      obtain ⟨q, hq⟩ : ∃ q, Hid (besB x y = q) := ⟨_, rfl⟩
      have hqq : (q == q) = true := by cases q <;> rfl
      cases ho : onB a20 a21
      · have e1 : Hid (ofN a20 a21 = 0 ∧ ofE a20 a21 = 14) := by
          show _ ∧ _
          simp [ofN, ofE, ho]
        have hk : (a20 < 0) ∨ (0 ≤ a20 ∧ 64 ≤ a20) ∨ (0 ≤ a20 ∧ a20 < 64 ∧ a21 < 0) ∨ (0 ≤ a20 ∧ a20 < 64 ∧ 0 ≤ a21 ∧ 64 ≤ a21) := by
          have := mt (onB_iff a20 a21).2 (by simp [ho])
          omega
        have hEnd : Hid (∀ W, Below W0.heap.size W0 W → Below w.heap.size w W) := fun W h => hB0.out.trans (h.mono hB0.out.size)
        have fa := CA.out _ hE
        clear ho
        rcases hk with hk | ⟨h1, hk⟩ | ⟨h1, h2, hk⟩ | ⟨h1, h2, h3, hk⟩
        all_goals
          go_wp2_with fail
          go_at_call 8
          refine (cells_of _ ((HM.out.below hE).below (below1 _ _)) _ _).mono ?_
          rintro z w1 ⟨rfl, hb1⟩
          have k1 : Hid (w1.heap[wr.heap.size]? = some (.cells #[.int .i64 a20, .int .i64 a21] 23 (0, 0))) := var_on hb1 (new_at _ _ _ rfl) (by simp)
          replace hE := below_on (hE.alloc hE.size _) hb1
          clear hb1 fa
          rw [e1.out.1, e1.out.2]
          have fa := var2 k1.out
          go_wp2_with fail
          go_at_call 8
          refine (cells_of _ (HM.out.below hE) _ _).mono ?_
          rintro z w2 ⟨rfl, hb2⟩
          replace hE := below_on hE hb2
          clear hb2 fa k1
          rw [e1.out.1, e1.out.2]
          go_wp2_with fail
          go_at_call 16
          refine (cells_beside _ (HM.out.below hE) _ _).mono ?_
          rintro z w3 ⟨rfl, hb3⟩
          replace hE := below_on hE hb3
          clear hb3
          rw [hq.out]
          go_wp2_with fail
          go_at_call 16
          refine (hsy.out _ (HM.out.below hE)).mono ?_
          rintro z w4 ⟨rfl, hb4⟩
          replace hE := below_on hE hb4
          clear hb4 hsy
          rw [hq.out]
          clear hq CA
          have hN' := hN.out
          clear hN
          rcases hN' with h3 | ⟨h3, h5⟩ | ⟨h3, h5, h8⟩ <;> (go_wp2; go_ret; exact ⟨rfl, hEnd.out _ hE⟩)
      · have hk := (onB_iff _ _).1 ho
        obtain ⟨h1, h2, h3, h4⟩ := hk
        obtain ⟨x1, rfl⟩ : ∃ n : Nat, a20 = n := ⟨a20.toNat, by omega⟩
        obtain ⟨y1, rfl⟩ : ∃ n : Nat, a21 = n := ⟨a21.toNat, by omega⟩
        have e1 : Hid (ofE x1 y1 = 0) := by
          show _ = _
          simp [ofE, ho]
        obtain ⟨c, hc⟩ : ∃ c, Hid (ofN x1 y1 = c) := ⟨_, rfl⟩
        obtain ⟨g, hg⟩ : ∃ g, Hid (ofN (x1 + d - 1) (y1 + f - 1) = g) := ⟨_, rfl⟩
        have hst : onB (x1 + d - 1) (y1 + f - 1) = true → c = g ∨ besB c g = true := fun h => by
          rw [← hc.out, ← hg.out]; exact step_near ho h (by omega) (by omega) (by omega) (by omega)
        obtain ⟨r, hr⟩ : ∃ r, Hid (ofE (x1 + d - 1) (y1 + f - 1) = r) := ⟨_, rfl⟩
        have hr0 : (r = 14) ∨ (r = 0 ∧ c = g) ∨ (r = 0 ∧ (((c : Int) == (g : Int)) = false ∧ besB c g = true)) := by
          cases h : onB (x1 + d - 1) (y1 + f - 1)
          · left; rw [← hr.out]; simp [ofE, h]
          · right
            have h0 : r = 0 := by rw [← hr.out]; simp [ofE, h]
            by_cases hcg : c = g
            · exact .inl ⟨h0, hcg⟩
            · exact .inr ⟨h0, by simp; omega, (hst h).resolve_left hcg⟩
        clear hst
        have fa := CA.out _ hE
        go_wp2_with fail
        go_at_call 8
        refine (cells_of _ ((HM.out.below hE).below (below1 _ _)) _ _).mono ?_
        rintro z w1 ⟨rfl, hb1⟩
        have k1 : Hid (w1.heap[wr.heap.size]? = some (.cells #[.int .i64 (x1 + d - 1), .int .i64 (y1 + f - 1)] 23 (0, 0))) := var_on hb1 (new_at _ _ _ rfl) (by simp)
        replace hE := below_on (hE.alloc hE.size _) hb1
        clear hb1 fa
        rw [hc.out, e1.out]
        have fa := var2 k1.out
        go_wp2_with fail
        go_at_call 8
        refine (cells_of _ (HM.out.below hE) _ _).mono ?_
        rintro z w2 ⟨rfl, hb2⟩
        replace hE := below_on hE hb2
        clear hb2 fa k1
        rw [hg.out, hr.out]
        go_wp2_with fail
        go_at_call 16
        refine (cells_beside _ (HM.out.below hE) _ _).mono ?_
        rintro z w3 ⟨rfl, hb3⟩
        replace hE := below_on hE hb3
        clear hb3
        rw [hq.out]
        go_wp2_with fail
        go_at_call 16
        refine (hsy.out _ (HM.out.below hE)).mono ?_
        rintro z w4 ⟨rfl, hb4⟩
        replace hE := below_on hE hb4
        clear hb4 hsy
        rw [hq.out]
        have hEnd : Hid (∀ W, Below W0.heap.size W0 W → Below w.heap.size w W) := fun W h => hB0.out.trans (h.mono hB0.out.size)
        clear hq CA
        have hN' := hN.out
        clear hN
        rcases hN' with h3 | ⟨h3, h5⟩ | ⟨h3, h5, h8⟩ <;> (rcases hr0 with rfl | ⟨rfl, rfl⟩ | ⟨rfl, hcg, hbs⟩)
        all_goals try (go_wp2; go_ret; exact ⟨rfl, hEnd.out _ hE⟩)
        all_goals (go_wp2_with fail; go_at_call 16; refine (cells_beside _ (HM.out.below hE) _ _).mono ?_; rintro z w5 ⟨rfl, hb5⟩; rw [hbs]; replace hE := below_on hE hb5; go_wp2; go_ret; exact ⟨rfl, hEnd.out _ hE⟩)

theorem cellNeighbours_own : ownKnob Tryd.prog.godebug = none := by kernel_rfl
theorem cellNeighbours_laidOut : laidOutB Tryd.prog = true := by kernel_rfl
set_option maxRecDepth 100000 in
theorem cellNeighbours_lifted (os : Os) (started : os.Started) (H : Type) (enc : TypeId × Value → H) :
    ReturnsInHanded {} Tryd.checked os 5 .any (fun w args => (Rows.cellNeighboursSpec.pre enc Tryd.prog Tryd.f5 [] false w args ∧ laidMetH Tryd.prog laids w) ∧ sizedMet enc Tryd.prog Tryd.f5 (OpenSpec.ofChange Rows.cellNeighboursSpec) false w args) (Rows.cellNeighboursSpec.post enc Tryd.prog Tryd.f5 false true false false) := by
  refine returnsInHanded_of_change_and (C := Tryd.checked) (X := fun w _ => laidMetH Tryd.prog laids w) (fun _ _ _ hh h => h.of_heap hh) own_knob started (by kernel_rfl) Tryd.func5
    (ChangeSpec.witness_shaped (enc := enc) (C := Tryd.checked) (os := os) (X := fun w _ => laidMetH Tryd.prog laids w) false (World.laidAll Tryd.prog os laids) #[.int .u8 0, .int .u8 0, .agg #[.int .i64 0, .int .i64 0], .int .u8 0, .int .u8 0] 8 rfl (World.shaped_of_ZipB (by kernel_rfl) (by kernel_rfl)) (by kernel_rfl) (by kernel_rfl) (by kernel_rfl) (door_met os _)) ?_
  intro W base args ds gs before hval0 hW _ _ hL _
  have hval : ∀ (j : Nat) t v, Tryd.f5.params[j]? = some t → args[j]? = some v → Value.okWide Tryd.prog W .any base t v := hval0
  have hW' := hW
  obtain ⟨p, q, hA0, hV, rfl, hfz, hnd⟩ := hW
  have hA : DataW.TrodAll enc Tryd.prog W 0 (fun _ => true) true Tryd.f5.params.toList args.toList ds p := hA0
  rw [Tryd.params5] at hA hval
  obtain ⟨v0, vs0, d0, ds0, p0, q0, hargs, rfl, rfl, h0, r0⟩ := trodAll_cons hA
  obtain ⟨v1, vs1, d1, ds1, p1, q1, rfl, rfl, rfl, h1, r1⟩ := trodAll_cons r0
  obtain ⟨v2, vs2, d2, ds2, p2, q2, rfl, rfl, rfl, h2, r2⟩ := trodAll_cons r1
  obtain ⟨v3, vs3, d3, ds3, p3, q3, rfl, rfl, rfl, h3, r3⟩ := trodAll_cons r2
  obtain ⟨v4, vs4, d4, ds4, p4, q4, rfl, rfl, rfl, h4, r4⟩ := trodAll_cons r3
  obtain ⟨rfl, rfl, rfl⟩ := trodAll_nil r4
  obtain rfl : args = #[v0, v1, v2, v3, v4] := by cases args; simp_all
  obtain ⟨rfl, rfl⟩ := trodVars_none hV
  have k0 := h0
  have lt0 : ∀ x ∈ p0, x.block < W.heap.size := by obtain ⟨m, hm⟩ := k0; exact DataW.trod_lt m _ _ _ hm
  have k1 := h1
  have lt1 : ∀ x ∈ p1, x.block < W.heap.size := by obtain ⟨m, hm⟩ := k1; exact DataW.trod_lt m _ _ _ hm
  have k2 := h2
  have lt2 : ∀ x ∈ p2, x.block < W.heap.size := by obtain ⟨m, hm⟩ := k2; exact DataW.trod_lt m _ _ _ hm
  have k3 := h3
  have lt3 : ∀ x ∈ p3, x.block < W.heap.size := by obtain ⟨m, hm⟩ := k3; exact DataW.trod_lt m _ _ _ hm
  have k4 := h4
  have lt4 : ∀ x ∈ p4, x.block < W.heap.size := by obtain ⟨m, hm⟩ := k4; exact DataW.trod_lt m _ _ _ hm
  obtain ⟨a0, rfl, rfl, rfl, w0⟩ := open_int Tryd.underlying5 (hval 0 5 v0 rfl rfl) h0
  obtain ⟨a1, rfl, rfl, rfl, w1⟩ := open_int Tryd.underlying5 (hval 1 5 v1 rfl rfl) h1
  obtain ⟨c20, c21, y20, y21, n2, rfl, rfl, rfl, t20, t21⟩ := Go.Joins.open_agg2 Tryd.underlying23 (by kernel_rfl) (by kernel_rfl) (hval 2 23 v2 rfl rfl) h2
  obtain ⟨a20, e20, -, w20⟩ := DataW.trod_int Tryd.underlying3 t20
  obtain rfl : c20 = .int .i64 a20 := by simpa using e20
  obtain ⟨a21, e21, -, w21⟩ := DataW.trod_int Tryd.underlying3 t21
  obtain rfl : c21 = .int .i64 a21 := by simpa using e21
  obtain ⟨a3, rfl, rfl, rfl, w3⟩ := open_int Tryd.underlying5 (hval 3 5 v3 rfl rfl) h3
  obtain ⟨a4, rfl, rfl, rfl, w4⟩ := open_int Tryd.underlying5 (hval 4 5 v4 rfl rfl) h4
  clear hA0 hval0
  refine (cellNeighbours_walk W (of_laid hL) a0 w0 a1 w1 a20 a21 a3 w3 a4 w4).mono fun e W' ⟨he, bel⟩ => ?_
  subst he
  exact ⟨_, rfl, _, _, _, [], _, [], hW', trodAll_mk1 (shut_bool Tryd.underlying4 _), (trodAll_cons_mk (Below.trod cellNeighbours_laidOut (by kernel_rfl) (of_decide_eq_true (by kernel_rfl)) k0 bel lt0) (trodAll_cons_mk (Below.trod cellNeighbours_laidOut (by kernel_rfl) (of_decide_eq_true (by kernel_rfl)) k1 bel lt1) (trodAll_cons_mk (Below.trod cellNeighbours_laidOut (by kernel_rfl) (of_decide_eq_true (by kernel_rfl)) k2 bel lt2) (trodAll_cons_mk (Below.trod cellNeighbours_laidOut (by kernel_rfl) (of_decide_eq_true (by kernel_rfl)) k3 bel lt3) (trodAll_cons_mk (Below.trod cellNeighbours_laidOut (by kernel_rfl) (of_decide_eq_true (by kernel_rfl)) k4 bel lt4) trodAll_mk0))))), rfl, bel.frame _, fun h => by cases h⟩

theorem cellNeighbours_over : Rows.cellNeighboursRow.holds Tryd.pinned (OpenSpec.ofChange Rows.cellNeighboursSpec) :=
  OpenClaim.holds_of_wide 5 Tryd.f5 rfl rfl rfl rfl rfl rfl rfl ⟨rfl, rfl, rfl, rfl, rfl⟩ rfl rfl rfl rfl rfl (by kernel_rfl) Tryd.func5 (by kernel_rfl)
    (of_decide_eq_true (by kernel_rfl)) (by unfold Func.isWrapper; first | (rw [if_pos (by decide +kernel)]; kernel_rfl) | (rw [if_neg (by decide +kernel)]; exact ⟨rfl, rfl⟩))
    (fun os started H enc _ => cellNeighbours_lifted os started H enc)

theorem cellNeighbours_holds : Rows.CellNeighboursCardSaid :=
  Claim7.holds_tied_plain_at .later [] [.data] true (true, "538d28736f568148dde0d0d35bcae49565480ca64308aa011f2f237717ab1407") false
    cellNeighbours_over (fun _ h => by cases h) (by kernel_rfl) (fun _ h => by cases h) cellNeighbours_row_tie rfl ⟨rfl, rfl⟩ (by kernel_rfl) rfl
    (fun f fn hf hfn => by
      obtain rfl : f = 5 := Option.some.inj ((show Tryd.prog.funcNamed "vedette/vedettelaw5.CellNeighbours" = some 5 by kernel_rfl).symm.trans hf) |>.symm
      obtain rfl : fn = Tryd.f5 := (Option.some.inj (Tryd.func5.symm.trans hfn)).symm
      exact ⟨by kernel_rfl, fun j t ht => by
        rw [Tryd.params5] at ht
        have hm : t ∈ [5, 5, 23, 5, 5] := by simpa using Array.mem_of_getElem? ht
        have hall : ([5, 5, 23, 5, 5].all fun u => !Tryd.prog.wantsStandIn u) = true := by kernel_rfl
        exact (show Tryd.prog.wantsStandIn t = false by simpa using List.all_eq_true.1 hall t hm)⟩)
    (by kernel_rfl)
#print axioms cellNeighbours_holds
end Go.Proofs.YthhloefgncbifaaDoor
