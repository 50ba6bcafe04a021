/- CellWhole holds (tied card): each place lies in its own cell alone; whoever covers a place covers its cell; the package's table of masks starts as the program's text lays it. -/
import Derived.Test.YthhloefgncbifaaDoorKnown5
import Derived.Test.YthhloefgncbifaaDoorCellsQ
import Derived.Test.YthhloefgncbifaaDoorLaid
import Derived.Test.YthhloefgncbifaaDoorCards
import Derived.Test.YthhloefgncbifaaDoorTie
import Derived.SevenTiedAt
import Derived.ProofKit
import Derived.OpenShut
import Derived.ShutString
import Derived.ChangeOld
import Derived.Below
import Derived.SizedLaws
namespace Go.Proofs.YthhloefgncbifaaDoor
open Go.ChangeShapes Go.WideShapes Go.ChangeAt Go.RowKit
open Go.ChangeMaps (open_string shut_string)
set_option linter.unusedVariables false

set_option maxRecDepth 100000 in
set_option maxHeartbeats 2000000 in
theorem cellWhole_walk (w : World) (hL : Masks w) (x y : Int) (r0 r1 r2 r3 : Int) :
    Calls Tryd.prog 4 #[pt x y, rc r0 r1 r2 r3] w fun e w' => e = .returned (.bool true) ∧ Below w.heap.size w w' := by
  have HL : Hid (Masks w) := hL
  clear hL
  obtain ⟨c, hc⟩ : ∃ c, Hid (ofN x y = c) := ⟨_, rfl⟩
  obtain ⟨e, he⟩ : ∃ e, Hid (ofE x y = e) := ⟨_, rfl⟩
  go_enter Tryd.func4, Tryd.ntmps4
  go_wp2_with fail
  go_at_call 7
  refine (known_true _ (HL.out.below ((below1 _ _).alloc (by simp) _))).mono ?_
  rintro z W0 ⟨rfl, hb0⟩
  have CP : Hid (∀ W, Below W0.heap.size W0 W → W.cell? ⟨w.heap.size, 0, none⟩ = some (.int .i64 x) ∧ W.cell? ⟨w.heap.size, 1, none⟩ = some (.int .i64 y) ∧ w.heap.size < W.heap.size) := cells2 (var_on hb0 (old_at (new_at _ _ _ rfl) _) (by simp; omega))
  have CR : Hid (∀ W, Below W0.heap.size W0 W → W.cell? ⟨w.heap.size + 1, 0, none⟩ = some (.int .i64 r0) ∧ W.cell? ⟨w.heap.size + 1, 1, none⟩ = some (.int .i64 r1) ∧ W.cell? ⟨w.heap.size + 1, 2, none⟩ = some (.int .i64 r2) ∧ W.cell? ⟨w.heap.size + 1, 3, none⟩ = some (.int .i64 r3) ∧ w.heap.size + 1 < W.heap.size) := cells4 (var_on hb0 (new_at _ _ _ (by simp)) (by simp))
  have hB0 : Hid (Below w.heap.size w W0) := ((below1 _ _).alloc (by simp) _).trans (hb0.mono (by simp; omega))
  clear hb0
  have HM : Hid (Masks W0) := HL.out.below hB0.out
  have hEnd : Hid (∀ W, Below W0.heap.size W0 W → Below w.heap.size w W) := fun W h => hB0.out.trans (h.mono hB0.out.size)
  clear hB0 HL
  have fp := CP.out _ (Below.refl _ _)
  go_wp2_with fail
  go_at_call 8
  refine (cells_of _ HM.out _ _).mono ?_
  rintro z w1 ⟨rfl, hE⟩
  rw [hc.out, he.out]
  clear fp
  go_wp2_with fail
  go_loopw [7, 8] (fun v i wr => ∃ (k n : Nat), k ≤ 16 ∧ i = .int .i64 k ∧ Hid (n = ctN x y k) ∧ v = .int .i64 n ∧ Below W0.heap.size W0 wr) (fun _ i _ => 16 - (intOf i).toNat)
  case atStart => exact ⟨0, 0, by omega, rfl, (by show _ = _; simp [ctN]), rfl, hE⟩
  case round =>
    clear hE
    obtain ⟨k, n, hk, rfl, hn, rfl, hE⟩ := hrel
    have hn1 : n ≤ 1 := by rw [hn.out]; exact ct_le _ _ _
    by_cases hlt : k < 16
    · have hlt' : (k : Int) < 16 := by omega
      obtain ⟨p0, p1, p2, p3, hp⟩ : ∃ p0 p1 p2 p3 : Int, Hid (cellN k = ⟨p0, p1, p2, p3⟩) := ⟨_, _, _, _, rfl⟩
      go_wp2_with fail
      go_at_call 10
      refine (cells_rect_at _ (HM.out.below hE) k hlt).mono ?_
      rintro z w2 ⟨rfl, hb2⟩
      rw [hp.out]
      replace hE := below_on hE hb2
      clear hb2
      have hE' := hE.alloc hE.size (ro p0 p1 p2 p3)
      have fp := CP.out _ hE
      go_wp2_with fail
      go_at_call 18
      refine (ref_in _ _ _ _ _ _ _).mono ?_
      rintro z w3 ⟨rfl, hb3⟩
      replace hE := below_on hE' hb3
      clear hb3 hE' fp
      cases hI : inB ⟨p0, p1, p2, p3⟩ x y
      · have H : Hid (n = ctN x y (k + 1)) := hn.out.trans (ct_out hlt (by rw [hp.out]; exact hI)).symm
        clear hn
        go_wp2
        go_roundw
        case rel => exact ⟨k + 1, n, by omega, by go_num, H, rfl, hE⟩
        case measure => simp [intOf]; omega
      · have hh := ct_in hlt (by rw [hp.out]; exact hI)
        have H : Hid (n + 1 = ctN x y (k + 1)) := (congrArg (· + 1) hn.out).trans hh.1.symm
        obtain rfl : k = c := hh.2.trans hc.out
        clear hn hh
        go_wp2
        go_roundw
        case rel => exact ⟨k + 1, n + 1, by omega, by go_num, H, by go_num, hE⟩
        case measure => simp [intOf]; omega
    · have hk16 : k = 16 := by omega
      subst hk16
      clear hk hlt
      cases ho : onB x y
      · have hn0 : n = 0 := by rw [hn.out, ct_all, ho]; rfl
        have he0 : e = 14 := by rw [← he.out]; simp [ofE, ho]
        subst hn0 he0
        clear hn
        go_wp2
        go_ret
        exact ⟨rfl, hEnd.out _ hE⟩
      · have hn0 : n = 1 := by rw [hn.out, ct_all, ho]; rfl
        have he0 : e = 0 := by rw [← he.out]; simp [ofE, ho]
        subst hn0 he0
        clear hn hn1
        have fr := CR.out _ hE
        go_wp2_with fail
        go_at_call 12
        refine (cells_cover _ (HM.out.below hE) _ _ _ _).mono ?_
        rintro z w2 ⟨v, rfl, hown, hb2⟩
        replace hE := below_on hE hb2
        clear hb2 fr
        obtain ⟨L, hLc⟩ : ∃ L, Hid (coverL ⟨r0, r1, r2, r3⟩ 16 = L) := ⟨_, rfl⟩
        rw [hLc.out] at hown
        have hlen : L.length ≤ 16 := by rw [← hLc.out]; exact coverL_le _ _
        obtain ⟨p, cap, rfl⟩ := owns_slice hown
        obtain ⟨m, hm⟩ : ∃ m, L.length = m := ⟨_, rfl⟩
        rw [hm] at hown hlen ⊢
        have hm' : Hid (L.length = m) := hm
        clear hm
        have hO : Hid (w2.ownsRow _ 3 1 (.slice p m cap) m (vals L)) := hown
        clear hown
        go_wp2_with fail
        go_loop [12, 13] (fun v i => ∃ (k : Nat) (b : Bool), k ≤ m ∧ i = .int .i64 k ∧ Hid (b = hasL L c k) ∧ v = .bool b) (fun _ i => m - (intOf i).toNat)
        case atStart => exact ⟨0, false, by omega, rfl, rfl, rfl⟩
        case round =>
          obtain ⟨k, b, hk, rfl, hbk, rfl⟩ := hrel
          by_cases hlt : k < m
          · have hlt' : (k : Int) < m := by omega
            obtain ⟨d, hd⟩ : ∃ d, Hid (L[k]? = some d) := ⟨_, List.getElem?_eq_getElem (by rw [hm'.out]; exact hlt)⟩
            obtain ⟨g, rfl⟩ := owns_some hO.out (by omega)
            have hcell := row_int hO.out hd.out hm'.out.symm
            have hst := hasL_step (c := c) hd.out
            cases b
            · cases hdc : ((d : Int) == (c : Int))
              · have H : Hid (false = hasL L c (k + 1)) := by
                  show _ = _
                  rw [hst, ← hbk.out]
                  simp at hdc ⊢
                  omega
                clear hst hbk
                go_wp2
                exact ⟨⟨k + 1, false, by omega, by go_num, H, rfl⟩, by simp [intOf]; omega⟩
              · have H : Hid (true = hasL L c (k + 1)) := by
                  show _ = _
                  rw [hst, ← hbk.out]
                  simp at hdc ⊢
                  omega
                clear hst hbk
                go_wp2
                exact ⟨⟨k + 1, true, by omega, by go_num, H, rfl⟩, by simp [intOf]; omega⟩
            · have H : Hid (true = hasL L c (k + 1)) := by
                show _ = _
                rw [hst, ← hbk.out]
                rfl
              clear hst hbk
              go_wp2
              exact ⟨⟨k + 1, true, by omega, by go_num, H, rfl⟩, by simp [intOf]; omega⟩
          · obtain rfl : k = m := by omega
            have hb1 : Hid (inB ⟨r0, r1, r2, r3⟩ x y = true → b = true) := fun h => by
              rw [hbk.out, ← hm'.out, hasL_all, ← hLc.out, ← hc.out]
              simp [has_in ho h]
            clear hbk
            have fr := CR.out _ hE
            have fp := CP.out _ hE
            go_wp2_with fail
            go_at_call 18
            refine (ref_in _ _ _ _ _ _ _).mono ?_
            rintro z w3 ⟨rfl, hb3⟩
            replace hE := below_on hE hb3
            clear fr fp hb3
            cases hI : inB ⟨r0, r1, r2, r3⟩ x y
            · go_wp2
              go_ret
              exact ⟨rfl, hEnd.out _ hE⟩
            · obtain rfl := hb1.out hI
              go_wp2
              go_ret
              exact ⟨rfl, hEnd.out _ hE⟩

theorem cellWhole_own : ownKnob Tryd.prog.godebug = none := by kernel_rfl
theorem cellWhole_laidOut : laidOutB Tryd.prog = true := by kernel_rfl
set_option maxRecDepth 100000 in
theorem cellWhole_lifted (os : Os) (started : os.Started) (H : Type) (enc : TypeId × Value → H) :
    ReturnsInHanded {} Tryd.checked os 4 .any (fun w args => (Rows.cellWholeSpec.pre enc Tryd.prog Tryd.f4 [] false w args ∧ laidMetH Tryd.prog laids w) ∧ sizedMet enc Tryd.prog Tryd.f4 (OpenSpec.ofChange Rows.cellWholeSpec) false w args) (Rows.cellWholeSpec.post enc Tryd.prog Tryd.f4 false true false false) := by
  refine returnsInHanded_of_change_and (C := Tryd.checked) (X := fun w _ => laidMetH Tryd.prog laids w) (fun _ _ _ hh h => h.of_heap hh) own_knob started (by kernel_rfl) Tryd.func4
    (ChangeSpec.witness_shaped (enc := enc) (C := Tryd.checked) (os := os) (X := fun w _ => laidMetH Tryd.prog laids w) false (World.laidAll Tryd.prog os laids) #[.agg #[.int .i64 0, .int .i64 0], .agg #[.int .i64 0, .int .i64 0, .int .i64 0, .int .i64 0]] 8 rfl (World.shaped_of_ZipB (by kernel_rfl) (by kernel_rfl)) (by kernel_rfl) (by kernel_rfl) (by kernel_rfl) (door_met os _)) ?_
  intro W base args ds gs before hval0 hW _ _ hL _
  have hval : ∀ (j : Nat) t v, Tryd.f4.params[j]? = some t → args[j]? = some v → Value.okWide Tryd.prog W .any base t v := hval0
  have hW' := hW
  obtain ⟨p, q, hA0, hV, rfl, hfz, hnd⟩ := hW
  have hA : DataW.TrodAll enc Tryd.prog W 0 (fun _ => true) true Tryd.f4.params.toList args.toList ds p := hA0
  rw [Tryd.params4] at hA hval
  obtain ⟨v0, vs0, d0, ds0, p0, q0, hargs, rfl, rfl, h0, r0⟩ := trodAll_cons hA
  obtain ⟨v1, vs1, d1, ds1, p1, q1, rfl, rfl, rfl, h1, r1⟩ := trodAll_cons r0
  obtain ⟨rfl, rfl, rfl⟩ := trodAll_nil r1
  obtain rfl : args = #[v0, v1] := by cases args; simp_all
  obtain ⟨rfl, rfl⟩ := trodVars_none hV
  have k0 := h0
  have lt0 : ∀ x ∈ p0, x.block < W.heap.size := by obtain ⟨m, hm⟩ := k0; exact DataW.trod_lt m _ _ _ hm
  have k1 := h1
  have lt1 : ∀ x ∈ p1, x.block < W.heap.size := by obtain ⟨m, hm⟩ := k1; exact DataW.trod_lt m _ _ _ hm
  obtain ⟨c00, c01, y00, y01, n0, rfl, rfl, rfl, t00, t01⟩ := Go.Joins.open_agg2 Tryd.underlying23 (by kernel_rfl) (by kernel_rfl) (hval 0 23 v0 rfl rfl) h0
  obtain ⟨a00, e00, -, w00⟩ := DataW.trod_int Tryd.underlying3 t00
  obtain rfl : c00 = .int .i64 a00 := by simpa using e00
  obtain ⟨a01, e01, -, w01⟩ := DataW.trod_int Tryd.underlying3 t01
  obtain rfl : c01 = .int .i64 a01 := by simpa using e01
  obtain ⟨c10, c11, c12, c13, y10, y11, y12, y13, n1, rfl, rfl, rfl, t10, t11, t12, t13⟩ := Go.Joins.open_agg4 Tryd.underlying25 (by kernel_rfl) (by kernel_rfl) (hval 1 25 v1 rfl rfl) h1
  obtain ⟨a10, e10, -, w10⟩ := DataW.trod_int Tryd.underlying3 t10
  obtain rfl : c10 = .int .i64 a10 := by simpa using e10
  obtain ⟨a11, e11, -, w11⟩ := DataW.trod_int Tryd.underlying3 t11
  obtain rfl : c11 = .int .i64 a11 := by simpa using e11
  obtain ⟨a12, e12, -, w12⟩ := DataW.trod_int Tryd.underlying3 t12
  obtain rfl : c12 = .int .i64 a12 := by simpa using e12
  obtain ⟨a13, e13, -, w13⟩ := DataW.trod_int Tryd.underlying3 t13
  obtain rfl : c13 = .int .i64 a13 := by simpa using e13
  clear hA0 hval0
  refine (cellWhole_walk W (of_laid hL) a00 a01 a10 a11 a12 a13).mono fun e W' ⟨he, bel⟩ => ?_
  subst he
  exact ⟨_, rfl, _, _, _, [], _, [], hW', trodAll_mk1 (shut_bool Tryd.underlying4 _), (trodAll_cons_mk (Below.trod cellWhole_laidOut (by kernel_rfl) (of_decide_eq_true (by kernel_rfl)) k0 bel lt0) (trodAll_cons_mk (Below.trod cellWhole_laidOut (by kernel_rfl) (of_decide_eq_true (by kernel_rfl)) k1 bel lt1) trodAll_mk0)), rfl, bel.frame _, fun h => by cases h⟩

theorem cellWhole_over : Rows.cellWholeRow.holds Tryd.pinned (OpenSpec.ofChange Rows.cellWholeSpec) :=
  OpenClaim.holds_of_wide 4 Tryd.f4 rfl rfl rfl rfl rfl rfl rfl ⟨rfl, rfl, rfl, rfl, rfl⟩ rfl rfl rfl rfl rfl (by kernel_rfl) Tryd.func4 (by kernel_rfl)
    (of_decide_eq_true (by kernel_rfl)) (by unfold Func.isWrapper; first | (rw [if_pos (by decide +kernel)]; kernel_rfl) | (rw [if_neg (by decide +kernel)]; exact ⟨rfl, rfl⟩))
    (fun os started H enc _ => cellWhole_lifted os started H enc)

theorem cellWhole_holds : Rows.CellWholeCardSaid :=
  Claim7.holds_tied_plain_at .later [] [.data] true (true, "538d28736f568148dde0d0d35bcae49565480ca64308aa011f2f237717ab1407") false
    cellWhole_over (fun _ h => by cases h) (by kernel_rfl) (fun _ h => by cases h) cellWhole_row_tie rfl ⟨rfl, rfl⟩ (by kernel_rfl) rfl
    (fun f fn hf hfn => by
      obtain rfl : f = 4 := Option.some.inj ((show Tryd.prog.funcNamed "vedette/vedettelaw5.CellWhole" = some 4 by kernel_rfl).symm.trans hf) |>.symm
      obtain rfl : fn = Tryd.f4 := (Option.some.inj (Tryd.func4.symm.trans hfn)).symm
      exact ⟨by kernel_rfl, fun j t ht => by
        rw [Tryd.params4] at ht
        have hm : t ∈ [23, 25] := by simpa using Array.mem_of_getElem? ht
        have hall : ([23, 25].all fun u => !Tryd.prog.wantsStandIn u) = true := by kernel_rfl
        exact (show Tryd.prog.wantsStandIn t = false by simpa using List.all_eq_true.1 hall t hm)⟩)
    (by kernel_rfl)
#print axioms cellWhole_holds
end Go.Proofs.YthhloefgncbifaaDoor
