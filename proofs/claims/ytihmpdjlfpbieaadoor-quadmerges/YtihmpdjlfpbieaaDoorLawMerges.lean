/- QuadMerges holds (tied card): what was put and dropped leaves the tree as shallow as it was; the package's table of masks starts as the program's text lays it. -/
import Derived.Test.YtihmpdjlfpbieaaDoorKnown8
import Derived.Test.YtihmpdjlfpbieaaDoorQdN
import Derived.Test.YtihmpdjlfpbieaaDoorQdO
import Derived.Test.YtihmpdjlfpbieaaDoorLaid
import Derived.Test.YtihmpdjlfpbieaaDoorCards
import Derived.Test.YtihmpdjlfpbieaaDoorTie
import Derived.SevenTiedAt
import Derived.ProofKit
import Derived.OpenShut
import Derived.ShutString
import Derived.ChangeOld
import Derived.Below
import Derived.SizedLaws
namespace Go.Proofs.YtihmpdjlfpbieaaDoor
open Go.ChangeShapes Go.WideShapes Go.ChangeAt Go.RowKit
open Go.ChangeMaps (open_string shut_string)
set_option linter.unusedVariables false

set_option maxRecDepth 100000 in
set_option maxHeartbeats 4000000 in
theorem quadMerges_walk (w : World) (hL : Masks w) (a0 : Option Addr) (cap0 : Nat) (L0 : List Pt) (r0 : RowG Pt.cs 2 w a0 L0) (c0 : L0.length ≤ cap0) (m0 : cap0 ≤ maxLen) (x y : Int) (a2 : Int) (w2 : (Lit.int .u8 a2).wf = true) :
    Calls Tryd.prog 6 #[.slice a0 L0.length cap0, pt x y, .int .u8 a2] w fun e w' => e = .returned (.bool true) ∧ Below w.heap.size w w' := by
  obtain ⟨m, rfl, hm⟩ := nat_u8 w2
  clear w2
  obtain ⟨W0, hW0⟩ : ∃ W0, W0 = w.alloc (.cells #[.int .i64 x, .int .i64 y] 31) := ⟨_, rfl⟩
  have hB0 : Below w.heap.size w W0 := by rw [hW0]; exact below1 _ _
  have hP := hid (show W0.heap[w.heap.size]? = some (.cells #[.int .i64 x, .int .i64 y] 31 (0, 0)) by rw [hW0]; exact new_at _ _ _ rfl)
  have CK := known8 W0 (hL.below hB0)
  have HM := hid (hL.below hB0)
  have HR := hid (r0.later hB0)
  have hm0 : cap0 ≤ 9223372036854775807 := m0
  clear hL r0 m0
  obtain ⟨n, hn⟩ : ∃ n, Hid (L0.length = n) := ⟨_, rfl⟩
  rw [hn.out] at c0 ⊢
  by_cases hbig : n ≤ 30
  · have hbig' : ¬ (30 : Int) < (n : Int) := by omega
    go_enter Tryd.func6, Tryd.ntmps6
    go_wp2_with fail
    rw [← hW0]
    clear hW0
    with_reducible refine CK.mono ?_
    rintro z W1 ⟨rfl, hb1⟩
    have HM1 := hid (HM.out.below hb1)
    have HR1 := hid (HR.out.later hb1)
    have hP1 := hid (var_on hb1 hP.out (lt_of_at hP.out))
    have hB1 := below_on hB0 hb1
    clear CK HM HR hP hb1 hB0
    go_wp2_with fail
    with_reducible refine (tf_new HM1.out).mono ?_
    rintro z W2 ⟨rfl, T2⟩
    clear HM1
    go_wp2_with fail
    go_loopw [8] (fun i wr => ∃ (k : Nat) (M : List Mk), k ≤ n ∧ i = .int .i64 (k : Nat) ∧ TF W1 wr W1.heap.size M [] ∧ Hid (∀ a ∈ M, a.id < (k : Nat)) ∧ M.length ≤ k) (fun i _ => n - (intOf i).toNat)
    case atStart => exact ⟨0, [], by omega, rfl, T2, (fun a ha => by cases ha), Nat.le_refl _⟩
    case round =>
      obtain ⟨k, M, hk, rfl, T, hM, hMl⟩ := hrel
      clear T2
      by_cases hlt : k < n
      · have hlt' : (k : Int) < (n : Int) := by omega
        obtain ⟨s, hs⟩ := get_some L0 k (by rw [hn.out]; exact hlt)
        obtain ⟨b, off, rfl, hc1, hc2⟩ := pt_at (HR1.out.later T.below) hs
        clear hs
        have C := tf_put T (by omega) (k : Nat) s.x s.y
        go_wp2_with fail
        with_reducible refine C.mono ?_
        rintro z W3 ⟨rfl, T3, -⟩
        clear C T hc1 hc2
        go_wp2_with fail
        go_roundw
        case rel =>
          cases ho : onB s.x s.y
          · rw [(put_off (L := M) (by omega) ho).2] at T3
            exact ⟨k + 1, M, by omega, by go_num, T3, (fun a ha => by have := hM.out a ha; omega), by omega⟩
          · rw [(put_end (L := M) (by omega) ho hM.out (by omega)).2] at T3
            refine ⟨k + 1, _, by omega, by go_num, T3, (fun a ha => ?_), by rw [List.length_append]; simp; omega⟩
            rcases List.mem_append.1 ha with ha | ha
            · have := hM.out a ha; omega
            · rw [List.mem_singleton.1 ha]; simp only; omega
        case measure => simp [intOf]; omega
      · obtain rfl : k = n := by omega
        have hlt' : ¬ (k : Int) < (k : Int) := by omega
        have HA := hid (fun a (ha : a ∈ M) => (show a.id < 100 by have := hM.out a ha; omega))
        have hl30 : M.length ≤ 30 := by omega
        clear hM hMl
        obtain ⟨d, hd⟩ : ∃ d, Hid (dep M = d) := ⟨_, rfl⟩
        have hd4 : d ≤ 4 := by rw [← hd.out]; exact dep_le M
        have e1 : (m : Int).tmod 20 = ((m % 20 : Nat) : Int) := by rw [Int.tmod_eq_emod_of_nonneg (by omega)]; omega
        have hml : m % 20 < 20 := Nat.mod_lt _ (by decide)
        obtain ⟨q, hq⟩ : ∃ q : Nat, m % 20 = q := ⟨_, rfl⟩
        rw [hq] at e1 hml
        clear hq
        go_wp2_with fail
        with_reducible refine (tf_depth T (by omega) hd).mono ?_
        rintro z W3 ⟨rfl, hb3⟩
        have T3 := T.later hb3
        clear T hb3
        go_wp2_with fail
        rename World => W2'
        go_loopw [11] (fun i wr => ∃ j : Nat, j ≤ q ∧ i = .int .i64 (j : Nat) ∧ TF W1 wr W1.heap.size (QL (onB x y) M x y j) []) (fun i _ => q - (intOf i).toNat)
        case atStart => exact ⟨0, by omega, rfl, by rw [show QL (onB x y) M x y 0 = M by unfold QL; cases onB x y <;> simp [PL]]; exact T3⟩
        case round =>
          obtain ⟨j, hj, rfl, T4⟩ := hrel
          by_cases hlt2 : j < q
          · have hlt2' : (j : Int) < (q : Int) := by omega
            have C := tf_put T4 (by have := @QL_len (onB x y) M x y j; omega) ((j : Nat) + 100) x y
            rw [QL_put (by omega) HA.out hl30, show ((j : Nat) : Int) + 100 = 100 + (j : Int) by omega] at C
            have hp := cells_at (var_on T4.below hP1.out (lt_of_at hP1.out))
            go_wp2_with fail
            with_reducible refine C.mono ?_
            rintro z W5 ⟨rfl, T5, -⟩
            clear C T4 hp
            go_wp2_with fail
            go_roundw
            case rel => exact ⟨j + 1, by omega, by go_num, T5⟩
            case measure => simp [intOf]; omega
          · obtain rfl : j = q := by omega
            have hlt2' : ¬ (j : Int) < (j : Int) := by omega
            obtain ⟨d2, hd2⟩ : ∃ d2, Hid (dep (QL (onB x y) M x y j) = d2) := ⟨_, rfl⟩
            have hdd : d ≤ d2 := by
              rw [← hd2.out, ← hd.out]
              unfold QL
              split
              · exact dep_mono M _
              · exact Nat.le_refl _
            have hd24 : d2 ≤ 4 := by rw [← hd2.out]; exact dep_le _
            have h5 : Hid (onB x y = true → 4 < j → d2 = 4) := fun ho hj4 => by
              rw [← hd2.out]
              unfold QL
              rw [ho, if_pos rfl]
              exact dep_five ho hj4
            go_wp2_with fail
            with_reducible refine (tf_depth T4 (by have := @QL_len (onB x y) M x y j; omega) hd2).mono ?_
            rintro z W5 ⟨rfl, hb5⟩
            have T5 := T4.later hb5
            rw [QL_RL] at T5
            clear T4 hb5 T3
            go_wp2_with fail
            rename World => W2''
            go_loopw [13] (fun i wr => ∃ t : Nat, t ≤ j ∧ i = .int .i64 (t : Nat) ∧ TF W1 wr W1.heap.size (RL (onB x y) M x y j t) []) (fun i _ => j - (intOf i).toNat)
            case atStart => exact ⟨0, by omega, rfl, T5⟩
            case round =>
              obtain ⟨t, ht, rfl, T6⟩ := hrel
              clear T5
              by_cases hlt3 : t < j
              · have hlt3' : (t : Int) < (j : Int) := by omega
                have C := tf_drop T6 (by have := @RL_len (onB x y) M x y j t; omega) ((t : Nat) + 100)
                rw [RL_drop hlt3 HA.out, show ((t : Nat) : Int) + 100 = 100 + (t : Int) by omega] at C
                go_wp2_with fail
                with_reducible refine C.mono ?_
                rintro z W7 ⟨rfl, T7, -⟩
                clear C T6
                go_wp2_with fail
                go_roundw
                case rel => exact ⟨t + 1, by omega, by go_num, T7⟩
                case measure => simp [intOf]; omega
              · obtain rfl : t = j := by omega
                have hlt3' : ¬ (t : Int) < (t : Int) := by omega
                rw [RL_end] at T6
                have hp := cells_at (var_on T6.below hP1.out (lt_of_at hP1.out))
                have C := tf_depth T6 (by omega) hd
                have fin : ∀ W', Below W1.heap.size W1 W' → Below w.heap.size w W' := fun W' h => below_on hB1 h
                by_cases ho : onB x y = true
                · have h5' := hid (h5.out ho)
                  obtain ⟨ax, ay, rfl, rfl, hax, hay⟩ := on_nat ho
                  clear ho h5
                  have k1 : (0 : Int) ≤ (ax : Int) := by omega
                  have k2 : (ax : Int) < 64 := by omega
                  have k3 : (0 : Int) ≤ (ay : Int) := by omega
                  have k4 : (ay : Int) < 64 := by omega
                  go_wp2_with fail
                  with_reducible refine C.mono ?_
                  rintro z W8 ⟨rfl, hb8⟩
                  have T8 := (T6.later hb8).below
                  clear C hb8 T6
                  have k5 : (d : Int) ≤ (d2 : Int) := by omega
                  by_cases h4 : t ≤ 4
                  · have k6 : (t : Int) ≤ 4 := by omega
                    go_wp2
                    go_ret
                    exact ⟨by simp, fin _ T8⟩
                  · have k6 : ¬ (t : Int) ≤ 4 := by omega
                    have e4 := h5'.out (by omega)
                    subst e4
                    go_wp2
                    go_ret
                    exact ⟨by simp, fin _ T8⟩
                · have ho' : onB x y = false := by simpa using ho
                  have hways : (x < 0) ∨ (0 ≤ x ∧ ¬ x < 64) ∨ (0 ≤ x ∧ x < 64 ∧ y < 0) ∨ (0 ≤ x ∧ x < 64 ∧ 0 ≤ y ∧ ¬ y < 64) := by
                    rw [← Bool.not_eq_true] at ho'
                    unfold onB at ho'
                    rw [inB_iff] at ho'
                    simp only at ho'
                    omega
                  have k5 : (d : Int) ≤ (d2 : Int) := by omega
                  clear ho ho' h5
                  rcases hways with k1 | ⟨k1, k2⟩ | ⟨k1, k2, k3⟩ | ⟨k1, k2, k3, k4⟩
                  all_goals
                    go_wp2_with fail
                    with_reducible refine C.mono ?_
                    rintro z W8 ⟨rfl, hb8⟩
                    have T8 := (T6.later hb8).below
                    clear hb8
                    go_wp2
                    go_ret
                    exact ⟨by simp, fin _ T8⟩
  · have hbig' : (30 : Int) < (n : Int) := by omega
    go_enter Tryd.func6, Tryd.ntmps6
    go_wp2_with fail
    rw [← hW0]
    with_reducible refine CK.mono ?_
    rintro z W1 ⟨rfl, hb1⟩
    clear CK HM HR
    go_wp2
    go_ret
    exact ⟨rfl, below_on hB0 hb1⟩

theorem quadMerges_own : ownKnob Tryd.prog.godebug = none := by kernel_rfl
theorem quadMerges_laidOut : laidOutB Tryd.prog = true := by kernel_rfl
set_option maxRecDepth 100000 in
theorem quadMerges_lifted (os : Os) (started : os.Started) (H : Type) (enc : TypeId × Value → H) :
    ReturnsInHanded {} Tryd.checked os 6 .any (fun w args => (Rows.quadMergesSpec.pre enc Tryd.prog Tryd.f6 [] false w args ∧ laidMetH Tryd.prog laids w) ∧ sizedMet enc Tryd.prog Tryd.f6 (OpenSpec.ofChange Rows.quadMergesSpec) false w args) (Rows.quadMergesSpec.post enc Tryd.prog Tryd.f6 false true false false) := by
  refine returnsInHanded_of_change_and (C := Tryd.checked) (X := fun w _ => laidMetH Tryd.prog laids w) (fun _ _ _ hh h => h.of_heap hh) own_knob started (by kernel_rfl) Tryd.func6
    (ChangeSpec.witness_shaped (enc := enc) (C := Tryd.checked) (os := os) (X := fun w _ => laidMetH Tryd.prog laids w) false (World.laidAll Tryd.prog os laids) #[.slice none 0 0, .agg #[.int .i64 0, .int .i64 0], .int .u8 0] 8 rfl (World.shaped_of_ZipB (by kernel_rfl) (by kernel_rfl)) (by kernel_rfl) (by kernel_rfl) (by kernel_rfl) (door_met os _)) ?_
  intro W base args ds gs before hval0 hW _ _ hL _
  have hval : ∀ (j : Nat) t v, Tryd.f6.params[j]? = some t → args[j]? = some v → Value.okWide Tryd.prog W .any base t v := hval0
  have hW' := hW
  obtain ⟨p, q, hA0, hV, rfl, hfz, hnd⟩ := hW
  have hA : DataW.TrodAll enc Tryd.prog W 0 (fun _ => true) true Tryd.f6.params.toList args.toList ds p := hA0
  rw [Tryd.params6] at hA hval
  obtain ⟨v0, vs0, d0, ds0, p0, q0, hargs, rfl, rfl, h0, r0⟩ := trodAll_cons hA
  obtain ⟨v1, vs1, d1, ds1, p1, q1, rfl, rfl, rfl, h1, r1⟩ := trodAll_cons r0
  obtain ⟨v2, vs2, d2, ds2, p2, q2, rfl, rfl, rfl, h2, r2⟩ := trodAll_cons r1
  obtain ⟨rfl, rfl, rfl⟩ := trodAll_nil r2
  obtain rfl : args = #[v0, v1, v2] := by cases args; simp_all
  obtain ⟨rfl, rfl⟩ := trodVars_none hV
  have k0 := h0
  have lt0 : ∀ x ∈ p0, x.block < W.heap.size := by obtain ⟨m, hm⟩ := k0; exact DataW.trod_lt m _ _ _ hm
  have k1 := h1
  have lt1 : ∀ x ∈ p1, x.block < W.heap.size := by obtain ⟨m, hm⟩ := k1; exact DataW.trod_lt m _ _ _ hm
  have k2 := h2
  have lt2 : ∀ x ∈ p2, x.block < W.heap.size := by obtain ⟨m, hm⟩ := k2; exact DataW.trod_lt m _ _ _ hm
  obtain ⟨a0, cap0, L0, rfl, r0', c0, m0⟩ := open_pts (hval 0 48 v0 rfl rfl) h0
  obtain ⟨c10, c11, y10, y11, n1, rfl, rfl, rfl, t10, t11⟩ := Go.Joins.open_agg2 Tryd.underlying31 (by kernel_rfl) (by kernel_rfl) (hval 1 31 v1 rfl rfl) h1
  obtain ⟨a10, e10, -, w10⟩ := DataW.trod_int Tryd.underlying3 t10
  obtain rfl : c10 = .int .i64 a10 := by simpa using e10
  obtain ⟨a11, e11, -, w11⟩ := DataW.trod_int Tryd.underlying3 t11
  obtain rfl : c11 = .int .i64 a11 := by simpa using e11
  obtain ⟨a2, rfl, rfl, rfl, w2⟩ := open_int Tryd.underlying5 (hval 2 5 v2 rfl rfl) h2
  clear hA0 hval0
  refine (quadMerges_walk W (of_laid hL) a0 cap0 L0 r0' c0 m0 a10 a11 a2 w2).mono fun e W' ⟨he, bel⟩ => ?_
  subst he
  exact ⟨_, rfl, _, _, _, [], _, [], hW', trodAll_mk1 (shut_bool Tryd.underlying4 _), (trodAll_cons_mk (Below.trod quadMerges_laidOut (by kernel_rfl) (of_decide_eq_true (by kernel_rfl)) k0 bel lt0) (trodAll_cons_mk (Below.trod quadMerges_laidOut (by kernel_rfl) (of_decide_eq_true (by kernel_rfl)) k1 bel lt1) (trodAll_cons_mk (Below.trod quadMerges_laidOut (by kernel_rfl) (of_decide_eq_true (by kernel_rfl)) k2 bel lt2) trodAll_mk0))), rfl, bel.frame _, fun h => by cases h⟩

theorem quadMerges_over : Rows.quadMergesRow.holds Tryd.pinned (OpenSpec.ofChange Rows.quadMergesSpec) :=
  OpenClaim.holds_of_wide 6 Tryd.f6 rfl rfl rfl rfl rfl rfl rfl ⟨rfl, rfl, rfl, rfl, rfl⟩ rfl rfl rfl rfl rfl (by kernel_rfl) Tryd.func6 (by kernel_rfl)
    (of_decide_eq_true (by kernel_rfl)) (by unfold Func.isWrapper; first | (rw [if_pos (by decide +kernel)]; kernel_rfl) | (rw [if_neg (by decide +kernel)]; exact ⟨rfl, rfl⟩))
    (fun os started H enc _ => quadMerges_lifted os started H enc)

theorem quadMerges_holds : Rows.QuadMergesCardSaid :=
  Claim7.holds_tied_plain_at .later [] [.data] true (true, "a3d3f3cb190d71e3138e9286177bb5d40067a19e978e45158a4118de4e4999b4") false
    quadMerges_over (fun _ h => by cases h) (by kernel_rfl) (fun _ h => by cases h) quadMerges_row_tie rfl ⟨rfl, rfl⟩ (by kernel_rfl) rfl
    (fun f fn hf hfn => by
      obtain rfl : f = 6 := Option.some.inj ((show Tryd.prog.funcNamed "vedette/vedettelaw8.QuadMerges" = some 6 by kernel_rfl).symm.trans hf) |>.symm
      obtain rfl : fn = Tryd.f6 := (Option.some.inj (Tryd.func6.symm.trans hfn)).symm
      exact ⟨by kernel_rfl, fun j t ht => by
        rw [Tryd.params6] at ht
        have hm : t ∈ [48, 31, 5] := by simpa using Array.mem_of_getElem? ht
        have hall : ([48, 31, 5].all fun u => !Tryd.prog.wantsStandIn u) = true := by kernel_rfl
        exact (show Tryd.prog.wantsStandIn t = false by simpa using List.all_eq_true.1 hall t hm)⟩)
    (by kernel_rfl)
#print axioms quadMerges_holds
end Go.Proofs.YtihmpdjlfpbieaaDoor
