/- QuadFinds holds (tied card): all are found in the whole map, each in the smallest rectangle around it, rising; parts of a rectangle have what it has; the package's table of masks starts as the program's text lays it. -/
import Derived.Test.YtihmpdjlfpbieaaDoorKnown8
import Derived.Test.YtihmpdjlfpbieaaDoorQdF
import Derived.Test.YtihmpdjlfpbieaaDoorQdO
import Derived.Test.YtihmpdjlfpbieaaDoorLaid
import Derived.Test.YtihmpdjlfpbieaaDoorCards
import Derived.Test.YtihmpdjlfpbieaaDoorTie
import Derived.SevenTiedAt
import Derived.ProofKit
import Derived.OpenShut
import Derived.ShutString
import Derived.ChangeOld
import Derived.Below
import Derived.SizedLaws
namespace Go.Proofs.YtihmpdjlfpbieaaDoor
open Go.ChangeShapes Go.WideShapes Go.ChangeAt Go.RowKit
open Go.ChangeMaps (open_string shut_string)
set_option linter.unusedVariables false

set_option maxRecDepth 100000 in
set_option maxHeartbeats 4000000 in
theorem quadFinds_walk (w : World) (hL : Masks w) (a0 : Option Addr) (cap0 : Nat) (L0 : List Pt) (r0 : RowG Pt.cs 2 w a0 L0) (c0 : L0.length ≤ cap0) (m0 : cap0 ≤ maxLen) (p0 p1 p2 p3 q0 q1 q2 q3 : Int) :
    Calls Tryd.prog 4 #[.slice a0 L0.length cap0, rc p0 p1 p2 p3, rc q0 q1 q2 q3] w fun e w' => e = .returned (.bool true) ∧ Below w.heap.size w w' := by
  obtain ⟨W0, hW0⟩ : ∃ W0, W0 = (w.alloc (.cells #[.int .i64 p0, .int .i64 p1, .int .i64 p2, .int .i64 p3] 33)).alloc (.cells #[.int .i64 q0, .int .i64 q1, .int .i64 q2, .int .i64 q3] 33) := ⟨_, rfl⟩
  have hB0 : Below w.heap.size w W0 := by rw [hW0]; exact below_on (below1 _ _) (below1 _ _)
  have hPa := hid (show W0.heap[w.heap.size]? = some (.cells #[.int .i64 p0, .int .i64 p1, .int .i64 p2, .int .i64 p3] 33 (0, 0)) by rw [hW0]; exact old_at (new_at _ _ _ rfl) _)
  have hPb := hid (show W0.heap[w.heap.size + 1]? = some (.cells #[.int .i64 q0, .int .i64 q1, .int .i64 q2, .int .i64 q3] 33 (0, 0)) by rw [hW0]; exact new_at _ _ _ (by simp))
  have CK := known8 W0 (hL.below hB0)
  have HM := hid (hL.below hB0)
  have HR := hid (r0.later hB0)
  have hm0 : cap0 ≤ 9223372036854775807 := m0
  clear hL r0 m0
  obtain ⟨n, hn⟩ : ∃ n, Hid (L0.length = n) := ⟨_, rfl⟩
  rw [hn.out] at c0 ⊢
  by_cases hbig : n ≤ 60
  · have hbig' : ¬ (60 : Int) < (n : Int) := by omega
    go_enter Tryd.func4, Tryd.ntmps4
    go_wp2_with fail
    rw [← hW0]
    clear hW0
    with_reducible refine CK.mono ?_
    rintro z W1 ⟨rfl, hb1⟩
    have HM1 := hid (HM.out.below hb1)
    have HR1 := hid (HR.out.later hb1)
    have hPa1 := hid (var_on hb1 hPa.out (lt_of_at hPa.out))
    have hPb1 := hid (var_on hb1 hPb.out (lt_of_at hPb.out))
    have hB1 := below_on hB0 hb1
    clear CK HM HR hPa hPb hb1 hB0
    go_wp2_with fail
    with_reducible refine (tf_new HM1.out).mono ?_
    rintro z W2 ⟨rfl, T2⟩
    clear HM1
    go_wp2_with fail
    go_loopw [9, 8] (fun i s8 wr => ∃ (k : Nat) (M : List Mk), k ≤ n ∧ i = .int .i64 (k : Nat) ∧ s8 = .int .i64 (M.length : Nat) ∧ TF W1 wr W1.heap.size M [] ∧ Hid (∀ a ∈ M, a.id < 7 * (k : Int) ∧ onB a.x a.y = true) ∧ M.length ≤ k) (fun i _ _ => n - (intOf i).toNat)
    case atStart => exact ⟨0, [], by omega, rfl, rfl, T2, (fun a ha => by cases ha), Nat.le_refl _⟩
    case round =>
      obtain ⟨k, M, hk, rfl, rfl, T, hM, hMl⟩ := hrel
      clear T2
      by_cases hlt : k < n
      · have hlt' : (k : Int) < (n : Int) := by omega
        obtain ⟨s, hs⟩ := get_some L0 k (by rw [hn.out]; exact hlt)
        have HS := hid hs
        obtain ⟨b, off, rfl, hc1, hc2⟩ := pt_at (HR1.out.later T.below) hs
        clear hs
        obtain ⟨sx, sy⟩ := s
        simp only at hc1 hc2
        have C := tf_put T (by omega) (7 * (k : Int)) sx sy
        by_cases ho : onB sx sy = true
        · have hf := put_end (id := 7 * (k : Int)) (L := M) (by omega) ho (fun a ha => (hM.out a ha).1) (by omega)
          rw [hf.1, hf.2] at C
          have HO := hid ho
          obtain ⟨ax, ay, rfl, rfl, hax, hay⟩ := on_nat ho
          clear hf ho
          go_wp2_with fail
          with_reducible refine C.mono ?_
          rintro z W3 ⟨rfl, T3, -⟩
          clear C T hc1 hc2
          obtain ⟨b', off', hbo, hc1, hc2⟩ := pt_at (HR1.out.later T3.below) HS.out
          simp only [Option.some.injEq, Addr.mk.injEq, and_true] at hbo
          obtain ⟨rfl, rfl⟩ := hbo
          simp only at hc1 hc2
          have C := ref_on W3 (ax : Nat) (ay : Nat)
          rw [HO.out] at C
          go_wp2_with fail
          with_reducible refine C.mono ?_
          rintro z W4 ⟨rfl, hb4⟩
          have T4 := T3.later hb4
          clear C T3 hc1 hc2
          obtain ⟨b', off', hbo, hc1, hc2⟩ := pt_at (HR1.out.later T4.below) HS.out
          simp only [Option.some.injEq, Addr.mk.injEq, and_true] at hbo
          obtain ⟨rfl, rfl⟩ := hbo
          simp only at hc1 hc2
          clear hb4
          obtain ⟨R, hR⟩ : ∃ R, Hid (rinL (M ++ [(⟨7 * (k : Int), (ax : Nat), (ay : Nat)⟩ : Mk)]) ⟨(ax : Nat), (ay : Nat), ((ax : Nat) : Int) + 1, ((ay : Nat) : Int) + 1⟩ = R) := ⟨_, rfl⟩
          have hR2 := rin_last (M := M) (id := 7 * (k : Int)) (x := ax) (y := ay)
          rw [hR.out] at hR2
          have hRl : 0 < R.length := by rw [hR2]; simp
          have hRb : R.length ≤ 1000 := by
            rw [← hR.out]
            have := rin_le (M ++ [⟨7 * (k : Int), (ax : Nat), (ay : Nat)⟩]) ⟨(ax : Nat), (ay : Nat), ((ax : Nat) : Int) + 1, ((ay : Nat) : Int) + 1⟩
            rw [List.length_append] at this
            simp at this
            omega
          have HRlast : Hid (R[R.length - 1]? = some (7 * (k : Int))) := by
            show _ = _
            rw [hR2, List.length_append]
            simp
          clear hR2
          have hml : (M ++ [(⟨7 * (k : Int), (ax : Nat), (ay : Nat)⟩ : Mk)]).length ≤ 999 := by rw [List.length_append]; simp; omega
          have CC := hid (fun W (hb : Below W4.heap.size W4 W) => tf_in (T4.later hb) hml (ax : Nat) (ay : Nat) (((ax : Nat) : Int) + 1) (((ay : Nat) : Int) + 1) hR)
          clear hml
          have hwx : IntKind.i64.wrap ((ax : Int) + 1) = (ax : Int) + 1 := by rw [IntKind.wrap_i64]; omega
          have hwy : IntKind.i64.wrap ((ay : Int) + 1) = (ay : Int) + 1 := by rw [IntKind.wrap_i64]; omega
          go_wp2_with fail
          go_region_held3 (fun w' => w'.cell? ⟨b, off + k * 2, none⟩ = some (.int .i64 ((ax : Nat) : Int)) ∧ w'.cell? ⟨b, off + k * 2 + 1, none⟩ = some (.int .i64 ((ay : Nat) : Int)))
            (first | go_keep | (go_split_ands; refine ⟨?_, ?_⟩ <;> exact cell_below hb5 (by assumption)))
            (first
              | (go_at_call 19; with_reducible refine (CC.out _ (by first | exact Below.refl _ _ | exact (Below.refl _ _).drew)).mono ?_; rintro z W5 ⟨p5, c5, rfl, hown5, hb5⟩
                 have T5 := T4.later (by first | exact (Below.refl W4.heap.size W4).drew.trans (hb5.mono (Nat.le_refl _)) | exact hb5)))
          all_goals
            clear CC T4 hc1 hc2
            obtain ⟨g5, rfl, -, -, hc5, hm5⟩ := owns_some hown5 hRl
            have hm5' : c5 ≤ 9223372036854775807 := hm5
            obtain ⟨rl, hrl⟩ : ∃ rl, R.length = rl + 1 := ⟨R.length - 1, by omega⟩
            rw [hrl] at hown5 hRb hc5 HRlast ⊢
            simp only [Nat.add_sub_cancel] at HRlast
            have hcell := owns_read hown5 rl (.int .i64 (7 * (k : Int))) (by
              rw [flat_ints, List.getElem?_map, HRlast.out]; rfl)
            clear hown5
            have hnz : ((rl : Int) + 1 == 0) = false := by simp; omega
            go_wp2_with fail
            go_roundw
            case rel =>
              refine ⟨k + 1, M ++ [⟨7 * (k : Int), (ax : Nat), (ay : Nat)⟩], by omega, by go_num, by rw [List.length_append]; go_num, T5, (fun a ha => ?_), by rw [List.length_append]; simp; omega⟩
              rcases List.mem_append.1 ha with ha | ha
              · exact ⟨by have := (hM.out a ha).1; omega, (hM.out a ha).2⟩
              · rw [List.mem_singleton.1 ha]
                exact ⟨by simp only; omega, HO.out⟩
            case measure => simp [intOf]; omega
        · have ho' : onB sx sy = false := by simpa using ho
          have hf := put_off (id := 7 * (k : Int)) (L := M) (by omega) ho'
          rw [hf.1, hf.2] at C
          have HO := hid ho'
          clear hf ho ho'
          go_wp2_with fail
          with_reducible refine C.mono ?_
          rintro z W3 ⟨rfl, T3, -⟩
          clear C T hc1 hc2
          obtain ⟨b', off', hbo, hc1, hc2⟩ := pt_at (HR1.out.later T3.below) HS.out
          simp only [Option.some.injEq, Addr.mk.injEq, and_true] at hbo
          obtain ⟨rfl, rfl⟩ := hbo
          simp only at hc1 hc2
          have C := ref_on W3 sx sy
          rw [HO.out] at C
          go_wp2_with fail
          with_reducible refine C.mono ?_
          rintro z W4 ⟨rfl, hb4⟩
          have T4 := T3.later hb4
          clear C T3 hc1 hc2 hb4
          go_wp2_with fail
          go_roundw
          case rel => exact ⟨k + 1, M, by omega, by go_num, rfl, T4, (fun a ha => ⟨by have := (hM.out a ha).1; omega, (hM.out a ha).2⟩), by omega⟩
          case measure => simp [intOf]; omega
      · obtain rfl : k = n := by omega
        have hlt' : ¬ (k : Int) < (k : Int) := by omega
        obtain ⟨R, hR⟩ : ∃ R, Hid (rinL M ⟨0, 0, 64, 64⟩ = R) := ⟨_, rfl⟩
        have HRS := hid (rin_sorted T.ids ⟨0, 0, 64, 64⟩)
        have hRw := rin_whole (fun a ha => (hM.out a ha).2)
        rw [hR.out] at HRS hRw
        obtain ⟨ml, hml⟩ : ∃ ml, Hid (M.length = ml) := ⟨_, rfl⟩
        rw [hml.out] at hRw hMl ⊢
        have HRW := hid hRw
        clear hRw
        have C := tf_in T (by rw [hml.out]; omega) 0 0 64 64 hR
        rw [HRW.out] at C
        go_wp2_with fail
        with_reducible refine C.mono ?_
        rintro z W3 ⟨pR, cR, rfl, hownR, hb3⟩
        have T3 := T.later hb3
        have RR := hid (row_own cI_z hownR HRW.out.symm)
        clear C T hb3 hownR
        go_wp2_with fail
        clear wr
        go_loopw [13] (fun i wr => ∃ j : Nat, 1 ≤ j ∧ (j ≤ ml ∨ j = 1) ∧ i = .int .i64 (j : Nat) ∧ Below W3.heap.size W3 wr) (fun i _ => ml + 1 - (intOf i).toNat)
        case atStart => exact ⟨1, by omega, .inr rfl, rfl, Below.refl _ _⟩
        case round =>
          obtain ⟨j, hj1, hj2, rfl, hb⟩ := hrel
          by_cases hlt2 : j < ml
          · have hlt2' : (j : Int) < (ml : Int) := by omega
            obtain ⟨i, rfl⟩ : ∃ i, j = i + 1 := ⟨j - 1, by omega⟩
            obtain ⟨u, hu⟩ := get_some R i (by rw [HRW.out]; omega)
            obtain ⟨v, hv⟩ := get_some R (i + 1) (by rw [HRW.out]; omega)
            have huv := rise_at HRS.out hu hv
            obtain ⟨b1, o1, e1, hc1⟩ := int_at (RR.out.later hb) hu
            obtain ⟨b2, o2, e2, hc2⟩ := int_at (RR.out.later hb) hv
            subst e1
            simp only [Option.some.injEq, Addr.mk.injEq, and_true] at e2
            obtain ⟨rfl, rfl⟩ := e2
            have HU := hid hu
            have HV := hid hv
            clear hu hv
            have g1 : (i : Int) < (ml : Int) := by omega
            have g2 : (i : Int) + 1 < (ml : Int) := by omega
            have g3 : ¬ v ≤ u := by omega
            clear huv
            go_wp2_with fail
            go_quiet (fail)
            go_wp2_with fail
            go_roundw
            case rel => exact ⟨i + 1 + 1, by omega, .inl (by omega), by go_num, below_drewN hb _⟩
            case measure => simp [intOf]; omega
          · have hlt2' : ¬ (j : Int) < (ml : Int) := by omega
            have T4 := T3.later hb
            have hpa := cells_at (var_on T4.below hPa1.out (lt_of_at hPa1.out))
            have hpb := cells_at (var_on T4.below hPb1.out (lt_of_at hPb1.out))
            obtain ⟨mn, hmn⟩ := run_min4 (P := Tryd.prog) #[3, 3, 3, 3] 3 p0 p1 q0 q1
            obtain ⟨mx, hmx⟩ := run_max4 (P := Tryd.prog) #[3, 3, 3, 3] 3 p2 p3 q2 q3
            clear T3 hb
            by_cases g1 : mn < -1000
            · go_wp2
              go_ret
              exact ⟨by simp, below_on hB1 T4.below⟩
            by_cases g2 : (1000 : Int) < mx
            · go_wp2
              go_ret
              exact ⟨by simp, below_on hB1 T4.below⟩
            obtain ⟨m0, m1, m2, m3, hmeet⟩ : ∃ m0 m1 m2 m3 : Int, Hid (meetR ⟨p0, p1, p2, p3⟩ ⟨q0, q1, q2, q3⟩ = ⟨m0, m1, m2, m3⟩) := ⟨_, _, _, _, rfl⟩
            obtain ⟨LM, hLM⟩ : ∃ LM, Hid (minusL ⟨p0, p1, p2, p3⟩ ⟨q0, q1, q2, q3⟩ = LM) := ⟨_, rfl⟩
            have hsum := parts_sum ⟨p0, p1, p2, p3⟩ ⟨q0, q1, q2, q3⟩ M
            rw [hmeet.out, hLM.out] at hsum
            obtain ⟨R1, hR1⟩ : ∃ R1, Hid (rinL M ⟨m0, m1, m2, m3⟩ = R1) := ⟨_, rfl⟩
            obtain ⟨R2, hR2⟩ : ∃ R2, Hid (rinL M ⟨p0, p1, p2, p3⟩ = R2) := ⟨_, rfl⟩
            rw [hR1.out, hR2.out] at hsum
            have hR1l : R1.length ≤ 60 := by rw [← hR1.out]; have := rin_le M ⟨m0, m1, m2, m3⟩; have := hml.out; omega
            have hR2l : R2.length ≤ 60 := by rw [← hR2.out]; have := rin_le M ⟨p0, p1, p2, p3⟩; have := hml.out; omega
            have HSUM := hid hsum
            have hMl2 : Hid (M.length ≤ 999) := by show _ ≤ _; rw [hml.out]; omega
            have hLMl : LM.length ≤ 4 := by rw [← hLM.out]; exact minus_le _ _
            clear hsum
            obtain ⟨l1, hl1⟩ : ∃ l1, Hid (R1.length = l1) := ⟨_, rfl⟩
            obtain ⟨l2, hl2⟩ : ∃ l2, Hid (R2.length = l2) := ⟨_, rfl⟩
            rw [hl1.out] at hR1l
            rw [hl2.out] at hR2l
            have C := ref_meet_at hmeet wr
            go_wp2_with fail
            with_reducible refine C.mono ?_
            rintro z W5 ⟨rfl, hb5⟩
            have T5 := T4.later hb5
            clear C T4 hb5 hpa hpb
            have C := tf_in T5 hMl2.out m0 m1 m2 m3 hR1
            rw [hl1.out] at C
            go_wp2_with fail
            with_reducible refine C.mono ?_
            rintro z W6 ⟨p6, c6, rfl, -, hb6⟩
            have T6 := T5.later hb6
            clear C T5 hb6
            have hpa := cells_at (var_on T6.below hPa1.out (lt_of_at hPa1.out))
            have hpb := cells_at (var_on T6.below hPb1.out (lt_of_at hPb1.out))
            have C := ref_minus W6 p0 p1 p2 p3 q0 q1 q2 q3
            rw [hLM.out] at C
            go_wp2_with fail
            with_reducible refine C.mono ?_
            rintro z W7 ⟨v7, rfl, hown7, hb7⟩
            have T7 := T6.later hb7
            clear C T6 hb7 hpa hpb
            obtain ⟨p7, c7, rfl⟩ := owns_slice hown7
            obtain ⟨nm, hnm⟩ : ∃ nm, Hid (LM.length = nm) := ⟨_, rfl⟩
            rw [hnm.out] at hown7 hLMl ⊢
            have OW7 := hid hown7
            clear hown7
            go_wp2_with fail
            clear wr
            go_loopw [16, 14] (fun i s14 wr => ∃ t : Nat, t ≤ nm ∧ i = .int .i64 (t : Nat) ∧ s14 = .int .i64 ((l1 + sumI M (LM.take t) : Nat) : Int) ∧ Below W7.heap.size W7 wr) (fun i _ _ => nm - (intOf i).toNat)
            case atStart => exact ⟨0, by omega, rfl, by simp [sumI], Below.refl _ _⟩
            case round =>
              obtain ⟨t, ht, rfl, rfl, hb⟩ := hrel
              have T8 := T7.later hb
              have hsb : sumI M (LM.take t) ≤ 1000 := by
                have := sumI_le M (LM.take t)
                have e : (LM.take t).length ≤ 4 := by rw [List.length_take]; have := hnm.out; omega
                have := Nat.mul_le_mul e (show M.length ≤ 60 by have := hml.out; omega)
                omega
              by_cases hlt3 : t < nm
              · have hlt3' : (t : Int) < (nm : Int) := by omega
                obtain ⟨e0, e1, e2, e3, hrt⟩ := get_rc LM t (by rw [hnm.out]; exact hlt3)
                obtain ⟨g7, rfl, -, -, hc7, hm7⟩ := owns_some OW7.out (by omega)
                have hm7' : c7 ≤ 9223372036854775807 := hm7
                obtain ⟨d0, d1, d2, d3⟩ := row_at (owns_on OW7.out hb) hrt hnm.out.symm
                obtain ⟨R3, hR3⟩ : ∃ R3, Hid (rinL M ⟨e0, e1, e2, e3⟩ = R3) := ⟨_, rfl⟩
                obtain ⟨l3, hl3⟩ : ∃ l3, Hid (R3.length = l3) := ⟨_, rfl⟩
                have hl3b : l3 ≤ 60 := by rw [← hl3.out, ← hR3.out]; have := rin_le M ⟨e0, e1, e2, e3⟩; have := hml.out; omega
                have hst : Hid (sumI M (LM.take (t + 1)) = sumI M (LM.take t) + l3) := by show _ = _; rw [sumI_take hrt, hR3.out, hl3.out]
                have C := tf_in T8 hMl2.out e0 e1 e2 e3 hR3
                rw [hl3.out] at C
                obtain ⟨sm, hsm⟩ : ∃ sm, Hid (sumI M (LM.take t) = sm) := ⟨_, rfl⟩
                rw [hsm.out] at hsb ⊢
                clear hrt
                go_wp2_with fail
                with_reducible refine C.mono ?_
                rintro z W9 ⟨p9, c9, rfl, -, hb9⟩
                have hB9 := below_on hb hb9
                clear C hb9 hb T8 d0 d1 d2 d3
                go_wp2_with fail
                go_roundw
                case rel =>
                  refine ⟨t + 1, by omega, by go_num, ?_, hB9⟩
                  rw [hst.out, hsm.out]
                  go_num
                case measure => simp [intOf]; omega
              · obtain rfl : t = nm := by omega
                have hlt3' : ¬ (t : Int) < (t : Int) := by omega
                have hend : Hid (l1 + sumI M (LM.take t) = l2) := by
                  show _ = _
                  rw [← hnm.out, List.take_length, ← hl1.out, ← hl2.out]
                  exact HSUM.out
                rw [hend.out]
                have hpa := cells_at (var_on T8.below hPa1.out (lt_of_at hPa1.out))
                have C := tf_in T8 hMl2.out p0 p1 p2 p3 hR2
                rw [hl2.out] at C
                obtain ⟨dd, hdd⟩ : ∃ dd, Hid (dep M = dd) := ⟨_, rfl⟩
                have hdd4 : (dd : Int) ≤ 4 := by rw [← hdd.out]; have := dep_le M; omega
                go_wp2_with fail
                with_reducible refine C.mono ?_
                rintro z W9 ⟨p9, c9, rfl, -, hb9⟩
                have T9 := T8.later hb9
                clear C hb9 hb T8 hpa T7
                go_wp2_with fail
                with_reducible refine (tf_depth T9 hMl2.out hdd).mono ?_
                rintro z W10 ⟨rfl, hb10⟩
                have T10 := (T9.later hb10).below
                clear hb10 T9
                go_wp2
                go_ret
                exact ⟨by simp, below_on hB1 T10⟩
  · have hbig' : (60 : Int) < (n : Int) := by omega
    go_enter Tryd.func4, Tryd.ntmps4
    go_wp2_with fail
    rw [← hW0]
    with_reducible refine CK.mono ?_
    rintro z W1 ⟨rfl, hb1⟩
    clear CK HM HR
    go_wp2
    go_ret
    exact ⟨rfl, below_on hB0 hb1⟩

theorem quadFinds_own : ownKnob Tryd.prog.godebug = none := by kernel_rfl
theorem quadFinds_laidOut : laidOutB Tryd.prog = true := by kernel_rfl
set_option maxRecDepth 100000 in
theorem quadFinds_lifted (os : Os) (started : os.Started) (H : Type) (enc : TypeId × Value → H) :
    ReturnsInHanded {} Tryd.checked os 4 .any (fun w args => (Rows.quadFindsSpec.pre enc Tryd.prog Tryd.f4 [] false w args ∧ laidMetH Tryd.prog laids w) ∧ sizedMet enc Tryd.prog Tryd.f4 (OpenSpec.ofChange Rows.quadFindsSpec) false w args) (Rows.quadFindsSpec.post enc Tryd.prog Tryd.f4 false true false false) := by
  refine returnsInHanded_of_change_and (C := Tryd.checked) (X := fun w _ => laidMetH Tryd.prog laids w) (fun _ _ _ hh h => h.of_heap hh) own_knob started (by kernel_rfl) Tryd.func4
    (ChangeSpec.witness_shaped (enc := enc) (C := Tryd.checked) (os := os) (X := fun w _ => laidMetH Tryd.prog laids w) false (World.laidAll Tryd.prog os laids) #[.slice none 0 0, .agg #[.int .i64 0, .int .i64 0, .int .i64 0, .int .i64 0], .agg #[.int .i64 0, .int .i64 0, .int .i64 0, .int .i64 0]] 8 rfl (World.shaped_of_ZipB (by kernel_rfl) (by kernel_rfl)) (by kernel_rfl) (by kernel_rfl) (by kernel_rfl) (door_met os _)) ?_
  intro W base args ds gs before hval0 hW _ _ hL _
  have hval : ∀ (j : Nat) t v, Tryd.f4.params[j]? = some t → args[j]? = some v → Value.okWide Tryd.prog W .any base t v := hval0
  have hW' := hW
  obtain ⟨p, q, hA0, hV, rfl, hfz, hnd⟩ := hW
  have hA : DataW.TrodAll enc Tryd.prog W 0 (fun _ => true) true Tryd.f4.params.toList args.toList ds p := hA0
  rw [Tryd.params4] at hA hval
  obtain ⟨v0, vs0, d0, ds0, p0, q0, hargs, rfl, rfl, h0, r0⟩ := trodAll_cons hA
  obtain ⟨v1, vs1, d1, ds1, p1, q1, rfl, rfl, rfl, h1, r1⟩ := trodAll_cons r0
  obtain ⟨v2, vs2, d2, ds2, p2, q2, rfl, rfl, rfl, h2, r2⟩ := trodAll_cons r1
  obtain ⟨rfl, rfl, rfl⟩ := trodAll_nil r2
  obtain rfl : args = #[v0, v1, v2] := by cases args; simp_all
  obtain ⟨rfl, rfl⟩ := trodVars_none hV
  have k0 := h0
  have lt0 : ∀ x ∈ p0, x.block < W.heap.size := by obtain ⟨m, hm⟩ := k0; exact DataW.trod_lt m _ _ _ hm
  have k1 := h1
  have lt1 : ∀ x ∈ p1, x.block < W.heap.size := by obtain ⟨m, hm⟩ := k1; exact DataW.trod_lt m _ _ _ hm
  have k2 := h2
  have lt2 : ∀ x ∈ p2, x.block < W.heap.size := by obtain ⟨m, hm⟩ := k2; exact DataW.trod_lt m _ _ _ hm
  obtain ⟨a0, cap0, L0, rfl, r0', c0, m0⟩ := open_pts (hval 0 48 v0 rfl rfl) h0
  obtain ⟨c10, c11, c12, c13, y10, y11, y12, y13, n1, rfl, rfl, rfl, t10, t11, t12, t13⟩ := Go.Joins.open_agg4 Tryd.underlying33 (by kernel_rfl) (by kernel_rfl) (hval 1 33 v1 rfl rfl) h1
  obtain ⟨a10, e10, -, w10⟩ := DataW.trod_int Tryd.underlying3 t10
  obtain rfl : c10 = .int .i64 a10 := by simpa using e10
  obtain ⟨a11, e11, -, w11⟩ := DataW.trod_int Tryd.underlying3 t11
  obtain rfl : c11 = .int .i64 a11 := by simpa using e11
  obtain ⟨a12, e12, -, w12⟩ := DataW.trod_int Tryd.underlying3 t12
  obtain rfl : c12 = .int .i64 a12 := by simpa using e12
  obtain ⟨a13, e13, -, w13⟩ := DataW.trod_int Tryd.underlying3 t13
  obtain rfl : c13 = .int .i64 a13 := by simpa using e13
  obtain ⟨c20, c21, c22, c23, y20, y21, y22, y23, n2, rfl, rfl, rfl, t20, t21, t22, t23⟩ := Go.Joins.open_agg4 Tryd.underlying33 (by kernel_rfl) (by kernel_rfl) (hval 2 33 v2 rfl rfl) h2
  obtain ⟨a20, e20, -, w20⟩ := DataW.trod_int Tryd.underlying3 t20
  obtain rfl : c20 = .int .i64 a20 := by simpa using e20
  obtain ⟨a21, e21, -, w21⟩ := DataW.trod_int Tryd.underlying3 t21
  obtain rfl : c21 = .int .i64 a21 := by simpa using e21
  obtain ⟨a22, e22, -, w22⟩ := DataW.trod_int Tryd.underlying3 t22
  obtain rfl : c22 = .int .i64 a22 := by simpa using e22
  obtain ⟨a23, e23, -, w23⟩ := DataW.trod_int Tryd.underlying3 t23
  obtain rfl : c23 = .int .i64 a23 := by simpa using e23
  clear hA0 hval0
  refine (quadFinds_walk W (of_laid hL) a0 cap0 L0 r0' c0 m0 a10 a11 a12 a13 a20 a21 a22 a23).mono fun e W' ⟨he, bel⟩ => ?_
  subst he
  exact ⟨_, rfl, _, _, _, [], _, [], hW', trodAll_mk1 (shut_bool Tryd.underlying4 _), (trodAll_cons_mk (Below.trod quadFinds_laidOut (by kernel_rfl) (of_decide_eq_true (by kernel_rfl)) k0 bel lt0) (trodAll_cons_mk (Below.trod quadFinds_laidOut (by kernel_rfl) (of_decide_eq_true (by kernel_rfl)) k1 bel lt1) (trodAll_cons_mk (Below.trod quadFinds_laidOut (by kernel_rfl) (of_decide_eq_true (by kernel_rfl)) k2 bel lt2) trodAll_mk0))), rfl, bel.frame _, fun h => by cases h⟩

theorem quadFinds_over : Rows.quadFindsRow.holds Tryd.pinned (OpenSpec.ofChange Rows.quadFindsSpec) :=
  OpenClaim.holds_of_wide 4 Tryd.f4 rfl rfl rfl rfl rfl rfl rfl ⟨rfl, rfl, rfl, rfl, rfl⟩ rfl rfl rfl rfl rfl (by kernel_rfl) Tryd.func4 (by kernel_rfl)
    (of_decide_eq_true (by kernel_rfl)) (by unfold Func.isWrapper; first | (rw [if_pos (by decide +kernel)]; kernel_rfl) | (rw [if_neg (by decide +kernel)]; exact ⟨rfl, rfl⟩))
    (fun os started H enc _ => quadFinds_lifted os started H enc)

theorem quadFinds_holds : Rows.QuadFindsCardSaid :=
  Claim7.holds_tied_plain_at .later [] [.data] true (true, "a3d3f3cb190d71e3138e9286177bb5d40067a19e978e45158a4118de4e4999b4") false
    quadFinds_over (fun _ h => by cases h) (by kernel_rfl) (fun _ h => by cases h) quadFinds_row_tie rfl ⟨rfl, rfl⟩ (by kernel_rfl) rfl
    (fun f fn hf hfn => by
      obtain rfl : f = 4 := Option.some.inj ((show Tryd.prog.funcNamed "vedette/vedettelaw8.QuadFinds" = some 4 by kernel_rfl).symm.trans hf) |>.symm
      obtain rfl : fn = Tryd.f4 := (Option.some.inj (Tryd.func4.symm.trans hfn)).symm
      exact ⟨by kernel_rfl, fun j t ht => by
        rw [Tryd.params4] at ht
        have hm : t ∈ [48, 33, 33] := by simpa using Array.mem_of_getElem? ht
        have hall : ([48, 33, 33].all fun u => !Tryd.prog.wantsStandIn u) = true := by kernel_rfl
        exact (show Tryd.prog.wantsStandIn t = false by simpa using List.all_eq_true.1 hall t hm)⟩)
    (by kernel_rfl)
#print axioms quadFinds_holds
end Go.Proofs.YtihmpdjlfpbieaaDoor
