/- For every row of numbers and every row of places: each field is set alone, others stay; a place that is no field is told. No conditions. -/
import Derived.Test.YthmnbphpjmfckaaGreatDoorAcV
import Derived.Test.YthmnbphpjmfckaaGreatDoorRI
import Derived.Test.YthmnbphpjmfckaaGreatDoorCO
import Derived.Test.YthmnbphpjmfckaaGreatDoorLaid
import Derived.Test.YthmnbphpjmfckaaGreatDoorCards
import Derived.Test.YthmnbphpjmfckaaGreatDoorTie
import Derived.SevenTiedAt
import Derived.ProofKit
import Derived.OpenShut
import Derived.ShutString
import Derived.ChangeOld
import Derived.Below
import Derived.SizedLaws
namespace Go.Proofs.YthmnbphpjmfckaaGreatDoor
open Go.ChangeShapes Go.WideShapes Go.ChangeAt Go.RowKit
open Go.ChangeMaps (open_string shut_string)
set_option linter.unusedVariables false

set_option maxRecDepth 100000 in
set_option maxHeartbeats 4000000 in
theorem actSets_walk (w : World) (hL : Masks w) (a0 : Option Addr) (len0 cap0 : Nat) (ts0 : List Int) (ht0 : ts0.length = len0) (hb0 : ∀ n ∈ ts0, (Lit.int .i16 n).wf = true) (hr0 : RowIs w a0 (nums .i16 ts0)) (hl0 : len0 ≤ maxLen)
    (a1 : Option Addr) (len1 cap1 : Nat) (ts1 : List Int) (ht1 : ts1.length = len1) (hb1 : ∀ n ∈ ts1, (Lit.int .u8 n).wf = true) (hr1 : RowIs w a1 (nums .u8 ts1)) (hl1 : len1 ≤ maxLen) :
    Calls Tryz.prog 7 #[.slice a0 len0 cap0, .slice a1 len1 cap1] w fun e w' => e = .returned (.bool true) ∧ Below w.heap.size w w' := by
  have CK := known11 w hL
  have HM := hid hL
  have HT0 := hid ht0
  have HT1 := hid ht1
  have HB0 := hid hb0
  have HB1 := hid hb1
  have HR0 := hid hr0
  have HR1 := hid hr1
  clear hL ht0 ht1 hb0 hb1 hr0 hr1 hl0 hl1
  go_enter Tryz.func7, Tryz.ntmps7
  go_wp2_with fail
  refine CK.mono ?_
  rintro z W0 ⟨rfl, hb0⟩
  have HM0 := hid (HM.out.below hb0)
  have HV0 := hid (HR0.out.later hb0)
  have HU0 := hid (HR1.out.later hb0)
  clear CK HM HR0 HR1
  by_cases hbig : 20 < len0
  · have hbig' : (20 : Int) < (len0 : Int) := by omega
    go_wp2_with fail
    go_ret
    exact ⟨rfl, hb0⟩
  · have hbig' : ¬ (20 : Int) < (len0 : Int) := by omega
    go_wp2_with fail
    with_reducible refine (tk_new HM0.out).mono ?_
    rintro z W1 ⟨tb, rfl, T1⟩
    have T1h := hid T1
    clear T1
    obtain ⟨N0, hN0⟩ : ∃ N, Hid (doN [] (cmPut 0 0) 5 = N) := ⟨_, rfl⟩
    go_wp2_with fail
    with_reducible refine (act_do (c := cmPut 0 0) (id := 5) T1h.out cm_in0 (inI_small (by decide) (by decide)) hN0 (hid set_first.1) (hid set_first.2)).mono ?_
    rintro z W2 ⟨rfl, T2, -⟩
    obtain ⟨W3, hW3⟩ : ∃ W3, W2.alloc (w4 0 0 0 0) = W3 := ⟨_, rfl⟩
    have hb3 : Below W2.heap.size W2 W3 := by rw [← hW3]; exact below1 _ _
    have P3 := hid (show W3.heap[W2.heap.size]? = some (w4 0 0 0 0) by rw [← hW3]; exact new_at _ _ _ rfl)
    have T3 := hid (T2.also hb3 (Nat.le_refl _) (lt_of_at P3.out))
    have hlo : Hid (W0.heap.size ≤ W2.heap.size) := T2.below.size
    have HW3 := hid hW3
    clear hW3 hb3 T2 T1h hN0
    go_upto_region 8 with fail
    rw [HW3.out]
    clear HW3
    obtain ⟨wb, hwb⟩ : ∃ wb, W2.heap.size = wb := ⟨_, rfl⟩
    rw [hwb] at P3 T3 hlo ⊢
    clear hwb
    go_wp2_with fail
    go_loopw [7] (fun i wr => ∃ (k : Nat) (a b c d : Int), k ≤ len0 ∧ i = .int .i64 (k : Nat) ∧ Hid (TK W0 wr tb [t4 a b c d] [wb]) ∧ Hid (wr.heap[wb]? = some (w4 a b c d))) (fun i _ => len0 - (intOf i).toNat)
    case atStart => exact ⟨0, 0, 0, 0, 0, by omega, rfl, T3, P3⟩
    case round =>
      obtain ⟨k, a, b, c, d, hk, rfl, T, P⟩ := hrel
      clear T3 P3
      by_cases hlt : k < len0
      · have hlt' : (k : Int) < (len0 : Int) := by omega
        have hk20 : k < 20 := by omega
        obtain ⟨v, hv⟩ := get_some ts0 k (by rw [HT0.out]; exact hlt)
        obtain ⟨v1, v2⟩ := i16_in (HB0.out v (List.mem_of_getElem? hv))
        obtain ⟨vb, vo, rfl, hcv⟩ := (HV0.out.later T.out.below).at (i := k) (v := .int .i16 v) (by simp [nums, hv])
        have hvh := hid hv
        clear hv
        by_cases hw : k < len1
        · have hw' : (k : Int) < (len1 : Int) := by omega
          obtain ⟨u, hu⟩ := get_some ts1 k (by rw [HT1.out]; exact hw)
          obtain ⟨x, rfl, hx⟩ := nat_u8 (HB1.out u (List.mem_of_getElem? hu))
          obtain ⟨ub, uo, rfl, hcu⟩ := (HU0.out.later T.out.below).at (i := k) (v := .int .u8 (x : Int)) (by simp [nums, hu])
          clear hu
          have hr : (x : Int) % 6 = 0 ∨ (x : Int) % 6 = 1 ∨ (x : Int) % 6 = 2 ∨ (x : Int) % 6 = 3 ∨ (x : Int) % 6 = 4 ∨ (x : Int) % 6 = 5 := by omega
          rcases hr with hr | hr | hr | hr | hr | hr
          · obtain ⟨f1, f2⟩ := set_out (t := t4 a b c d) rfl (k := -1) (v := v) (by decide) (by decide) (by decide)
            obtain ⟨N, hN⟩ : ∃ N, Hid (doN [t4 a b c d] (cmSet 5 (-1) v) 0 = N) := ⟨_, rfl⟩
            have C := act_do (c := cmSet 5 (-1) v) (id := 0) T.out (cm_in (by omega) (by omega)) (inI_small (by decide) (by decide)) hN (hid f1) (hid f2)
            clear f1 f2
            go_wp2_with fail
            with_reducible refine C.mono ?_
            rintro z W5 ⟨rfl, T5, hK5⟩
            have P5 := hid (hK5.at (g := wb) (by simp) P.out)
            have T5h := hid T5
            clear C T P hcv hcu hK5
            obtain ⟨vb', vo', hve, hcv⟩ := (HV0.out.later T5.below).at (i := k) (v := .int .i16 v) (by simp [nums, hvh.out])
            obtain ⟨rfl, rfl⟩ : vb = vb' ∧ vo = vo' := by simpa using hve
            clear hve T5
            have cP := cells_at P5.out
            have lP := lt_of_at P5.out
            go_wp2_with fail
            go_roundw
            case rel => exact ⟨k + 1, a, b, c, d, by omega, by go_num, T5h, P5⟩
            case measure => simp [intOf]; omega
          · obtain ⟨f1, f2⟩ := set_one (t := t4 a b c d) rfl T.out.good (k := 0) (v := v) (by decide) (by decide)
            rw [setT_0] at f2
            obtain ⟨N, hN⟩ : ∃ N, Hid (doN [t4 a b c d] (cmSet 5 (0) v) 0 = N) := ⟨_, rfl⟩
            have C := act_do (c := cmSet 5 (0) v) (id := 0) T.out (cm_in (by omega) (by omega)) (inI_small (by decide) (by decide)) hN (hid f1) (hid f2)
            clear f1 f2
            go_wp2_with fail
            with_reducible refine C.mono ?_
            rintro z W5 ⟨rfl, T5, hK5⟩
            have P5 := hid (hK5.at (g := wb) (by simp) P.out)
            have T5h := hid T5
            clear C T P hcv hcu hK5
            obtain ⟨vb', vo', hve, hcv⟩ := (HV0.out.later T5.below).at (i := k) (v := .int .i16 v) (by simp [nums, hvh.out])
            obtain ⟨rfl, rfl⟩ : vb = vb' ∧ vo = vo' := by simpa using hve
            clear hve T5
            have cP := cells_at P5.out
            have lP := lt_of_at P5.out
            go_wp2_with fail
            go_roundw
            case rel => exact ⟨k + 1, v, b, c, d, by omega, by go_num, T5h.out.off (off_set1 _ _ _ _) (by simp) hlo.out, set_at P5.out _ rfl⟩
            case measure => simp [intOf]; omega
          · obtain ⟨f1, f2⟩ := set_one (t := t4 a b c d) rfl T.out.good (k := 1) (v := v) (by decide) (by decide)
            rw [setT_1] at f2
            obtain ⟨N, hN⟩ : ∃ N, Hid (doN [t4 a b c d] (cmSet 5 (1) v) 0 = N) := ⟨_, rfl⟩
            have C := act_do (c := cmSet 5 (1) v) (id := 0) T.out (cm_in (by omega) (by omega)) (inI_small (by decide) (by decide)) hN (hid f1) (hid f2)
            clear f1 f2
            go_wp2_with fail
            with_reducible refine C.mono ?_
            rintro z W5 ⟨rfl, T5, hK5⟩
            have P5 := hid (hK5.at (g := wb) (by simp) P.out)
            have T5h := hid T5
            clear C T P hcv hcu hK5
            obtain ⟨vb', vo', hve, hcv⟩ := (HV0.out.later T5.below).at (i := k) (v := .int .i16 v) (by simp [nums, hvh.out])
            obtain ⟨rfl, rfl⟩ : vb = vb' ∧ vo = vo' := by simpa using hve
            clear hve T5
            have cP := cells_at P5.out
            have lP := lt_of_at P5.out
            go_wp2_with fail
            go_roundw
            case rel => exact ⟨k + 1, a, v, c, d, by omega, by go_num, T5h.out.off (off_set1 _ _ _ _) (by simp) hlo.out, set_at P5.out _ rfl⟩
            case measure => simp [intOf]; omega
          · obtain ⟨f1, f2⟩ := set_one (t := t4 a b c d) rfl T.out.good (k := 2) (v := v) (by decide) (by decide)
            rw [setT_2] at f2
            obtain ⟨N, hN⟩ : ∃ N, Hid (doN [t4 a b c d] (cmSet 5 (2) v) 0 = N) := ⟨_, rfl⟩
            have C := act_do (c := cmSet 5 (2) v) (id := 0) T.out (cm_in (by omega) (by omega)) (inI_small (by decide) (by decide)) hN (hid f1) (hid f2)
            clear f1 f2
            go_wp2_with fail
            with_reducible refine C.mono ?_
            rintro z W5 ⟨rfl, T5, hK5⟩
            have P5 := hid (hK5.at (g := wb) (by simp) P.out)
            have T5h := hid T5
            clear C T P hcv hcu hK5
            obtain ⟨vb', vo', hve, hcv⟩ := (HV0.out.later T5.below).at (i := k) (v := .int .i16 v) (by simp [nums, hvh.out])
            obtain ⟨rfl, rfl⟩ : vb = vb' ∧ vo = vo' := by simpa using hve
            clear hve T5
            have cP := cells_at P5.out
            have lP := lt_of_at P5.out
            go_wp2_with fail
            go_roundw
            case rel => exact ⟨k + 1, a, b, v, d, by omega, by go_num, T5h.out.off (off_set1 _ _ _ _) (by simp) hlo.out, set_at P5.out _ rfl⟩
            case measure => simp [intOf]; omega
          · obtain ⟨f1, f2⟩ := set_one (t := t4 a b c d) rfl T.out.good (k := 3) (v := v) (by decide) (by decide)
            rw [setT_3] at f2
            obtain ⟨N, hN⟩ : ∃ N, Hid (doN [t4 a b c d] (cmSet 5 (3) v) 0 = N) := ⟨_, rfl⟩
            have C := act_do (c := cmSet 5 (3) v) (id := 0) T.out (cm_in (by omega) (by omega)) (inI_small (by decide) (by decide)) hN (hid f1) (hid f2)
            clear f1 f2
            go_wp2_with fail
            with_reducible refine C.mono ?_
            rintro z W5 ⟨rfl, T5, hK5⟩
            have P5 := hid (hK5.at (g := wb) (by simp) P.out)
            have T5h := hid T5
            clear C T P hcv hcu hK5
            obtain ⟨vb', vo', hve, hcv⟩ := (HV0.out.later T5.below).at (i := k) (v := .int .i16 v) (by simp [nums, hvh.out])
            obtain ⟨rfl, rfl⟩ : vb = vb' ∧ vo = vo' := by simpa using hve
            clear hve T5
            have cP := cells_at P5.out
            have lP := lt_of_at P5.out
            go_wp2_with fail
            go_roundw
            case rel => exact ⟨k + 1, a, b, c, v, by omega, by go_num, T5h.out.off (off_set1 _ _ _ _) (by simp) hlo.out, set_at P5.out _ rfl⟩
            case measure => simp [intOf]; omega
          · obtain ⟨f1, f2⟩ := set_out (t := t4 a b c d) rfl (k := 4) (v := v) (by decide) (by decide) (by decide)
            obtain ⟨N, hN⟩ : ∃ N, Hid (doN [t4 a b c d] (cmSet 5 (4) v) 0 = N) := ⟨_, rfl⟩
            have C := act_do (c := cmSet 5 (4) v) (id := 0) T.out (cm_in (by omega) (by omega)) (inI_small (by decide) (by decide)) hN (hid f1) (hid f2)
            clear f1 f2
            go_wp2_with fail
            with_reducible refine C.mono ?_
            rintro z W5 ⟨rfl, T5, hK5⟩
            have P5 := hid (hK5.at (g := wb) (by simp) P.out)
            have T5h := hid T5
            clear C T P hcv hcu hK5
            obtain ⟨vb', vo', hve, hcv⟩ := (HV0.out.later T5.below).at (i := k) (v := .int .i16 v) (by simp [nums, hvh.out])
            obtain ⟨rfl, rfl⟩ : vb = vb' ∧ vo = vo' := by simpa using hve
            clear hve T5
            have cP := cells_at P5.out
            have lP := lt_of_at P5.out
            go_wp2_with fail
            go_roundw
            case rel => exact ⟨k + 1, a, b, c, d, by omega, by go_num, T5h, P5⟩
            case measure => simp [intOf]; omega
        · have hw' : ¬ (k : Int) < (len1 : Int) := by omega
          have hr : (k : Int).tmod 4 = 0 ∨ (k : Int).tmod 4 = 1 ∨ (k : Int).tmod 4 = 2 ∨ (k : Int).tmod 4 = 3 := by rw [Int.tmod_eq_emod_of_nonneg (by omega)]; omega
          rcases hr with hr | hr | hr | hr
          · obtain ⟨f1, f2⟩ := set_one (t := t4 a b c d) rfl T.out.good (k := 0) (v := v) (by decide) (by decide)
            rw [setT_0] at f2
            obtain ⟨N, hN⟩ : ∃ N, Hid (doN [t4 a b c d] (cmSet 5 (0) v) 0 = N) := ⟨_, rfl⟩
            have C := act_do (c := cmSet 5 (0) v) (id := 0) T.out (cm_in (by omega) (by omega)) (inI_small (by decide) (by decide)) hN (hid f1) (hid f2)
            clear f1 f2
            go_wp2_with fail
            with_reducible refine C.mono ?_
            rintro z W5 ⟨rfl, T5, hK5⟩
            have P5 := hid (hK5.at (g := wb) (by simp) P.out)
            have T5h := hid T5
            clear C T P hcv hK5
            obtain ⟨vb', vo', hve, hcv⟩ := (HV0.out.later T5.below).at (i := k) (v := .int .i16 v) (by simp [nums, hvh.out])
            obtain ⟨rfl, rfl⟩ : vb = vb' ∧ vo = vo' := by simpa using hve
            clear hve T5
            have cP := cells_at P5.out
            have lP := lt_of_at P5.out
            go_wp2_with fail
            go_roundw
            case rel => exact ⟨k + 1, v, b, c, d, by omega, by go_num, T5h.out.off (off_set1 _ _ _ _) (by simp) hlo.out, set_at P5.out _ rfl⟩
            case measure => simp [intOf]; omega
          · obtain ⟨f1, f2⟩ := set_one (t := t4 a b c d) rfl T.out.good (k := 1) (v := v) (by decide) (by decide)
            rw [setT_1] at f2
            obtain ⟨N, hN⟩ : ∃ N, Hid (doN [t4 a b c d] (cmSet 5 (1) v) 0 = N) := ⟨_, rfl⟩
            have C := act_do (c := cmSet 5 (1) v) (id := 0) T.out (cm_in (by omega) (by omega)) (inI_small (by decide) (by decide)) hN (hid f1) (hid f2)
            clear f1 f2
            go_wp2_with fail
            with_reducible refine C.mono ?_
            rintro z W5 ⟨rfl, T5, hK5⟩
            have P5 := hid (hK5.at (g := wb) (by simp) P.out)
            have T5h := hid T5
            clear C T P hcv hK5
            obtain ⟨vb', vo', hve, hcv⟩ := (HV0.out.later T5.below).at (i := k) (v := .int .i16 v) (by simp [nums, hvh.out])
            obtain ⟨rfl, rfl⟩ : vb = vb' ∧ vo = vo' := by simpa using hve
            clear hve T5
            have cP := cells_at P5.out
            have lP := lt_of_at P5.out
            go_wp2_with fail
            go_roundw
            case rel => exact ⟨k + 1, a, v, c, d, by omega, by go_num, T5h.out.off (off_set1 _ _ _ _) (by simp) hlo.out, set_at P5.out _ rfl⟩
            case measure => simp [intOf]; omega
          · obtain ⟨f1, f2⟩ := set_one (t := t4 a b c d) rfl T.out.good (k := 2) (v := v) (by decide) (by decide)
            rw [setT_2] at f2
            obtain ⟨N, hN⟩ : ∃ N, Hid (doN [t4 a b c d] (cmSet 5 (2) v) 0 = N) := ⟨_, rfl⟩
            have C := act_do (c := cmSet 5 (2) v) (id := 0) T.out (cm_in (by omega) (by omega)) (inI_small (by decide) (by decide)) hN (hid f1) (hid f2)
            clear f1 f2
            go_wp2_with fail
            with_reducible refine C.mono ?_
            rintro z W5 ⟨rfl, T5, hK5⟩
            have P5 := hid (hK5.at (g := wb) (by simp) P.out)
            have T5h := hid T5
            clear C T P hcv hK5
            obtain ⟨vb', vo', hve, hcv⟩ := (HV0.out.later T5.below).at (i := k) (v := .int .i16 v) (by simp [nums, hvh.out])
            obtain ⟨rfl, rfl⟩ : vb = vb' ∧ vo = vo' := by simpa using hve
            clear hve T5
            have cP := cells_at P5.out
            have lP := lt_of_at P5.out
            go_wp2_with fail
            go_roundw
            case rel => exact ⟨k + 1, a, b, v, d, by omega, by go_num, T5h.out.off (off_set1 _ _ _ _) (by simp) hlo.out, set_at P5.out _ rfl⟩
            case measure => simp [intOf]; omega
          · obtain ⟨f1, f2⟩ := set_one (t := t4 a b c d) rfl T.out.good (k := 3) (v := v) (by decide) (by decide)
            rw [setT_3] at f2
            obtain ⟨N, hN⟩ : ∃ N, Hid (doN [t4 a b c d] (cmSet 5 (3) v) 0 = N) := ⟨_, rfl⟩
            have C := act_do (c := cmSet 5 (3) v) (id := 0) T.out (cm_in (by omega) (by omega)) (inI_small (by decide) (by decide)) hN (hid f1) (hid f2)
            clear f1 f2
            go_wp2_with fail
            with_reducible refine C.mono ?_
            rintro z W5 ⟨rfl, T5, hK5⟩
            have P5 := hid (hK5.at (g := wb) (by simp) P.out)
            have T5h := hid T5
            clear C T P hcv hK5
            obtain ⟨vb', vo', hve, hcv⟩ := (HV0.out.later T5.below).at (i := k) (v := .int .i16 v) (by simp [nums, hvh.out])
            obtain ⟨rfl, rfl⟩ : vb = vb' ∧ vo = vo' := by simpa using hve
            clear hve T5
            have cP := cells_at P5.out
            have lP := lt_of_at P5.out
            go_wp2_with fail
            go_roundw
            case rel => exact ⟨k + 1, a, b, c, v, by omega, by go_num, T5h.out.off (off_set1 _ _ _ _) (by simp) hlo.out, set_at P5.out _ rfl⟩
            case measure => simp [intOf]; omega
      · obtain rfl : k = len0 := by omega
        have hlt' : ¬ (k : Int) < (k : Int) := by omega
        go_wp2_with fail
        with_reducible refine (tk_get T.out (id := 5) (inI_small (by decide) (by decide)) (t := t4 a b c d) (q := true) (hid rfl) (hid rfl)).mono ?_
        rintro z W5 ⟨rfl, hb5⟩
        obtain ⟨W6, hW6⟩ : ∃ W6, W5.alloc (t4 a b c d).o = W6 := ⟨_, rfl⟩
        have hb6 : Below wr.heap.size wr W6 := by rw [← hW6]; exact hb5.alloc hb5.size _
        have J6 := hid (show W6.heap[W5.heap.size]? = some (t4 a b c d).o by rw [← hW6]; exact new_at _ _ _ rfl)
        have P6 := hid (var_on hb6 P.out (lt_of_at P.out))
        have hB6 := below_on hb0 (T.out.later hb6).below
        unfold Th.o at hW6
        simp only at hW6
        have HW6 := hid hW6
        clear hW6 hb5 hb6 T P
        go_upto_region 20 with fail
        rw [HW6.out]
        clear HW6
        have hQ : ∀ W, (Op.equalIn 10000 27 (.agg #[.int .i64 a, .string ⟨#[]⟩, .int .i64 b, .string ⟨#[]⟩, .int .i64 c, .string ⟨#[]⟩, .int .i64 d, .string ⟨#[]⟩]) (.agg #[.int .i64 a, .string ⟨#[]⟩, .int .i64 b, .string ⟨#[]⟩, .int .i64 c, .string ⟨#[]⟩, .int .i64 d, .string ⟨#[]⟩])).run Tryz.prog W = .ok true W := fun W => by
          have := equal_fs10 W ⟨a, ⟨#[]⟩⟩ ⟨b, ⟨#[]⟩⟩ ⟨c, ⟨#[]⟩⟩ ⟨d, ⟨#[]⟩⟩ ⟨a, ⟨#[]⟩⟩ ⟨b, ⟨#[]⟩⟩ ⟨c, ⟨#[]⟩⟩ ⟨d, ⟨#[]⟩⟩
          rw [eqF_self, eqF_self, eqF_self, eqF_self] at this
          exact this
        have cJ := cells_at J6.out
        have cP := cells_at P6.out
        go_wp2_with fail
        go_ret
        exact ⟨rfl, hB6⟩

theorem actSets_own : ownKnob Tryz.prog.godebug = none := by kernel_rfl
theorem actSets_laidOut : laidOutB Tryz.prog = true := by kernel_rfl
set_option maxRecDepth 100000 in
theorem actSets_lifted (os : Os) (started : os.Started) (H : Type) (enc : TypeId × Value → H) :
    ReturnsInHanded {} Tryz.checked os 7 .any (fun w args => (Rows.actSetsSpec.pre enc Tryz.prog Tryz.f7 [] false w args ∧ laidMetH Tryz.prog laids w) ∧ sizedMet enc Tryz.prog Tryz.f7 (OpenSpec.ofChange Rows.actSetsSpec) false w args) (Rows.actSetsSpec.post enc Tryz.prog Tryz.f7 false true false false) := by
  refine returnsInHanded_of_change_and (C := Tryz.checked) (X := fun w _ => laidMetH Tryz.prog laids w) (fun _ _ _ hh h => h.of_heap hh) own_knob started (by kernel_rfl) Tryz.func7
    (ChangeSpec.witness_shaped (enc := enc) (C := Tryz.checked) (os := os) (X := fun w _ => laidMetH Tryz.prog laids w) false (World.laidAll Tryz.prog os laids) #[.slice none 0 0, .slice none 0 0] 8 rfl (World.shaped_of_ZipB (by kernel_rfl) (by kernel_rfl)) (by kernel_rfl) (by kernel_rfl) (by kernel_rfl) (door_met os _)) ?_
  intro W base args ds gs before hval0 hW _ _ hL _
  have hval : ∀ (j : Nat) t v, Tryz.f7.params[j]? = some t → args[j]? = some v → Value.okWide Tryz.prog W .any base t v := hval0
  have hW' := hW
  obtain ⟨p, q, hA0, hV, rfl, hfz, hnd⟩ := hW
  have hA : DataW.TrodAll enc Tryz.prog W 0 (fun _ => true) true Tryz.f7.params.toList args.toList ds p := hA0
  rw [Tryz.params7] at hA hval
  obtain ⟨v0, vs0, d0, ds0, p0, q0, hargs, rfl, rfl, h0, r0⟩ := trodAll_cons hA
  obtain ⟨v1, vs1, d1, ds1, p1, q1, rfl, rfl, rfl, h1, r1⟩ := trodAll_cons r0
  obtain ⟨rfl, rfl, rfl⟩ := trodAll_nil r1
  obtain rfl : args = #[v0, v1] := by cases args; simp_all
  obtain ⟨rfl, rfl⟩ := trodVars_none hV
  have k0 := h0
  have lt0 : ∀ x ∈ p0, x.block < W.heap.size := by obtain ⟨m, hm⟩ := k0; exact DataW.trod_lt m _ _ _ hm
  have k1 := h1
  have lt1 : ∀ x ∈ p1, x.block < W.heap.size := by obtain ⟨m, hm⟩ := k1; exact DataW.trod_lt m _ _ _ hm
  obtain ⟨a0, len0, cap0, rfl⟩ := okWide_slice Tryz.underlying56 (hval 0 56 v0 rfl rfl)
  obtain ⟨ts0, ht0, hb0, hr0, hl0⟩ : ∃ ts0 : List Int, ts0.length = len0 ∧ (∀ n ∈ ts0, (Lit.int .i16 n).wf = true) ∧ RowIs W a0 (nums .i16 ts0) ∧ len0 ≤ maxLen := by
    obtain ⟨fuel, hf⟩ := h0
    rcases open_ints Tryz.underlying56 Tryz.underlying58 (by kernel_rfl) hf with ⟨hcs, _⟩ | ⟨x, l, c, ss, hcs, _, hl, hm, hz, _, hcell, hws⟩
    · simp [Value.cells] at hcs
      obtain ⟨rfl, rfl, rfl⟩ := hcs
      exact ⟨[], rfl, by simp, .inl rfl, by unfold maxLen; omega⟩
    · simp [Value.cells] at hcs
      obtain ⟨rfl, rfl, rfl⟩ := hcs
      have hz' : ss.length = cap0 := by simpa using hz
      obtain ⟨ts, e1, e2, e3⟩ := row_ints (len := len0) (by omega) hcell hws
      exact ⟨ts, e1, e2, e3, by omega⟩
  obtain ⟨a1, len1, cap1, rfl⟩ := okWide_slice Tryz.underlying57 (hval 1 57 v1 rfl rfl)
  obtain ⟨ts1, ht1, hb1, hr1, hl1⟩ : ∃ ts1 : List Int, ts1.length = len1 ∧ (∀ n ∈ ts1, (Lit.int .u8 n).wf = true) ∧ RowIs W a1 (nums .u8 ts1) ∧ len1 ≤ maxLen := by
    obtain ⟨fuel, hf⟩ := h1
    rcases open_ints Tryz.underlying57 Tryz.underlying5 (by kernel_rfl) hf with ⟨hcs, _⟩ | ⟨x, l, c, ss, hcs, _, hl, hm, hz, _, hcell, hws⟩
    · simp [Value.cells] at hcs
      obtain ⟨rfl, rfl, rfl⟩ := hcs
      exact ⟨[], rfl, by simp, .inl rfl, by unfold maxLen; omega⟩
    · simp [Value.cells] at hcs
      obtain ⟨rfl, rfl, rfl⟩ := hcs
      have hz' : ss.length = cap1 := by simpa using hz
      obtain ⟨ts, e1, e2, e3⟩ := row_ints (len := len1) (by omega) hcell hws
      exact ⟨ts, e1, e2, e3, by omega⟩
  clear hA0 hval0
  refine (actSets_walk W (of_laid hL) a0 len0 cap0 ts0 ht0 hb0 hr0 hl0 a1 len1 cap1 ts1 ht1 hb1 hr1 hl1).mono fun e W' ⟨he, bel⟩ => ?_
  subst he
  exact ⟨_, rfl, _, _, _, [], _, [], hW', trodAll_mk1 (shut_bool Tryz.underlying4 _), (trodAll_cons_mk (Below.trod actSets_laidOut (by kernel_rfl) (of_decide_eq_true (by kernel_rfl)) k0 bel lt0) (trodAll_cons_mk (Below.trod actSets_laidOut (by kernel_rfl) (of_decide_eq_true (by kernel_rfl)) k1 bel lt1) trodAll_mk0)), rfl, bel.frame _, fun h => by cases h⟩

theorem actSets_over : Rows.actSetsRow.holds Tryz.pinned (OpenSpec.ofChange Rows.actSetsSpec) :=
  OpenClaim.holds_of_wide 7 Tryz.f7 rfl rfl rfl rfl rfl rfl rfl ⟨rfl, rfl, rfl, rfl, rfl⟩ rfl rfl rfl rfl rfl (by kernel_rfl) Tryz.func7 (by kernel_rfl)
    (of_decide_eq_true (by kernel_rfl)) (by unfold Func.isWrapper; first | (rw [if_pos (by decide +kernel)]; kernel_rfl) | (rw [if_neg (by decide +kernel)]; exact ⟨rfl, rfl⟩))
    (fun os started H enc _ => actSets_lifted os started H enc)

theorem actSets_holds : Rows.ActSetsCardSaid :=
  Claim7.holds_tied_plain_at .later [] [.data] true (true, "1919ae3e01ed290595ecd728dedadbf3595aed4e12085d5cd48cf18869062282") false
    actSets_over (fun _ h => by cases h) (by kernel_rfl) (fun _ h => by cases h) actSets_row_tie rfl ⟨rfl, rfl⟩ (by kernel_rfl) rfl
    (fun f fn hf hfn => by
      obtain rfl : f = 7 := Option.some.inj ((show Tryz.prog.funcNamed "vedette/vedettelaw11.ActSets" = some 7 by kernel_rfl).symm.trans hf) |>.symm
      obtain rfl : fn = Tryz.f7 := (Option.some.inj (Tryz.func7.symm.trans hfn)).symm
      exact ⟨by kernel_rfl, fun j t ht => by
        rw [Tryz.params7] at ht
        have hm : t ∈ [56, 57] := by simpa using Array.mem_of_getElem? ht
        have hall : ([56, 57].all fun u => !Tryz.prog.wantsStandIn u) = true := by kernel_rfl
        exact (show Tryz.prog.wantsStandIn t = false by simpa using List.all_eq_true.1 hall t hm)⟩)
    (by kernel_rfl)
#print axioms actSets_holds
end Go.Proofs.YthmnbphpjmfckaaGreatDoor
