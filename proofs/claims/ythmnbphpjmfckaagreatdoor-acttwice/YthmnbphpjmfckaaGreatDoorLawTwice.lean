/- For every number and every two points: a thing that is put can not be put again; dropped it can not be dropped, moved, set; its number may be put anew; and it may be moved just where the map is. No conditions. -/
import Derived.Test.YthmnbphpjmfckaaGreatDoorAcW
import Derived.Test.YthmnbphpjmfckaaGreatDoorCO
import Derived.Test.YthmnbphpjmfckaaGreatDoorCH
import Derived.Test.YthmnbphpjmfckaaGreatDoorLaid
import Derived.Test.YthmnbphpjmfckaaGreatDoorCards
import Derived.Test.YthmnbphpjmfckaaGreatDoorTie
import Derived.SevenTiedAt
import Derived.ProofKit
import Derived.OpenShut
import Derived.ShutString
import Derived.ChangeOld
import Derived.Below
import Derived.SizedLaws
namespace Go.Proofs.YthmnbphpjmfckaaGreatDoor
open Go.ChangeShapes Go.WideShapes Go.ChangeAt Go.RowKit
open Go.ChangeMaps (open_string shut_string)
set_option linter.unusedVariables false

theorem want_cases (u v : Int) : (wantE u v = 11 ∧ decide (u < -1000) = true ∧ decide (0 ≤ u) = false) ∨ (wantE u v = 11 ∧ decide (u < -1000) = false ∧ decide (1000 < u) = true ∧ decide (0 ≤ u) = true ∧ decide (u < 64) = false) ∨ (wantE u v = 11 ∧ decide (u < -1000) = false ∧ decide (1000 < u) = false ∧ decide (v < -1000) = true ∧ decide (0 ≤ u) = false) ∨ (wantE u v = 11 ∧ decide (u < -1000) = false ∧ decide (1000 < u) = false ∧ decide (v < -1000) = true ∧ decide (0 ≤ u) = true ∧ decide (u < 64) = false) ∨ (wantE u v = 11 ∧ decide (u < -1000) = false ∧ decide (1000 < u) = false ∧ decide (v < -1000) = true ∧ decide (0 ≤ u) = true ∧ decide (u < 64) = true ∧ decide (0 ≤ v) = false) ∨ (wantE u v = 11 ∧ decide (u < -1000) = false ∧ decide (1000 < u) = false ∧ decide (v < -1000) = false ∧ decide (1000 < v) = true ∧ decide (0 ≤ u) = false) ∨ (wantE u v = 11 ∧ decide (u < -1000) = false ∧ decide (1000 < u) = false ∧ decide (v < -1000) = false ∧ decide (1000 < v) = true ∧ decide (0 ≤ u) = true ∧ decide (u < 64) = false) ∨ (wantE u v = 11 ∧ decide (u < -1000) = false ∧ decide (1000 < u) = false ∧ decide (v < -1000) = false ∧ decide (1000 < v) = true ∧ decide (0 ≤ u) = true ∧ decide (u < 64) = true ∧ decide (0 ≤ v) = true ∧ decide (v < 64) = false) ∨ (wantE u v = 14 ∧ decide (u < -1000) = false ∧ decide (1000 < u) = false ∧ decide (v < -1000) = false ∧ decide (1000 < v) = false ∧ decide (0 ≤ u) = false) ∨ (wantE u v = 14 ∧ decide (u < -1000) = false ∧ decide (1000 < u) = false ∧ decide (v < -1000) = false ∧ decide (1000 < v) = false ∧ decide (0 ≤ u) = true ∧ decide (u < 64) = false) ∨ (wantE u v = 14 ∧ decide (u < -1000) = false ∧ decide (1000 < u) = false ∧ decide (v < -1000) = false ∧ decide (1000 < v) = false ∧ decide (0 ≤ u) = true ∧ decide (u < 64) = true ∧ decide (0 ≤ v) = false) ∨ (wantE u v = 14 ∧ decide (u < -1000) = false ∧ decide (1000 < u) = false ∧ decide (v < -1000) = false ∧ decide (1000 < v) = false ∧ decide (0 ≤ u) = true ∧ decide (u < 64) = true ∧ decide (0 ≤ v) = true ∧ decide (v < 64) = false) ∨ (wantE u v = 0 ∧ decide (u < -1000) = false ∧ decide (1000 < u) = false ∧ decide (v < -1000) = false ∧ decide (1000 < v) = false ∧ decide (0 ≤ u) = true ∧ decide (u < 64) = true ∧ decide (0 ≤ v) = true ∧ decide (v < 64) = true) := by
  unfold wantE
  by_cases a : u < -1000
  · exact .inl ⟨(if_pos (show u < -1000 ∨ 1000 < u ∨ v < -1000 ∨ 1000 < v from by omega)), decide_eq_true (by omega), decide_eq_false (by omega)⟩
  · by_cases b : 1000 < u
    · exact .inr (.inl ⟨(if_pos (show u < -1000 ∨ 1000 < u ∨ v < -1000 ∨ 1000 < v from by omega)), decide_eq_false (by omega), decide_eq_true (by omega), decide_eq_true (by omega), decide_eq_false (by omega)⟩)
    · by_cases d : v < -1000
      · by_cases e : 0 ≤ u
        · by_cases f : u < 64
          · exact .inr (.inr (.inr (.inr (.inl ⟨(if_pos (show u < -1000 ∨ 1000 < u ∨ v < -1000 ∨ 1000 < v from by omega)), decide_eq_false (by omega), decide_eq_false (by omega), decide_eq_true (by omega), decide_eq_true (by omega), decide_eq_true (by omega), decide_eq_false (by omega)⟩))))
          · exact .inr (.inr (.inr (.inl ⟨(if_pos (show u < -1000 ∨ 1000 < u ∨ v < -1000 ∨ 1000 < v from by omega)), decide_eq_false (by omega), decide_eq_false (by omega), decide_eq_true (by omega), decide_eq_true (by omega), decide_eq_false (by omega)⟩)))
        · exact .inr (.inr (.inl ⟨(if_pos (show u < -1000 ∨ 1000 < u ∨ v < -1000 ∨ 1000 < v from by omega)), decide_eq_false (by omega), decide_eq_false (by omega), decide_eq_true (by omega), decide_eq_false (by omega)⟩))
      · by_cases g : 1000 < v
        · by_cases e : 0 ≤ u
          · by_cases f : u < 64
            · exact .inr (.inr (.inr (.inr (.inr (.inr (.inr (.inl ⟨(if_pos (show u < -1000 ∨ 1000 < u ∨ v < -1000 ∨ 1000 < v from by omega)), decide_eq_false (by omega), decide_eq_false (by omega), decide_eq_false (by omega), decide_eq_true (by omega), decide_eq_true (by omega), decide_eq_true (by omega), decide_eq_true (by omega), decide_eq_false (by omega)⟩)))))))
            · exact .inr (.inr (.inr (.inr (.inr (.inr (.inl ⟨(if_pos (show u < -1000 ∨ 1000 < u ∨ v < -1000 ∨ 1000 < v from by omega)), decide_eq_false (by omega), decide_eq_false (by omega), decide_eq_false (by omega), decide_eq_true (by omega), decide_eq_true (by omega), decide_eq_false (by omega)⟩))))))
          · exact .inr (.inr (.inr (.inr (.inr (.inl ⟨(if_pos (show u < -1000 ∨ 1000 < u ∨ v < -1000 ∨ 1000 < v from by omega)), decide_eq_false (by omega), decide_eq_false (by omega), decide_eq_false (by omega), decide_eq_true (by omega), decide_eq_false (by omega)⟩)))))
        · by_cases e : 0 ≤ u
          · by_cases f : u < 64
            · by_cases h : 0 ≤ v
              · by_cases i : v < 64
                · exact .inr (.inr (.inr (.inr (.inr (.inr (.inr (.inr (.inr (.inr (.inr (.inr (⟨((if_neg (show ¬ (u < -1000 ∨ 1000 < u ∨ v < -1000 ∨ 1000 < v) from by omega)).trans (if_pos ((onB_iff u v).2 (by omega)))), decide_eq_false (by omega), decide_eq_false (by omega), decide_eq_false (by omega), decide_eq_false (by omega), decide_eq_true (by omega), decide_eq_true (by omega), decide_eq_true (by omega), decide_eq_true (by omega)⟩))))))))))))
                · exact .inr (.inr (.inr (.inr (.inr (.inr (.inr (.inr (.inr (.inr (.inr (.inl ⟨((if_neg (show ¬ (u < -1000 ∨ 1000 < u ∨ v < -1000 ∨ 1000 < v) from by omega)).trans (if_neg (fun h => by have := (onB_iff u v).1 h; omega))), decide_eq_false (by omega), decide_eq_false (by omega), decide_eq_false (by omega), decide_eq_false (by omega), decide_eq_true (by omega), decide_eq_true (by omega), decide_eq_true (by omega), decide_eq_false (by omega)⟩)))))))))))
              · exact .inr (.inr (.inr (.inr (.inr (.inr (.inr (.inr (.inr (.inr (.inl ⟨((if_neg (show ¬ (u < -1000 ∨ 1000 < u ∨ v < -1000 ∨ 1000 < v) from by omega)).trans (if_neg (fun h => by have := (onB_iff u v).1 h; omega))), decide_eq_false (by omega), decide_eq_false (by omega), decide_eq_false (by omega), decide_eq_false (by omega), decide_eq_true (by omega), decide_eq_true (by omega), decide_eq_false (by omega)⟩))))))))))
            · exact .inr (.inr (.inr (.inr (.inr (.inr (.inr (.inr (.inr (.inl ⟨((if_neg (show ¬ (u < -1000 ∨ 1000 < u ∨ v < -1000 ∨ 1000 < v) from by omega)).trans (if_neg (fun h => by have := (onB_iff u v).1 h; omega))), decide_eq_false (by omega), decide_eq_false (by omega), decide_eq_false (by omega), decide_eq_false (by omega), decide_eq_true (by omega), decide_eq_false (by omega)⟩)))))))))
          · exact .inr (.inr (.inr (.inr (.inr (.inr (.inr (.inr (.inl ⟨((if_neg (show ¬ (u < -1000 ∨ 1000 < u ∨ v < -1000 ∨ 1000 < v) from by omega)).trans (if_neg (fun h => by have := (onB_iff u v).1 h; omega))), decide_eq_false (by omega), decide_eq_false (by omega), decide_eq_false (by omega), decide_eq_false (by omega), decide_eq_false (by omega)⟩))))))))
set_option maxRecDepth 100000 in
set_option maxHeartbeats 4000000 in
theorem actTwice_walk (w : World) (hL : Masks w) (a0 : Int) (w0 : (Lit.int .u8 a0).wf = true) (a10 a11 a20 a21 : Int) :
    Calls Tryz.prog 6 #[.int .u8 a0, pt a10 a11, pt a20 a21] w fun e w' => e = .returned (.bool true) ∧ Below w.heap.size w w' := by
  obtain ⟨k, rfl, hk⟩ := nat_u8 w0
  obtain ⟨W, hW⟩ : ∃ W, W = (w.alloc (.cells #[.int .i64 a10, .int .i64 a11] 24)).alloc (.cells #[.int .i64 a20, .int .i64 a21] 24) := ⟨_, rfl⟩
  have hB : Below w.heap.size w W := by rw [hW]; exact Go.Joins.below_alloc2 _ _ _
  have P0 := hid (show W.heap[w.heap.size]? = some (.cells #[.int .i64 a10, .int .i64 a11] 24 (0, 0)) by rw [hW]; exact old_at (new_at _ _ _ rfl) _)
  have Q0 := hid (show W.heap[w.heap.size + 1]? = some (.cells #[.int .i64 a20, .int .i64 a21] 24 (0, 0)) by rw [hW]; exact new_at _ _ _ (by simp))
  have HM := hid (hL.below hB)
  have CK := known11 W HM.out
  clear hL w0
  go_enter Tryz.func6, Tryz.ntmps6
  go_upto_region 1 with fail
  rw [← hW]
  clear hW
  go_wp2_with fail
  refine CK.mono ?_
  rintro z W1 ⟨rfl, hb1⟩
  have HM1 := hid (HM.out.below hb1)
  have P1 := hid (var_on hb1 P0.out (lt_of_at P0.out))
  have Q1 := hid (var_on hb1 Q0.out (lt_of_at Q0.out))
  have hB1 := below_on hB hb1
  clear CK HM P0 Q0 hb1 hB
  go_wp2_with fail
  with_reducible refine (tk_new HM1.out).mono ?_
  rintro z W2 ⟨tb, rfl, T2⟩
  have P2 := hid (var_on T2.below P1.out (lt_of_at P1.out))
  clear HM1
  have cP := cells_at P2.out
  go_upto_region 6 with fail
  obtain ⟨X, hX⟩ : ∃ X, max 0 (min a10 63) = X := ⟨_, rfl⟩
  obtain ⟨Y, hY⟩ : ∃ Y, max 0 (min a11 63) = Y := ⟨_, rfl⟩
  have hon := hid (clamp_on a10 a11)
  rw [hX, hY] at hon ⊢
  clear hX hY cP
  obtain ⟨W3, hW3⟩ : ∃ W3, W2.alloc (.cells #[.int .i64 X, .int .i64 Y] 24) = W3 := ⟨_, rfl⟩
  have hb3 : Below W2.heap.size W2 W3 := by rw [← hW3]; exact below1 _ _
  have A3 := hid (show W3.heap[W2.heap.size]? = some (.cells #[.int .i64 X, .int .i64 Y] 24 (0, 0)) by rw [← hW3]; exact new_at _ _ _ rfl)
  have T3 := hid (T2.also hb3 (Nat.le_refl _) (lt_of_at A3.out))
  rw [hW3]
  clear hW3 hb3 T2 P1 P2
  obtain ⟨xa, hxa⟩ : ∃ xa, W2.heap.size = xa := ⟨_, rfl⟩
  rw [hxa] at A3 T3 ⊢
  clear hxa
  have cA := cells_at A3.out
  have hlA := lt_of_at A3.out
  go_upto_region 7 with (refine wpList_store_cm (c := cmPut X Y) rfl (.tmp 10) (.tmp 45) rfl rfl rfl (new_zero W3) ?_; intro W5 h5 hb5 hs5)
  have hb5' : Below W3.heap.size W3 W5 := hb5.below (below1 W3 _) (Nat.le_refl _)
  have C5 : Hid (W5.heap[W3.heap.size]? = some (cmPut X Y).o) := h5
  have A5 := hid (var_on hb5' A3.out hlA)
  have T5 := hid (T3.out.also hb5' (Nat.le_refl _) (lt_of_at h5))
  clear cA hlA h5 hb5 hs5 hb5' A3 T3
  obtain ⟨xp, hxp⟩ : ∃ xp, W3.heap.size = xp := ⟨_, rfl⟩
  rw [hxp] at C5 T5 ⊢
  clear hxp
  have hi : Hid (inI (k : Int)) := inI_small (by omega) (by omega)
  obtain ⟨f1, f2⟩ := one_put (k := (k : Int)) (by omega) (by omega) hon.out
  obtain ⟨N1, hN1⟩ : ∃ N, Hid (doN [] (cmPut X Y) (k : Int) = N) := ⟨_, rfl⟩
  go_wp2_with (with_reducible refine wpList_load_cm (c := cmPut X Y) rfl (.tmp 10) rfl rfl C5.out ?_)
  with_reducible refine (act_do (c := cmPut X Y) (id := (k : Int)) T5.out cm_in0 hi.out hN1 (hid f1) (hid f2)).mono ?_
  rintro z W6 ⟨rfl, T, hK⟩
  have C6 := hid (hK.at (g := xp) (by simp) C5.out)
  have A6 := hid (hK.at (g := xa) (by simp) A5.out)
  have T6 := hid T
  clear T hK C5 A5 T5 f1 f2 hN1
  obtain ⟨f1, f2⟩ := one_again (k := (k : Int)) (by omega) (by omega) hon.out
  obtain ⟨N2, hN2⟩ : ∃ N, Hid (doN [thN (k : Int) X Y] (cmPut X Y) (k : Int) = N) := ⟨_, rfl⟩
  go_wp2_with (with_reducible refine wpList_load_cm (c := cmPut X Y) rfl (.tmp 10) rfl rfl C6.out ?_)
  with_reducible refine (act_do (c := cmPut X Y) (id := (k : Int)) T6.out cm_in0 hi.out hN2 (hid f1) (hid f2)).mono ?_
  rintro z W7 ⟨rfl, T, hK⟩
  have C7 := hid (hK.at (g := xp) (by simp) C6.out)
  have A7 := hid (hK.at (g := xa) (by simp) A6.out)
  have T7 := hid T
  clear T hK C6 A6 T6 f1 f2 hN2
  obtain ⟨f1, f2⟩ := one_drop (k := (k : Int)) (by omega) (by omega) hon.out
  obtain ⟨N3, hN3⟩ : ∃ N, Hid (doN [thN (k : Int) X Y] (cmDrop (k : Int)) 0 = N) := ⟨_, rfl⟩
  go_wp2_with fail
  with_reducible refine (act_do (c := cmDrop (k : Int)) (id := 0) T7.out cm_in0 (inI_small (by decide) (by decide)) hN3 (hid f1) (hid f2)).mono ?_
  rintro z W8 ⟨rfl, T, hK⟩
  have C8 := hid (hK.at (g := xp) (by simp) C7.out)
  have A8 := hid (hK.at (g := xa) (by simp) A7.out)
  have T8 := hid T
  clear T hK C7 A7 T7 f1 f2 hN3
  obtain ⟨f1, f2⟩ := none_do (c := cmDrop (k : Int)) (is_dropC (by omega) (by omega)) (.inr (.inr rfl)) 0
  obtain ⟨N4, hN4⟩ : ∃ N, Hid (doN [] (cmDrop (k : Int)) 0 = N) := ⟨_, rfl⟩
  go_wp2_with fail
  with_reducible refine (act_do (c := cmDrop (k : Int)) (id := 0) T8.out cm_in0 (inI_small (by decide) (by decide)) hN4 (hid f1) (hid f2)).mono ?_
  rintro z W9 ⟨rfl, T, hK⟩
  have C9 := hid (hK.at (g := xp) (by simp) C8.out)
  have A9 := hid (hK.at (g := xa) (by simp) A8.out)
  have T9 := hid T
  clear T hK C8 A8 T8 f1 f2 hN4
  obtain ⟨⟨o1, o2⟩, o3, o4⟩ := on_small hon.out
  have hmv : Hid (isCm (cmMove (k : Int) X Y) = true) := is_moveC (by omega) (by omega) (by omega) (by omega) (by omega) (by omega)
  obtain ⟨f1, f2⟩ := none_do hmv.out (.inl rfl) 0
  obtain ⟨N5, hN5⟩ : ∃ N, Hid (doN [] (cmMove (k : Int) X Y) 0 = N) := ⟨_, rfl⟩
  have cA := cells_at A9.out
  clear o1 o2 o3 o4 hmv
  go_wp2_with fail
  with_reducible refine (act_do (c := cmMove (k : Int) X Y) (id := 0) T9.out cm_in0 (inI_small (by decide) (by decide)) hN5 (hid f1) (hid f2)).mono ?_
  rintro z W10 ⟨rfl, T, hK⟩
  have C10 := hid (hK.at (g := xp) (by simp) C9.out)
  have T10 := hid T
  clear T hK C9 A9 T9 f1 f2 hN5 cA
  obtain ⟨f1, f2⟩ := none_do (c := cmSet (k : Int) 0 0) (is_setC (by omega) (by omega) (by decide) (by decide)) (.inr (.inl rfl)) 0
  obtain ⟨N6, hN6⟩ : ∃ N, Hid (doN [] (cmSet (k : Int) 0 0) 0 = N) := ⟨_, rfl⟩
  go_wp2_with fail
  with_reducible refine (act_do (c := cmSet (k : Int) 0 0) (id := 0) T10.out cm_in0 (inI_small (by decide) (by decide)) hN6 (hid f1) (hid f2)).mono ?_
  rintro z W11 ⟨rfl, T, hK⟩
  have C11 := hid (hK.at (g := xp) (by simp) C10.out)
  have T11 := hid T
  clear T hK C10 T10 f1 f2 hN6
  obtain ⟨f1, f2⟩ := one_put (k := (k : Int)) (by omega) (by omega) hon.out
  obtain ⟨N7, hN7⟩ : ∃ N, Hid (doN [] (cmPut X Y) (k : Int) = N) := ⟨_, rfl⟩
  go_wp2_with (with_reducible refine wpList_load_cm (c := cmPut X Y) rfl (.tmp 10) rfl rfl C11.out ?_)
  with_reducible refine (act_do (c := cmPut X Y) (id := (k : Int)) T11.out cm_in0 hi.out hN7 (hid f1) (hid f2)).mono ?_
  rintro z W12 ⟨rfl, T, -⟩
  have T12 := hid T
  have Q12 := hid (var_on T.below Q1.out (lt_of_at Q1.out))
  clear T C11 T11 f1 f2 hN7 Q1
  have cQ := cells_at Q12.out
  have hlQ := lt_of_at Q12.out
  go_upto_region 15 with (refine wpList_store_cm (c := cmMove (k : Int) a20 a21) rfl (.tmp 25) (.tmp 98) rfl rfl rfl (new_zero W12) ?_; intro W13 h13 hb13 hs13)
  have hb13' : Below W12.heap.size W12 W13 := hb13.below (below1 W12 _) (Nat.le_refl _)
  have C13 : Hid (W13.heap[W12.heap.size]? = some (cmMove (k : Int) a20 a21).o) := h13
  have Q13 := hid (var_on hb13' Q12.out hlQ)
  have T13 := hid (T12.out.later hb13')
  clear cQ hlQ h13 hb13 hs13 hb13' Q12 T12
  obtain ⟨xt, hxt⟩ : ∃ xt, W12.heap.size = xt := ⟨_, rfl⟩
  rw [hxt] at C13 ⊢
  clear hxt
  obtain ⟨E, hE⟩ : ∃ E, Hid (wantE a20 a21 = E) := ⟨_, rfl⟩
  have hck : Hid (chk [thN (k : Int) X Y] (cmMove (k : Int) a20 a21) = E) := (one_check (by omega) (by omega) hon.out).trans hE.out
  go_wp2_with (with_reducible refine wpList_load_cm (c := cmMove (k : Int) a20 a21) rfl (.tmp 25) rfl rfl C13.out ?_)
  with_reducible refine (act_check (c := cmMove (k : Int) a20 a21) T13.out (in_sized cm_in0) hck).mono ?_
  rintro z W14 ⟨rfl, hb14⟩
  have Q14 := hid (var_on hb14 Q13.out (lt_of_at Q13.out))
  have hB14 := below_on hB1 (T13.out.later hb14).below
  clear hb14 Q13 T13 C13 hck hi hon hk
  have cQ := cells_at Q14.out
  clear Q14
  rcases want_cases a20 a21 with ⟨hw, h0, h1⟩ | ⟨hw, h0, h1, h2, h3⟩ | ⟨hw, h0, h1, h2, h3⟩ | ⟨hw, h0, h1, h2, h3, h4⟩ | ⟨hw, h0, h1, h2, h3, h4, h5⟩ | ⟨hw, h0, h1, h2, h3, h4⟩ | ⟨hw, h0, h1, h2, h3, h4, h5⟩ | ⟨hw, h0, h1, h2, h3, h4, h5, h6, h7⟩ | ⟨hw, h0, h1, h2, h3, h4⟩ | ⟨hw, h0, h1, h2, h3, h4, h5⟩ | ⟨hw, h0, h1, h2, h3, h4, h5, h6⟩ | ⟨hw, h0, h1, h2, h3, h4, h5, h6, h7⟩ | ⟨hw, h0, h1, h2, h3, h4, h5, h6, h7⟩
  · obtain rfl : 11 = E := hw.symm.trans hE.out
    clear hw hE
    go_wp2_with fail
    go_ret
    exact ⟨rfl, hB14⟩
  · obtain rfl : 11 = E := hw.symm.trans hE.out
    clear hw hE
    go_wp2_with fail
    go_ret
    exact ⟨rfl, hB14⟩
  · obtain rfl : 11 = E := hw.symm.trans hE.out
    clear hw hE
    go_wp2_with fail
    go_ret
    exact ⟨rfl, hB14⟩
  · obtain rfl : 11 = E := hw.symm.trans hE.out
    clear hw hE
    go_wp2_with fail
    go_ret
    exact ⟨rfl, hB14⟩
  · obtain rfl : 11 = E := hw.symm.trans hE.out
    clear hw hE
    go_wp2_with fail
    go_ret
    exact ⟨rfl, hB14⟩
  · obtain rfl : 11 = E := hw.symm.trans hE.out
    clear hw hE
    go_wp2_with fail
    go_ret
    exact ⟨rfl, hB14⟩
  · obtain rfl : 11 = E := hw.symm.trans hE.out
    clear hw hE
    go_wp2_with fail
    go_ret
    exact ⟨rfl, hB14⟩
  · obtain rfl : 11 = E := hw.symm.trans hE.out
    clear hw hE
    go_wp2_with fail
    go_ret
    exact ⟨rfl, hB14⟩
  · obtain rfl : 14 = E := hw.symm.trans hE.out
    clear hw hE
    go_wp2_with fail
    go_ret
    exact ⟨rfl, hB14⟩
  · obtain rfl : 14 = E := hw.symm.trans hE.out
    clear hw hE
    go_wp2_with fail
    go_ret
    exact ⟨rfl, hB14⟩
  · obtain rfl : 14 = E := hw.symm.trans hE.out
    clear hw hE
    go_wp2_with fail
    go_ret
    exact ⟨rfl, hB14⟩
  · obtain rfl : 14 = E := hw.symm.trans hE.out
    clear hw hE
    go_wp2_with fail
    go_ret
    exact ⟨rfl, hB14⟩
  · obtain rfl : 0 = E := hw.symm.trans hE.out
    clear hw hE
    go_wp2_with fail
    go_ret
    exact ⟨rfl, hB14⟩

theorem actTwice_own : ownKnob Tryz.prog.godebug = none := by kernel_rfl
theorem actTwice_laidOut : laidOutB Tryz.prog = true := by kernel_rfl
set_option maxRecDepth 100000 in
theorem actTwice_lifted (os : Os) (started : os.Started) (H : Type) (enc : TypeId × Value → H) :
    ReturnsInHanded {} Tryz.checked os 6 .any (fun w args => (Rows.actTwiceSpec.pre enc Tryz.prog Tryz.f6 [] false w args ∧ laidMetH Tryz.prog laids w) ∧ sizedMet enc Tryz.prog Tryz.f6 (OpenSpec.ofChange Rows.actTwiceSpec) false w args) (Rows.actTwiceSpec.post enc Tryz.prog Tryz.f6 false true false false) := by
  refine returnsInHanded_of_change_and (C := Tryz.checked) (X := fun w _ => laidMetH Tryz.prog laids w) (fun _ _ _ hh h => h.of_heap hh) own_knob started (by kernel_rfl) Tryz.func6
    (ChangeSpec.witness_shaped (enc := enc) (C := Tryz.checked) (os := os) (X := fun w _ => laidMetH Tryz.prog laids w) false (World.laidAll Tryz.prog os laids) #[.int .u8 0, .agg #[.int .i64 0, .int .i64 0], .agg #[.int .i64 0, .int .i64 0]] 8 rfl (World.shaped_of_ZipB (by kernel_rfl) (by kernel_rfl)) (by kernel_rfl) (by kernel_rfl) (by kernel_rfl) (door_met os _)) ?_
  intro W base args ds gs before hval0 hW _ _ hL _
  have hval : ∀ (j : Nat) t v, Tryz.f6.params[j]? = some t → args[j]? = some v → Value.okWide Tryz.prog W .any base t v := hval0
  have hW' := hW
  obtain ⟨p, q, hA0, hV, rfl, hfz, hnd⟩ := hW
  have hA : DataW.TrodAll enc Tryz.prog W 0 (fun _ => true) true Tryz.f6.params.toList args.toList ds p := hA0
  rw [Tryz.params6] at hA hval
  obtain ⟨v0, vs0, d0, ds0, p0, q0, hargs, rfl, rfl, h0, r0⟩ := trodAll_cons hA
  obtain ⟨v1, vs1, d1, ds1, p1, q1, rfl, rfl, rfl, h1, r1⟩ := trodAll_cons r0
  obtain ⟨v2, vs2, d2, ds2, p2, q2, rfl, rfl, rfl, h2, r2⟩ := trodAll_cons r1
  obtain ⟨rfl, rfl, rfl⟩ := trodAll_nil r2
  obtain rfl : args = #[v0, v1, v2] := by cases args; simp_all
  obtain ⟨rfl, rfl⟩ := trodVars_none hV
  have k0 := h0
  have lt0 : ∀ x ∈ p0, x.block < W.heap.size := by obtain ⟨m, hm⟩ := k0; exact DataW.trod_lt m _ _ _ hm
  have k1 := h1
  have lt1 : ∀ x ∈ p1, x.block < W.heap.size := by obtain ⟨m, hm⟩ := k1; exact DataW.trod_lt m _ _ _ hm
  have k2 := h2
  have lt2 : ∀ x ∈ p2, x.block < W.heap.size := by obtain ⟨m, hm⟩ := k2; exact DataW.trod_lt m _ _ _ hm
  obtain ⟨a0, rfl, rfl, rfl, w0⟩ := open_int Tryz.underlying5 (hval 0 5 v0 rfl rfl) h0
  obtain ⟨c10, c11, y10, y11, n1, rfl, rfl, rfl, t10, t11⟩ := Go.Joins.open_agg2 Tryz.underlying24 (by kernel_rfl) (by kernel_rfl) (hval 1 24 v1 rfl rfl) h1
  obtain ⟨a10, e10, -, w10⟩ := DataW.trod_int Tryz.underlying3 t10
  obtain rfl : c10 = .int .i64 a10 := by simpa using e10
  obtain ⟨a11, e11, -, w11⟩ := DataW.trod_int Tryz.underlying3 t11
  obtain rfl : c11 = .int .i64 a11 := by simpa using e11
  obtain ⟨c20, c21, y20, y21, n2, rfl, rfl, rfl, t20, t21⟩ := Go.Joins.open_agg2 Tryz.underlying24 (by kernel_rfl) (by kernel_rfl) (hval 2 24 v2 rfl rfl) h2
  obtain ⟨a20, e20, -, w20⟩ := DataW.trod_int Tryz.underlying3 t20
  obtain rfl : c20 = .int .i64 a20 := by simpa using e20
  obtain ⟨a21, e21, -, w21⟩ := DataW.trod_int Tryz.underlying3 t21
  obtain rfl : c21 = .int .i64 a21 := by simpa using e21
  clear hA0 hval0
  refine (actTwice_walk W (of_laid hL) a0 w0 a10 a11 a20 a21).mono fun e W' ⟨he, bel⟩ => ?_
  subst he
  exact ⟨_, rfl, _, _, _, [], _, [], hW', trodAll_mk1 (shut_bool Tryz.underlying4 _), (trodAll_cons_mk (Below.trod actTwice_laidOut (by kernel_rfl) (of_decide_eq_true (by kernel_rfl)) k0 bel lt0) (trodAll_cons_mk (Below.trod actTwice_laidOut (by kernel_rfl) (of_decide_eq_true (by kernel_rfl)) k1 bel lt1) (trodAll_cons_mk (Below.trod actTwice_laidOut (by kernel_rfl) (of_decide_eq_true (by kernel_rfl)) k2 bel lt2) trodAll_mk0))), rfl, bel.frame _, fun h => by cases h⟩

theorem actTwice_over : Rows.actTwiceRow.holds Tryz.pinned (OpenSpec.ofChange Rows.actTwiceSpec) :=
  OpenClaim.holds_of_wide 6 Tryz.f6 rfl rfl rfl rfl rfl rfl rfl ⟨rfl, rfl, rfl, rfl, rfl⟩ rfl rfl rfl rfl rfl (by kernel_rfl) Tryz.func6 (by kernel_rfl)
    (of_decide_eq_true (by kernel_rfl)) (by unfold Func.isWrapper; first | (rw [if_pos (by decide +kernel)]; kernel_rfl) | (rw [if_neg (by decide +kernel)]; exact ⟨rfl, rfl⟩))
    (fun os started H enc _ => actTwice_lifted os started H enc)

theorem actTwice_holds : Rows.ActTwiceCardSaid :=
  Claim7.holds_tied_plain_at .later [] [.data] true (true, "1919ae3e01ed290595ecd728dedadbf3595aed4e12085d5cd48cf18869062282") false
    actTwice_over (fun _ h => by cases h) (by kernel_rfl) (fun _ h => by cases h) actTwice_row_tie rfl ⟨rfl, rfl⟩ (by kernel_rfl) rfl
    (fun f fn hf hfn => by
      obtain rfl : f = 6 := Option.some.inj ((show Tryz.prog.funcNamed "vedette/vedettelaw11.ActTwice" = some 6 by kernel_rfl).symm.trans hf) |>.symm
      obtain rfl : fn = Tryz.f6 := (Option.some.inj (Tryz.func6.symm.trans hfn)).symm
      exact ⟨by kernel_rfl, fun j t ht => by
        rw [Tryz.params6] at ht
        have hm : t ∈ [5, 24, 24] := by simpa using Array.mem_of_getElem? ht
        have hall : ([5, 24, 24].all fun u => !Tryz.prog.wantsStandIn u) = true := by kernel_rfl
        exact (show Tryz.prog.wantsStandIn t = false by simpa using List.all_eq_true.1 hall t hm)⟩)
    (by kernel_rfl)
#print axioms actTwice_holds
end Go.Proofs.YthmnbphpjmfckaaGreatDoor
