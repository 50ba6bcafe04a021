/- Plain facts on one thing: put, put again, dropped, dropped again, moved, set, put anew; whether it may be moved anywhere. -/
import Derived.Test.YthmnbphpjmfckaaGreatDoorAcC
namespace Go.Proofs.YthmnbphpjmfckaaGreatDoor
open Go.RowKit
set_option linter.unusedVariables false
theorem one_in {id x y : Int} (h0 : 0 ≤ id) (h1 : id ≤ 1000000) (h : onB x y = true) : isT (thN id x y) = true := by
  rw [isT_eq]
  have e := isF_e
  have o : onB (thN id x y).x (thN id x y).y = true := h
  have z : (⟨0, ⟨#[]⟩⟩ : Fl) = zF := rfl
  simp [e, o, z, h0, h1]
theorem one_good {id x y : Int} (h0 : 0 ≤ id) (h1 : id ≤ 1000000) (h : onB x y = true) : Good [thN id x y] :=
  ⟨List.pairwise_singleton _ _, by simp, by simpa using one_in h0 h1 h, by simpa using thN_in id x y⟩
theorem cN_le (L : List Th) (x y : Int) : cN L x y ≤ L.length := by unfold cN inCell inT_r; exact List.length_filter_le _ _
theorem one_put {k x y : Int} (h0 : 0 ≤ k) (h1 : k ≤ 1000000) (h : onB x y = true) : doE [] (cmPut x y) k = 0 ∧ doL [] (cmPut x y) k = [thN k x y] := by
  obtain ⟨⟨a1, a2⟩, a3, a4⟩ := on_small h
  have hc : isCm (cmPut x y) = true := is_putC (by omega) (by omega) (by omega) (by omega)
  have hk : chk [] (cmPut x y) = 0 := by
    rw [chk_put hc rfl, if_neg (by rw [show onB (cmPut x y).x (cmPut x y).y = onB x y from rfl, h]; simp), if_neg (by simp), if_neg]
    rw [crowd_eq]
    have := cN_le [] (cmPut x y).x (cmPut x y).y
    simp at this ⊢
    omega
  have hb : badI [] (cmPut x y) k = false := by unfold badI hasT; simp; omega
  obtain ⟨d1, -, d3⟩ := do_ok .nil hk hb
  exact ⟨d1, d3.trans put_newL⟩
theorem one_again {k x y : Int} (h0 : 0 ≤ k) (h1 : k ≤ 1000000) (h : onB x y = true) : doE [thN k x y] (cmPut x y) k = 11 ∧ doL [thN k x y] (cmPut x y) k = [thN k x y] := by
  obtain ⟨⟨a1, a2⟩, a3, a4⟩ := on_small h
  have hc : isCm (cmPut x y) = true := is_putC (by omega) (by omega) (by omega) (by omega)
  have hk : chk [thN k x y] (cmPut x y) = 0 := by
    rw [chk_put hc rfl, if_neg (by rw [show onB (cmPut x y).x (cmPut x y).y = onB x y from rfl, h]; simp), if_neg (by simp), if_neg]
    rw [crowd_eq]
    have := cN_le [thN k x y] (cmPut x y).x (cmPut x y).y
    simp at this ⊢
    omega
  have hb : badI [thN k x y] (cmPut x y) k = true := by unfold badI hasT; simp
  obtain ⟨d1, -, d3⟩ := do_bad (one_good h0 h1 h) hk hb
  exact ⟨d1, d3⟩
theorem one_has (k x y : Int) : hasT k [thN k x y] = true := by unfold hasT; simp
theorem one_drop {k x y : Int} (h0 : 0 ≤ k) (h1 : k ≤ 1000000) (h : onB x y = true) : doE [thN k x y] (cmDrop k) 0 = 0 ∧ doL [thN k x y] (cmDrop k) 0 = [] := by
  have hk : chk [thN k x y] (cmDrop k) = 0 := by
    rw [chk_drop (is_dropC h0 h1) rfl, if_neg (by rw [show (cmDrop k).id = k from rfl, one_has]; simp)]
  obtain ⟨d1, -, d3⟩ := do_ok (id := 0) (one_good h0 h1 h) hk (badI_not (show ¬ (4 : Int) = 1 by decide))
  refine ⟨d1, d3.trans ?_⟩
  unfold newL
  rw [if_neg (show ¬ (4 : Int) = 1 by decide), if_neg (show ¬ (4 : Int) = 2 by decide), if_neg (show ¬ (4 : Int) = 3 by decide)]
  unfold outT
  simp
theorem no_has (k : Int) : hasT k [] = false := rfl
theorem none_do {c : Cm} (hc : isCm c = true) (hk : c.kd = 2 ∨ c.kd = 3 ∨ c.kd = 4) (id : Int) : doE [] c id = 15 ∧ doL [] c id = [] := by
  have h : chk [] c = 15 := by
    rcases hk with hk | hk | hk
    · rw [chk_move hc hk, if_pos (no_has _)]
    · rw [chk_set hc hk, if_pos (no_has _)]
    · rw [chk_drop hc hk, if_pos (no_has _)]
  obtain ⟨d1, -, d3⟩ := do_no (id := id) (show ¬ chk [] c = 0 by rw [h]; decide)
  exact ⟨d1.trans h, d3⟩
/-- whether the thing may be moved to u, v -/
def wantE (u v : Int) : Int := if u < -1000 ∨ 1000 < u ∨ v < -1000 ∨ 1000 < v then 11 else if onB u v = true then 0 else 14
theorem one_check {k x y u v : Int} (h0 : 0 ≤ k) (h1 : k ≤ 1000000) (h : onB x y = true) : chk [thN k x y] (cmMove k u v) = wantE u v := by
  unfold wantE
  by_cases hw : u < -1000 ∨ 1000 < u ∨ v < -1000 ∨ 1000 < v
  · rw [if_pos hw]
    exact chk_no (not_moveC hw)
  · rw [if_neg hw]
    have hc : isCm (cmMove k u v) = true := is_moveC h0 h1 (by omega) (by omega) (by omega) (by omega)
    rw [chk_move hc rfl, if_neg (by rw [show (cmMove k u v).id = k from rfl, one_has]; simp)]
    cases ho : onB u v
    · rw [if_pos rfl, if_neg (by simp)]
    · rw [if_neg (by simp), if_pos rfl, if_neg]
      unfold intoB
      rw [crowd_eq]
      have := cN_le [thN k x y] (cmMove k u v).x (cmMove k u v).y
      simp only [List.length_singleton] at this
      rw [show decide (8 ≤ cN [thN k x y] (cmMove k u v).x (cmMove k u v).y) = false by simp; omega, Bool.and_false]
      simp
theorem clamp_on (x y : Int) : onB (max 0 (min x 63)) (max 0 (min y 63)) = true := by rw [onB_iff]; omega
end Go.Proofs.YthmnbphpjmfckaaGreatDoor
