/- Plain facts on small commands: puts into one cell, a thing beside it that moves in, one that moves within. -/
import Derived.Test.YthmnbphpjmfckaaGreatDoorAcQ
import Derived.Test.YthmnbphpjmfckaaGreatDoorKnown11
namespace Go.Proofs.YthmnbphpjmfckaaGreatDoor
open Go.RowKit
set_option linter.unusedVariables false
theorem isF_e : isF zF = true := by decide +kernel
theorem eF_z : eF = zF := rfl
theorem is_putC {x y : Int} (h1 : -1000 ≤ x) (h2 : x ≤ 1000) (h3 : -1000 ≤ y) (h4 : y ≤ 1000) : isCm (cmPut x y) = true := by
  rw [isC_iff]
  have e := isF_e
  simp [partsP, headP, restP, Pa.is, Cm.i, Cm.f, clrL, Pa.clr, Cm.setI, Cm.setF, zC, e, eF_z, h1, h2, h3, h4]
theorem is_moveC {id x y : Int} (h0 : 0 ≤ id) (h5 : id ≤ 1000000) (h1 : -1000 ≤ x) (h2 : x ≤ 1000) (h3 : -1000 ≤ y) (h4 : y ≤ 1000) : isCm (cmMove id x y) = true := by
  rw [isC_iff]
  simp [partsP, headP, restP, Pa.is, Cm.i, Cm.f, clrL, Pa.clr, Cm.setI, zC, eF_z, h0, h1, h2, h3, h4, h5]
theorem not_moveC {id x y : Int} (h : x < -1000 ∨ 1000 < x ∨ y < -1000 ∨ 1000 < y) : isCm (cmMove id x y) = false := by
  cases hc : isCm (cmMove id x y)
  · rfl
  · have := (isC_iff.1 hc).1
    simp [partsP, headP, restP, Pa.is, Cm.i, Cm.f] at this
    omega
theorem is_dropC {id : Int} (h0 : 0 ≤ id) (h5 : id ≤ 1000000) : isCm (cmDrop id) = true := by
  rw [isC_iff]
  simp [partsP, headP, restP, Pa.is, Cm.i, Cm.f, clrL, Pa.clr, Cm.setI, zC, eF_z, h0, h5]
theorem is_setC {id wh n : Int} (h0 : 0 ≤ id) (h5 : id ≤ 1000000) (h1 : -1 ≤ wh) (h2 : wh ≤ 100) : isCm (cmSet id wh n) = true := by
  rw [isC_iff]
  have e : isF ⟨n, ⟨#[]⟩⟩ = true := by
    unfold isF
    simp only [Bool.and_eq_true, Bool.or_eq_true]
    exact ⟨.inr ((by decide +kernel : decide ((⟨#[]⟩ : ByteArray).toList = []) = true)), ((by decide +kernel : decide ((⟨#[]⟩ : ByteArray).size ≤ 12) = true))⟩
  simp [partsP, headP, restP, Pa.is, Cm.i, Cm.f, clrL, Pa.clr, Cm.setI, Cm.setF, zC, eF_z, e, h0, h1, h2, h5]
theorem ins_end {t : Th} : ∀ {L : List Th}, (∀ a ∈ L, a.id < t.id) → insT t L = L ++ [t]
  | [], _ => rfl
  | a :: r, h => by
    have := h a List.mem_cons_self
    unfold insT
    rw [if_neg (by omega), ins_end (fun b hb => h b (List.mem_cons_of_mem _ hb))]
    rfl
theorem has_not {id : Int} {L : List Th} (h : ∀ a ∈ L, a.id ≠ id) : hasT id L = false := by
  cases e : hasT id L
  · rfl
  · obtain ⟨a, ha, hi⟩ := has_iff.1 e
    exact absurd hi (h a ha)
theorem put_newL {L : List Th} {x y id : Int} : newL L (cmPut x y) id = witT (thN id x y) L := by unfold newL; rw [if_pos rfl]; rfl
theorem move_newL {L : List Th} {x y id i : Int} : newL L (cmMove id x y) i = witT (movT (thOf L id) (cmMove id x y)) L := by unfold newL; rw [if_neg (show ¬ (2 : Int) = 1 by decide), if_pos rfl]
theorem badI_not {L : List Th} {c : Cm} {id : Int} (h : ¬ c.kd = 1) : badI L c id = false := by unfold badI; simp [h]
/-- how many things stand in the cell of a point -/
def cN (L : List Th) (x y : Int) : Nat := (inCell L (ofI x y)).length
theorem crowd_eq (L : List Th) (c : Cm) : crowdB L c = decide (8 ≤ cN L c.x c.y) := rfl
theorem cN_wit {L : List Th} {t : Th} (h : hasT t.id L = false) (x y : Int) : cN (witT t L) x y = cN L x y + (if inB (cellR (ofI x y)) t.x t.y then 1 else 0) := by
  have hp : (witT t L).Perm (t :: L) := by unfold witT; rw [out_no h]; exact ins_perm t L
  unfold cN inCell inT_r
  rw [(hp.filter _).length_eq]
  simp only [List.filter_cons]
  split <;> simp
/-- things of one place, numbered from 0 -/
def CL (x y : Int) (j : Nat) : List Th := (List.range j).map fun (i : Nat) => thN (i : Int) x y
theorem CL_mem {x y : Int} {j : Nat} {a : Th} (h : a ∈ CL x y j) : ∃ i : Nat, i < j ∧ a = thN (i : Int) x y := by
  obtain ⟨i, hi, rfl⟩ := List.mem_map.1 h
  exact ⟨i, List.mem_range.1 hi, rfl⟩
theorem CL_len (x y : Int) (j : Nat) : (CL x y j).length = j := by simp [CL]
theorem CL_in {x y : Int} {j : Nat} (h : onB x y = true) : cN (CL x y j) x y = j := by
  unfold cN inCell inT_r
  rw [List.filter_eq_self.2, CL_len]
  intro a ha
  obtain ⟨i, -, rfl⟩ := CL_mem ha
  rw [in_cell_of h h]
  simp
theorem CL_off {x y u v : Int} {j : Nat} (h : onB x y = true) (h' : onB u v = true) (hd : ¬ ofI x y = ofI u v) : cN (CL x y j) u v = 0 := by
  unfold cN inCell inT_r
  rw [List.filter_eq_nil_iff.2]
  · rfl
  · intro a ha
    obtain ⟨i, -, rfl⟩ := CL_mem ha
    rw [in_cell_of h' h]
    simpa using hd
theorem on_small {x y : Int} (h : onB x y = true) : (0 ≤ x ∧ x < 64) ∧ (0 ≤ y ∧ y < 64) := by
  obtain ⟨h1, h2, h3, h4⟩ := (onB_iff x y).1 h
  exact ⟨⟨h1, h2⟩, h3, h4⟩
theorem CL_put {x y : Int} {j : Nat} (h : onB x y = true) (hj : j < 8) (hG : Good (CL x y j)) : doE (CL x y j) (cmPut x y) (j : Int) = 0 ∧ doL (CL x y j) (cmPut x y) (j : Int) = CL x y (j + 1) := by
  obtain ⟨⟨a1, a2⟩, a3, a4⟩ := on_small h
  have hc : isCm (cmPut x y) = true := is_putC (by omega) (by omega) (by omega) (by omega)
  have h0 : chk (CL x y j) (cmPut x y) = 0 := by
    rw [chk_put hc rfl, if_neg (by rw [show onB (cmPut x y).x (cmPut x y).y = onB x y from rfl, h]; simp), if_neg (by rw [CL_len]; omega), if_neg]
    rw [crowd_eq, show cN (CL x y j) (cmPut x y).x (cmPut x y).y = j from CL_in h]
    simp; omega
  have hh : hasT (j : Int) (CL x y j) = false := has_not (fun a ha => by obtain ⟨i, hi, rfl⟩ := CL_mem ha; show (i : Int) ≠ (j : Int); omega)
  have hb : badI (CL x y j) (cmPut x y) (j : Int) = false := by
    unfold badI
    rw [hh]
    simp; omega
  obtain ⟨d1, -, d3⟩ := do_ok hG h0 hb
  refine ⟨d1, d3.trans ?_⟩
  rw [put_newL]
  unfold witT
  rw [out_no hh, ins_end (fun a ha => by obtain ⟨i, hi, rfl⟩ := CL_mem ha; show (i : Int) < (j : Int); omega)]
  unfold CL
  rw [List.range_succ, List.map_append]
  rfl
theorem CL_full {x y : Int} (h : onB x y = true) (id : Int) : doE (CL x y 8) (cmPut x y) id = 16 ∧ doL (CL x y 8) (cmPut x y) id = CL x y 8 := by
  obtain ⟨⟨a1, a2⟩, a3, a4⟩ := on_small h
  have hc : isCm (cmPut x y) = true := is_putC (by omega) (by omega) (by omega) (by omega)
  have h0 : chk (CL x y 8) (cmPut x y) = 16 := by
    rw [chk_put hc rfl, if_neg (by rw [show onB (cmPut x y).x (cmPut x y).y = onB x y from rfl, h]; simp), if_neg (by rw [CL_len]; omega), if_pos]
    rw [crowd_eq, show cN (CL x y 8) (cmPut x y).x (cmPut x y).y = 8 from CL_in h]
    simp
  obtain ⟨d1, -, d3⟩ := do_no (id := id) (show ¬ chk (CL x y 8) (cmPut x y) = 0 by rw [h0]; decide)
  exact ⟨d1.trans h0, d3⟩
theorem CL_all {x y u v p q : Int} {j : Nat} (hj : j ≤ 8) (hx : onB x y = true) (hu : onB u v = true) (hp : onB p q = true) (hd : ¬ ofI u v = ofI x y) (hs : ofI x y = ofI p q) (hG : Good (CL x y j)) :
    ∃ L2, doE (CL x y j) (cmPut u v) 100 = 0 ∧ doL (CL x y j) (cmPut u v) 100 = L2 ∧ (Good L2 → ∃ L3, doE L2 (cmMove 100 x y) 0 = (if j < 8 then 0 else 16) ∧ doL L2 (cmMove 100 x y) 0 = L3 ∧ (Good L3 → doE L3 (cmMove 0 p q) 0 = (if 0 < j then 0 else 15))) := by
  obtain ⟨⟨a1, a2⟩, a3, a4⟩ := on_small hx
  obtain ⟨⟨b1, b2⟩, b3, b4⟩ := on_small hu
  obtain ⟨⟨e1, e2⟩, e3, e4⟩ := on_small hp
  have hh : hasT 100 (CL x y j) = false := has_not (fun a ha => by obtain ⟨i, hi, rfl⟩ := CL_mem ha; show (i : Int) ≠ 100; omega)
  have hc : isCm (cmPut u v) = true := is_putC (by omega) (by omega) (by omega) (by omega)
  have h0 : chk (CL x y j) (cmPut u v) = 0 := by
    rw [chk_put hc rfl, if_neg (by rw [show onB (cmPut u v).x (cmPut u v).y = onB u v from rfl, hu]; simp), if_neg (by rw [CL_len]; omega), if_neg]
    rw [crowd_eq, show cN (CL x y j) (cmPut u v).x (cmPut u v).y = 0 from CL_off hx hu (fun e => hd e.symm)]
    simp
  have hb : badI (CL x y j) (cmPut u v) 100 = false := by unfold badI; rw [hh]; simp
  obtain ⟨d1, -, d3⟩ := do_ok hG h0 hb
  rw [put_newL] at d3
  refine ⟨_, d1, d3, fun hG2 => ?_⟩
  have hm : thN 100 u v ∈ witT (thN 100 u v) (CL x y j) := wit_mem.2 (.inl rfl)
  have hh2 : hasT 100 (witT (thN 100 u v) (CL x y j)) = true := has_iff.2 ⟨_, hm, rfl⟩
  have ht2 : thOf (witT (thN 100 u v) (CL x y j)) 100 = thN 100 u v := thOf_is hG2.rise hm
  have hc2 : isCm (cmMove 100 x y) = true := is_moveC (by decide) (by decide) (by omega) (by omega) (by omega) (by omega)
  have hcn : cN (witT (thN 100 u v) (CL x y j)) x y = j := by
    rw [cN_wit hh, CL_in hx, if_neg]
    · rfl
    · rw [in_cell_of hx hu]; simpa using hd
  have hi2 : intoB (witT (thN 100 u v) (CL x y j)) (cmMove 100 x y) = decide (8 ≤ j) := by
    unfold intoB
    rw [crowd_eq, show (cmMove 100 x y).id = 100 from rfl, ht2, show cN (witT (thN 100 u v) (CL x y j)) (cmMove 100 x y).x (cmMove 100 x y).y = j from hcn]
    have : (ofI (thN 100 u v).x (thN 100 u v).y != ofI (cmMove 100 x y).x (cmMove 100 x y).y) = true := by simpa using hd
    rw [this, Bool.true_and]
  have hk2 : chk (witT (thN 100 u v) (CL x y j)) (cmMove 100 x y) = if j < 8 then 0 else 16 := by
    rw [chk_move hc2 rfl, if_neg (by rw [show (cmMove 100 x y).id = 100 from rfl, hh2]; simp), if_neg (by rw [show onB (cmMove 100 x y).x (cmMove 100 x y).y = onB x y from rfl, hx]; simp), hi2]
    by_cases h8 : j < 8
    · rw [if_pos h8, if_neg (by simp; omega)]
    · rw [if_neg h8, if_pos (by simp; omega)]
  have hE : ∃ L3, doE (witT (thN 100 u v) (CL x y j)) (cmMove 100 x y) 0 = (if j < 8 then 0 else 16) ∧ doL (witT (thN 100 u v) (CL x y j)) (cmMove 100 x y) 0 = L3 ∧ (∀ a, a.id ≠ 100 → (a ∈ L3 ↔ a ∈ CL x y j)) := by
    by_cases h8 : j < 8
    · have hk0 : chk (witT (thN 100 u v) (CL x y j)) (cmMove 100 x y) = 0 := by rw [hk2, if_pos h8]
      obtain ⟨f1, -, f3⟩ := do_ok (id := 0) hG2 hk0 (badI_not (show ¬ (2 : Int) = 1 by decide))
      rw [move_newL, ht2] at f3
      refine ⟨_, by rw [if_pos h8]; exact f1, f3, fun a ha => ?_⟩
      constructor
      · intro h
        rcases wit_mem.1 h with rfl | ⟨h, -⟩
        · exact absurd rfl ha
        · rcases wit_mem.1 h with rfl | ⟨h, -⟩
          · exact absurd rfl ha
          · exact h
      · intro h
        exact wit_mem.2 (.inr ⟨wit_mem.2 (.inr ⟨h, ha⟩), ha⟩)
    · have hk0 : ¬ chk (witT (thN 100 u v) (CL x y j)) (cmMove 100 x y) = 0 := by rw [hk2, if_neg h8]; decide
      obtain ⟨f1, -, f3⟩ := do_no (id := 0) hk0
      refine ⟨_, by rw [if_neg h8, f1, hk2, if_neg h8], f3, fun a ha => ?_⟩
      constructor
      · intro h
        rcases wit_mem.1 h with rfl | ⟨h, -⟩
        · exact absurd rfl ha
        · exact h
      · intro h
        exact wit_mem.2 (.inr ⟨h, ha⟩)
  obtain ⟨L3, g1, g2, g3⟩ := hE
  refine ⟨L3, g1, g2, fun hG3 => ?_⟩
  have hc3 : isCm (cmMove 0 p q) = true := is_moveC (by decide) (by decide) (by omega) (by omega) (by omega) (by omega)
  by_cases hj0 : 0 < j
  · have hm3 : thN 0 x y ∈ L3 := (g3 _ (show (0 : Int) ≠ 100 by decide)).2 (List.mem_map.2 ⟨0, List.mem_range.2 hj0, rfl⟩)
    have hh3 : hasT 0 L3 = true := has_iff.2 ⟨_, hm3, rfl⟩
    have ht3 : thOf L3 0 = thN 0 x y := thOf_is hG3.rise hm3
    have hi3 : intoB L3 (cmMove 0 p q) = false := by
      unfold intoB
      rw [show (cmMove 0 p q).id = 0 from rfl, ht3]
      have : (ofI (thN 0 x y).x (thN 0 x y).y != ofI (cmMove 0 p q).x (cmMove 0 p q).y) = false := by simpa using hs
      rw [this, Bool.false_and]
    have hk3 : chk L3 (cmMove 0 p q) = 0 := by
      rw [chk_move hc3 rfl, if_neg (by rw [show (cmMove 0 p q).id = 0 from rfl, hh3]; simp), if_neg (by rw [show onB (cmMove 0 p q).x (cmMove 0 p q).y = onB p q from rfl, hp]; simp), hi3]; rfl
    rw [if_pos hj0]
    exact (do_ok (id := 0) hG3 hk3 (badI_not (show ¬ (2 : Int) = 1 by decide))).1
  · have hh3 : hasT 0 L3 = false := has_not (fun a ha e => by
      have := (g3 a (by rw [e]; decide)).1 ha
      obtain ⟨i, hi, -⟩ := CL_mem this
      omega)
    have hk3 : chk L3 (cmMove 0 p q) = 15 := by rw [chk_move hc3 rfl, if_pos hh3]
    rw [if_neg hj0]
    exact ((do_no (id := 0) (show ¬ chk L3 (cmMove 0 p q) = 0 by rw [hk3]; decide)).1).trans hk3
end Go.Proofs.YthmnbphpjmfckaaGreatDoor
