/- Plain facts on rows of commands: what the world holds behind each is a row of things that there may be, at most one for each command. Of no program. Plain facts on small commands in the world: puts into one cell, one thing that moves, that is set. Of no program. -/
import Derived.Test.YtfoncphdbaaedaaGreatDoorWA
import Derived.Test.YtfoncphdbaaedaaGreatDoorWC
import Derived.Test.YtfoncphdbaaedaaGreatDoorKnown12
namespace Go.Proofs.YtfoncphdbaaedaaGreatDoor
section
open Go.RowKit
set_option linter.unusedVariables false
theorem zC_in : inC zC := ⟨⟨by decide, by decide, by decide⟩, ⟨by decide, by decide, by decide⟩, ⟨by decide, by decide, by decide⟩, ⟨by decide, by decide, by decide⟩, ⟨by decide, by decide, by decide⟩⟩
theorem getD_in {cs : List Cm} (h : ∀ c ∈ cs, inC c) (k : Nat) : inC (cs.getD k zC) := by
  rw [List.getD_eq_getElem?_getD]
  cases hx : cs[k]? with
  | none => exact zC_in
  | some c => exact h c (List.mem_of_getElem? hx)
theorem st_good {cs : List Cm} (h : ∀ c ∈ cs, inC c) (ids : List Int) {L : List Th} (hG : Good L) : ∀ k, Good (stW cs ids L k)
  | 0 => hG
  | k + 1 => wd_good (st_good h ids hG k) (getD_in h k) _
theorem st_len {cs : List Cm} (h : ∀ c ∈ cs, inC c) (ids : List Int) {L : List Th} (hG : Good L) : ∀ k, (stW cs ids L k).length ≤ L.length + k
  | 0 => Nat.le_refl _
  | k + 1 => by
    have h1 := wdL_len (st_good h ids hG k) (cs.getD k zC) (ids.getD k 0)
    have h2 := st_len h ids hG k
    show (wdL _ _ _).length ≤ _
    omega
theorem inI_wf {x : Int} (h : (Lit.int .i64 x).wf = true) : inI x := i64_bounds h
end
section
section
open Go.RowKit
set_option linter.unusedVariables false
theorem isF_e : isF zF = true := by decide +kernel
theorem eF_z : eF = zF := rfl
theorem is_putC {x y : Int} (h1 : -1000 ≤ x) (h2 : x ≤ 1000) (h3 : -1000 ≤ y) (h4 : y ≤ 1000) : isCm (cmPut x y) = true := by
  rw [isC_iff]
  have e := isF_e
  simp [partsP, headP, restP, Pa.is, Cm.i, Cm.f, clrL, Pa.clr, Cm.setI, Cm.setF, zC, e, eF_z, h1, h2, h3, h4]
theorem is_moveC {id x y : Int} (h0 : 0 ≤ id) (h5 : id ≤ 1000000) (h1 : -1000 ≤ x) (h2 : x ≤ 1000) (h3 : -1000 ≤ y) (h4 : y ≤ 1000) : isCm (cmMove id x y) = true := by
  rw [isC_iff]
  simp [partsP, headP, restP, Pa.is, Cm.i, Cm.f, clrL, Pa.clr, Cm.setI, zC, eF_z, h0, h1, h2, h3, h4, h5]
theorem is_dropC {id : Int} (h0 : 0 ≤ id) (h5 : id ≤ 1000000) : isCm (cmDrop id) = true := by
  rw [isC_iff]
  simp [partsP, headP, restP, Pa.is, Cm.i, Cm.f, clrL, Pa.clr, Cm.setI, zC, eF_z, h0, h5]
theorem is_setC {id wh n : Int} (h0 : 0 ≤ id) (h5 : id ≤ 1000000) (h1 : -1 ≤ wh) (h2 : wh ≤ 100) : isCm (cmSet id wh n) = true := by
  rw [isC_iff]
  have e : isF ⟨n, ⟨#[]⟩⟩ = true := by
    unfold isF
    simp only [Bool.and_eq_true, Bool.or_eq_true]
    exact ⟨.inr ((by decide +kernel : decide ((⟨#[]⟩ : ByteArray).toList = []) = true)), ((by decide +kernel : decide ((⟨#[]⟩ : ByteArray).size ≤ 12) = true))⟩
  simp [partsP, headP, restP, Pa.is, Cm.i, Cm.f, clrL, Pa.clr, Cm.setI, Cm.setF, zC, eF_z, e, h0, h1, h2, h5]
theorem ins_end {t : Th} : ∀ {L : List Th}, (∀ a ∈ L, a.id < t.id) → insT t L = L ++ [t]
  | [], _ => rfl
  | a :: r, h => by
    have := h a List.mem_cons_self
    unfold insT
    rw [if_neg (by omega), ins_end (fun b hb => h b (List.mem_cons_of_mem _ hb))]
    rfl
theorem has_not {id : Int} {L : List Th} (h : ∀ a ∈ L, a.id ≠ id) : hasT id L = false := by
  cases e : hasT id L
  · rfl
  · obtain ⟨a, ha, hi⟩ := has_iff.1 e
    exact absurd hi (h a ha)
theorem put_newL {L : List Th} {x y id : Int} : newL L (cmPut x y) id = witT (thN id x y) L := by unfold newL; rw [if_pos rfl]; rfl
theorem move_newL {L : List Th} {x y id i : Int} : newL L (cmMove id x y) i = witT (movT (thOf L id) (cmMove id x y)) L := by unfold newL; rw [if_neg (show ¬ (2 : Int) = 1 by decide), if_pos rfl]
theorem badI_not {L : List Th} {c : Cm} {id : Int} (h : ¬ c.kd = 1) : badI L c id = false := by unfold badI; simp [h]
/-- things of one place, numbered from 0 -/
def CL (x y : Int) (j : Nat) : List Th := (List.range j).map fun (i : Nat) => thN (i : Int) x y
theorem CL_mem {x y : Int} {j : Nat} {a : Th} (h : a ∈ CL x y j) : ∃ i : Nat, i < j ∧ a = thN (i : Int) x y := by
  obtain ⟨i, hi, rfl⟩ := List.mem_map.1 h
  exact ⟨i, List.mem_range.1 hi, rfl⟩
theorem CL_len (x y : Int) (j : Nat) : (CL x y j).length = j := by simp [CL]
theorem on_small {x y : Int} (h : onB x y = true) : (0 ≤ x ∧ x < 64) ∧ (0 ≤ y ∧ y < 64) := by
  obtain ⟨h1, h2, h3, h4⟩ := (onB_iff x y).1 h
  exact ⟨⟨h1, h2⟩, h3, h4⟩
end
theorem CL_succ (x y : Int) (j : Nat) : CL x y (j + 1) = CL x y j ++ [thN (j : Int) x y] := by
  unfold CL
  rw [List.range_succ, List.map_append]; rfl
theorem CL_no {x y : Int} {j : Nat} {id : Int} (h : (j : Int) ≤ id) : hasT id (CL x y j) = false :=
  has_not fun a ha => by
    obtain ⟨i, hi, rfl⟩ := CL_mem ha
    show (i : Int) ≠ id
    omega
theorem put_end {x y u v : Int} {j : Nat} {id : Int} (h : (j : Int) ≤ id) : newL (CL x y j) (cmPut u v) id = CL x y j ++ [thN id u v] := by
  rw [put_newL]
  unfold witT
  rw [out_no (CL_no h)]
  exact ins_end fun a ha => by
    obtain ⟨i, hi, rfl⟩ := CL_mem ha
    show (i : Int) < id
    omega
theorem putW_ok {x y u v : Int} {j : Nat} {id : Int} (ho : onB u v = true) (h : (j : Int) ≤ id) (hid : id ≤ 1000000) (hj : j < 200) (hG : Good (CL x y j)) : wdE (CL x y j) (cmPut u v) id = 0 ∧ wdL (CL x y j) (cmPut u v) id = CL x y j ++ [thN id u v] := by
  obtain ⟨h1, h2⟩ := on_small ho
  have hc : isCm (cmPut u v) = true := is_putC (by omega) (by omega) (by omega) (by omega)
  have h0 : chkF (CL x y j) (cmPut u v) = 0 := by
    rw [chkF_put hc rfl, if_neg (by show ¬ onB u v = false; rw [ho]; simp), if_neg (by rw [CL_len]; omega)]
  have hb : badI (CL x y j) (cmPut u v) id = false := by
    unfold badI
    rw [CL_no h]
    simp
    omega
  obtain ⟨e1, -, e3⟩ := wd_ok hG h0 hb
  exact ⟨e1, by rw [e3, put_end h]⟩
theorem CL_put {x y : Int} {j : Nat} (ho : onB x y = true) (hj : j < 200) (hG : Good (CL x y j)) : wdE (CL x y j) (cmPut x y) (j : Int) = 0 ∧ wdL (CL x y j) (cmPut x y) (j : Int) = CL x y (j + 1) := by
  rw [CL_succ]
  exact putW_ok ho (Int.le_refl _) (by omega) hj hG
def CM (x y : Int) (k : Nat) (u v : Int) : List Th := CL x y k ++ [thN 999 u v]
theorem CM_put {x y u v : Int} {k : Nat} (ho : onB u v = true) (hk : k ≤ 100) (hG : Good (CL x y k)) : wdE (CL x y k) (cmPut u v) 999 = 0 ∧ wdL (CL x y k) (cmPut u v) 999 = CM x y k u v :=
  putW_ok ho (by omega) (by omega) (by omega) hG
theorem CM_out {x y u v : Int} {k : Nat} (hk : k ≤ 100) : outT 999 (CM x y k u v) = CL x y k := by
  unfold CM outT
  rw [List.filter_append, List.filter_eq_self.2]
  · simp
  · intro a ha
    obtain ⟨i, hi, rfl⟩ := CL_mem ha
    show (!((i : Int) == 999)) = true
    simp
    omega
theorem CM_move {x y u v : Int} {k : Nat} (ho : onB x y = true) (hk : k ≤ 100) (hG : Good (CM x y k u v)) : wdE (CM x y k u v) (cmMove 999 x y) 0 = 0 ∧ wdL (CM x y k u v) (cmMove 999 x y) 0 = CM x y k x y := by
  obtain ⟨h1, h2⟩ := on_small ho
  have hc : isCm (cmMove 999 x y) = true := is_moveC (by omega) (by omega) (by omega) (by omega) (by omega) (by omega)
  have hm : thN 999 u v ∈ CM x y k u v := by unfold CM; simp
  have hh : hasT 999 (CM x y k u v) = true := has_iff.2 ⟨_, hm, rfl⟩
  have ht : thOf (CM x y k u v) 999 = thN 999 u v := thOf_is hG.rise hm
  have h0 : chkF (CM x y k u v) (cmMove 999 x y) = 0 := by
    rw [chkF_move hc rfl, if_neg (by show ¬ hasT 999 _ = false; rw [hh]; simp), if_neg (by show ¬ onB x y = false; rw [ho]; simp)]
  obtain ⟨e1, -, e3⟩ := wd_ok (id := 0) hG h0 (badI_not (by show ¬ (2 : Int) = 1; decide))
  refine ⟨e1, ?_⟩
  rw [e3, move_newL, ht]
  unfold witT
  rw [show (movT (thN 999 u v) (cmMove 999 x y)).id = 999 from rfl, CM_out hk, ins_end]
  · rfl
  · intro a ha
    obtain ⟨i, hi, rfl⟩ := CL_mem ha
    show (i : Int) < 999
    omega
theorem CM_see {x y : Int} {k : Nat} : inT_r ⟨x, y, x + 1, y + 1⟩ (CM x y k x y) = CM x y k x y := by
  unfold inT_r CM
  rw [List.filter_eq_self]
  intro a ha
  have e : a.x = x ∧ a.y = y := by
    rcases List.mem_append.1 ha with ha | ha
    · obtain ⟨i, hi, rfl⟩ := CL_mem ha
      exact ⟨rfl, rfl⟩
    · simp at ha; subst ha; exact ⟨rfl, rfl⟩
  unfold inB
  rw [e.1, e.2]
  simp
  omega
theorem CM_len (x y : Int) (k : Nat) (u v : Int) : (CM x y k u v).length = k + 1 := by unfold CM; rw [List.length_append, CL_len]; rfl
/- one thing -/
theorem one_has {t : Th} : hasT t.id [t] = true := by simp [hasT]
theorem one_th {t : Th} : thOf [t] t.id = t := by simp [thOf, findT]
theorem one_out {t : Th} : outT t.id [t] = [] := by simp [outT]
theorem one_with {t u : Th} (h : u.id = t.id) : witT u [t] = [u] := by unfold witT; rw [h, one_out]; rfl
theorem one_move {t : Th} (hG : Good [t]) (hi : t.id = 3) {x y : Int} (ho : onB x y = true) : wdE [t] (cmMove 3 x y) 0 = 0 ∧ wdL [t] (cmMove 3 x y) 0 = [movT t (cmMove 3 x y)] := by
  obtain ⟨h1, h2⟩ := on_small ho
  have hc : isCm (cmMove 3 x y) = true := is_moveC (by omega) (by omega) (by omega) (by omega) (by omega) (by omega)
  have hh : hasT 3 [t] = true := by rw [← hi]; exact one_has
  have ht : thOf [t] 3 = t := by rw [← hi]; exact one_th
  have h0 : chkF [t] (cmMove 3 x y) = 0 := by
    rw [chkF_move hc rfl, if_neg (by show ¬ hasT 3 _ = false; rw [hh]; simp), if_neg (by show ¬ onB x y = false; rw [ho]; simp)]
  obtain ⟨e1, -, e3⟩ := wd_ok (id := 0) hG h0 (badI_not (by show ¬ (2 : Int) = 1; decide))
  refine ⟨e1, ?_⟩
  rw [e3, move_newL, ht]
  exact one_with rfl
theorem one_set {t : Th} (hG : Good [t]) (hi : t.id = 3) {wh n : Int} (h1 : 0 ≤ wh) (h2 : wh < 4) : wdE [t] (cmSet 3 wh n) 0 = 0 ∧ wdL [t] (cmSet 3 wh n) 0 = [setT t wh ⟨n, ⟨#[]⟩⟩] := by
  have hc : isCm (cmSet 3 wh n) = true := is_setC (by omega) (by omega) (by omega) (by omega)
  have hh : hasT 3 [t] = true := by rw [← hi]; exact one_has
  have ht : thOf [t] 3 = t := by rw [← hi]; exact one_th
  have h0 : chkF [t] (cmSet 3 wh n) = 0 := by
    rw [chkF_set hc rfl, if_neg (by show ¬ hasT 3 _ = false; rw [hh]; simp), if_neg (by show ¬ (wh < 0 ∨ 4 ≤ wh); omega)]
  obtain ⟨e1, -, e3⟩ := wd_ok (id := 0) hG h0 (badI_not (by show ¬ (3 : Int) = 1; decide))
  refine ⟨e1, ?_⟩
  rw [e3]
  unfold newL
  rw [if_neg (show ¬ (3 : Int) = 1 by decide), if_neg (show ¬ (3 : Int) = 2 by decide), if_pos rfl]
  show witT (setT (thOf [t] 3) wh _) [t] = _
  rw [ht]
  exact one_with (setT_id t _ _)
end
end Go.Proofs.YtfoncphdbaaedaaGreatDoor
