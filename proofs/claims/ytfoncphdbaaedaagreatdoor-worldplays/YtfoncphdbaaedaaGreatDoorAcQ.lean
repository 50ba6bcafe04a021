/- Plain facts on what a command does: of a table as it may be, what Do tells and leaves, in few words; cells by their sides. -/
import Derived.Test.YtfoncphdbaaedaaGreatDoorAc5
namespace Go.Proofs.YtfoncphdbaaedaaGreatDoor
open Go.RowKit
set_option linter.unusedVariables false
/- cells by their sides -/
theorem cell_of {x y : Int} (h : onB x y = true) : cellR (ofI x y) = ⟨x / 16 * 16, y / 16 * 16, (x / 16 + 1) * 16, (y / 16 + 1) * 16⟩ := by
  obtain ⟨h1, h2, h3, h4⟩ := (onB_iff x y).1 h
  have hx : (x / 16).toNat < 4 := by omega
  have hy : (y / 16).toNat < 4 := by omega
  have hc := wvN_lt _ hx _ hy
  obtain ⟨e1, e2⟩ := cx_wvN _ hx _ hy
  have e : ofN x y = wvN (x / 16).toNat (y / 16).toNat := by unfold ofN; rw [if_pos h]
  unfold ofI
  rw [e, cellR_of hc]
  unfold cellN
  rw [e1, e2]
  have a1 : (((x / 16).toNat : Nat) : Int) = x / 16 := by omega
  have a2 : (((y / 16).toNat : Nat) : Int) = y / 16 := by omega
  rw [a1, a2]
theorem in_cell {x y u v : Int} (h : onB x y = true) : inB (cellR (ofI x y)) u v = (decide (u / 16 = x / 16) && decide (v / 16 = y / 16)) := by
  rw [cell_of h]
  unfold inB
  rw [Bool.eq_iff_iff]
  simp only [Bool.and_eq_true, decide_eq_true_eq]
  omega
theorem of_eq {x y u v : Int} (h : onB x y = true) (h' : onB u v = true) : (ofI u v = ofI x y) ↔ (u / 16 = x / 16 ∧ v / 16 = y / 16) := by
  obtain ⟨h1, h2, h3, h4⟩ := (onB_iff x y).1 h
  obtain ⟨k1, k2, k3, k4⟩ := (onB_iff u v).1 h'
  have hx : (x / 16).toNat < 4 := by omega
  have hy : (y / 16).toNat < 4 := by omega
  have hu : (u / 16).toNat < 4 := by omega
  have hv : (v / 16).toNat < 4 := by omega
  obtain ⟨e1, e2⟩ := cx_wvN _ hx _ hy
  obtain ⟨f1, f2⟩ := cx_wvN _ hu _ hv
  have e : ofN x y = wvN (x / 16).toNat (y / 16).toNat := by unfold ofN; rw [if_pos h]
  have f : ofN u v = wvN (u / 16).toNat (v / 16).toNat := by unfold ofN; rw [if_pos h']
  unfold ofI
  rw [e, f]
  constructor
  · intro hh
    have hh' : wvN (u / 16).toNat (v / 16).toNat = wvN (x / 16).toNat (y / 16).toNat := by omega
    rw [hh'] at f1 f2
    omega
  · rintro ⟨a, b⟩
    rw [a, b]
theorem in_cell_of {x y u v : Int} (h : onB x y = true) (h' : onB u v = true) : inB (cellR (ofI x y)) u v = (ofI u v == ofI x y) := by
  rw [in_cell h, Bool.eq_iff_iff]
  simp only [Bool.and_eq_true, decide_eq_true_eq, beq_iff_eq]
  exact (of_eq h h').symm
/- a table as it may be -/
theorem isT_on {t : Th} (h : isT t = true) : onB t.x t.y = true := (isT_parts h).2.2
theorem has_of {L : List Th} {id : Int} (h : hasT id L = true) : ∃ t, t ∈ L ∧ t.id = id ∧ findT id L = some t := by
  unfold hasT at h
  rw [List.any_eq_true] at h
  obtain ⟨a, ha, e⟩ := h
  cases hf : findT id L with
  | none =>
    unfold findT at hf
    have := List.find?_eq_none.1 hf a ha
    rw [e] at this
    exact absurd rfl this
  | some t => exact ⟨t, (findT_mem hf).1, (findT_mem hf).2, rfl⟩
theorem thOf_mem {L : List Th} {id : Int} (h : hasT id L = true) : thOf L id ∈ L ∧ (thOf L id).id = id := by
  obtain ⟨t, h1, h2, h3⟩ := has_of h
  unfold thOf
  rw [h3]
  exact ⟨h1, h2⟩
theorem thOf_is {L : List Th} (hr : Rise L) {t : Th} (h : t ∈ L) : thOf L t.id = t := by
  unfold thOf
  rw [find_mem_th hr h]; rfl
theorem isT_mov {t : Th} (h : isT t = true) {c : Cm} (ho : onB c.x c.y = true) : isT (movT t c) = true := by
  rw [isT_eq] at h ⊢
  unfold movT
  simp only [Bool.and_eq_true, decide_eq_true_eq] at h ⊢
  simp_all
theorem isT_set {t : Th} (h : isT t = true) {f : Fl} (hf : isF f = true) (k : Int) : isT (setT t k f) = true := by
  rw [isT_eq] at h
  simp only [Bool.and_eq_true, decide_eq_true_eq] at h
  obtain ⟨⟨⟨⟨⟨⟨h1, h2⟩, h3⟩, h4⟩, h5⟩, h6⟩, h7⟩ := h
  rw [isT_eq]
  unfold setT
  simp only [Bool.and_eq_true, decide_eq_true_eq]
  split
  · exact ⟨⟨⟨⟨⟨⟨h1, h2⟩, h3⟩, hf⟩, h5⟩, h6⟩, h7⟩
  · split
    · exact ⟨⟨⟨⟨⟨⟨h1, h2⟩, h3⟩, h4⟩, hf⟩, h6⟩, h7⟩
    · split
      · exact ⟨⟨⟨⟨⟨⟨h1, h2⟩, h3⟩, h4⟩, h5⟩, hf⟩, h7⟩
      · exact ⟨⟨⟨⟨⟨⟨h1, h2⟩, h3⟩, h4⟩, h5⟩, h6⟩, hf⟩
theorem setT_id (t : Th) (k : Int) (f : Fl) : (setT t k f).id = t.id := by
  unfold setT
  split
  · rfl
  · split
    · rfl
    · split <;> rfl
theorem isT_put {c : Cm} (h : isCm c = true) (hk : c.kd = 1) (ho : onB c.x c.y = true) (id : Int) : isT (putT c id) = (decide (0 ≤ id) && decide (id ≤ 1000000)) := by
  obtain ⟨-, f0, f1, f2, f3⟩ := isC_put h hk
  rw [isT_eq]
  unfold putT
  simp [f0, f1, f2, f3, ho]
/-- what the table holds, where it is done -/
def newL (L : List Th) (c : Cm) (id : Int) : List Th :=
  if c.kd = 1 then witT (putT c id) L else if c.kd = 2 then witT (movT (thOf L c.id) c) L else if c.kd = 3 then witT (setT (thOf L c.id) c.wh c.va) L else outT c.id L
/-- is the number one that can't be put -/
def badI (L : List Th) (c : Cm) (id : Int) : Bool := decide (c.kd = 1) && (decide (id < 0) || (decide (1000000 < id) || hasT id L))
theorem chk_put0 {L : List Th} {c : Cm} (h : chk L c = 0) (hk : c.kd = 1) : isCm c = true ∧ onB c.x c.y = true ∧ L.length < 200 ∧ crowdB L c = false := by
  obtain ⟨hc, -⟩ := chk_kinds h
  rw [chk_put hc hk] at h
  refine ⟨hc, ?_⟩
  cases h1 : onB c.x c.y
  · rw [if_pos h1] at h; cases h
  · rw [if_neg (by rw [h1]; simp)] at h
    by_cases h2 : 200 ≤ L.length
    · rw [if_pos h2] at h; cases h
    · rw [if_neg h2] at h
      cases h3 : crowdB L c
      · exact ⟨rfl, by omega, rfl⟩
      · rw [if_pos h3] at h; cases h
theorem chk_move0 {L : List Th} {c : Cm} (h : chk L c = 0) (hk : c.kd = 2) : isCm c = true ∧ hasT c.id L = true ∧ onB c.x c.y = true := by
  obtain ⟨hc, -⟩ := chk_kinds h
  rw [chk_move hc hk] at h
  refine ⟨hc, ?_⟩
  cases h1 : hasT c.id L
  · rw [if_pos h1] at h; cases h
  · rw [if_neg (by rw [h1]; simp)] at h
    cases h2 : onB c.x c.y
    · rw [if_pos h2] at h; cases h
    · exact ⟨rfl, rfl⟩
theorem chk_set0 {L : List Th} {c : Cm} (h : chk L c = 0) (hk : c.kd = 3) : isCm c = true ∧ hasT c.id L = true := by
  obtain ⟨hc, -⟩ := chk_kinds h
  rw [chk_set hc hk] at h
  refine ⟨hc, ?_⟩
  cases h1 : hasT c.id L
  · rw [if_pos h1] at h; cases h
  · rfl
theorem chk_drop0 {L : List Th} {c : Cm} (h : chk L c = 0) (hk : c.kd = 4) : isCm c = true ∧ hasT c.id L = true := by
  obtain ⟨hc, -⟩ := chk_kinds h
  rw [chk_drop hc hk] at h
  refine ⟨hc, ?_⟩
  cases h1 : hasT c.id L
  · rw [if_pos h1] at h; cases h
  · rfl
theorem do_ok {L : List Th} (hG : Good L) {c : Cm} {id : Int} (h : chk L c = 0) (hb : badI L c id = false) : doE L c id = 0 ∧ doN L c id = whoI c id ∧ doL L c id = newL L c id := by
  have hE : dnE L c (whoI c id) = 0 ∧ dnL L c (whoI c id) = newL L c id := by
    obtain ⟨hc, hk⟩ := chk_kinds h
    unfold whoI dnE dnL newL
    rcases hk with hk | hk | hk | hk
    · obtain ⟨-, ho, hl, hcr⟩ := chk_put0 h hk
      have hb' : ¬ id < 0 ∧ ¬ 1000000 < id ∧ hasT id L = false := by
        unfold badI at hb
        simpa [hk] using hb
      simp only [hk, if_true]
      have h1 : isT (putT c id) = true := by rw [isT_put hc hk ho]; simp; omega
      have h2 : tpE (putT c id) L = 0 := tpE_ok h1 hb'.2.2 hl
      exact ⟨h2, by unfold tpL; rw [if_pos h2]⟩
    · obtain ⟨-, hh, ho⟩ := chk_move0 h hk
      obtain ⟨m1, m2⟩ := thOf_mem hh
      have h1 := isT_mov (hG.is _ m1) ho
      have h2 : tsE (movT (thOf L c.id) c) L = 0 := by
        unfold tsE
        rw [if_neg (by rw [h1]; simp), if_neg]
        show ¬ hasT (thOf L c.id).id L = false
        rw [m2, hh]; simp
      have n1 : ¬ (2 : Int) = 1 := by decide
      simp only [hk, n1, if_false, if_true]
      exact ⟨h2, by unfold tsL; rw [if_pos h2]⟩
    · obtain ⟨-, hh⟩ := chk_set0 h hk
      obtain ⟨m1, m2⟩ := thOf_mem hh
      have h1 := isT_set (hG.is _ m1) (isC_set hc hk) c.wh
      have h2 : tsE (setT (thOf L c.id) c.wh c.va) L = 0 := by
        unfold tsE
        rw [if_neg (by rw [h1]; simp), if_neg]
        rw [setT_id, m2, hh]; simp
      have n1 : ¬ (3 : Int) = 1 := by decide
      have n2 : ¬ (3 : Int) = 2 := by decide
      simp only [hk, n1, n2, if_false, if_true]
      exact ⟨h2, by unfold tsL; rw [if_pos h2]⟩
    · obtain ⟨-, hh⟩ := chk_drop0 h hk
      have n1 : ¬ (4 : Int) = 1 := by decide
      have n2 : ¬ (4 : Int) = 2 := by decide
      have n3 : ¬ (4 : Int) = 3 := by decide
      simp only [hk, n1, n2, n3, if_false]
      exact ⟨by unfold tdE; rw [if_neg (by rw [hh]; simp)], rfl⟩
  have h1 : doE L c id = 0 := by unfold doE; rw [if_pos h]; exact hE.1
  exact ⟨h1, by unfold doN; rw [if_pos h1], by unfold doL; rw [if_pos h]; exact hE.2⟩
theorem do_bad {L : List Th} (hG : Good L) {c : Cm} {id : Int} (h : chk L c = 0) (hb : badI L c id = true) : doE L c id = 11 ∧ doN L c id = 0 ∧ doL L c id = L := by
  have hk : c.kd = 1 := by
    unfold badI at hb
    rw [Bool.and_eq_true, decide_eq_true_eq] at hb
    exact hb.1
  obtain ⟨hc, ho, hl, hcr⟩ := chk_put0 h hk
  have hE : tpE (putT c id) L = 11 := by
    by_cases hh : hasT id L = true
    · exact tpE_has hh
    · refine tpE_bad ?_
      rw [isT_put hc hk ho]
      unfold badI at hb
      simp [hk, hh] at hb
      simp
      omega
  have h1 : doE L c id = 11 := by unfold doE dnE whoI; rw [if_pos h, if_pos hk, if_pos hk]; exact hE
  have h0 : ¬ doE L c id = 0 := by rw [h1]; decide
  have h2 : ¬ tpE (putT c id) L = 0 := by rw [hE]; decide
  refine ⟨h1, by unfold doN; rw [if_neg h0], ?_⟩
  unfold doL dnL whoI
  rw [if_pos h, if_pos hk, if_pos hk]
  unfold tpL
  rw [if_neg h2]
theorem do_no {L : List Th} {c : Cm} {id : Int} (h : ¬ chk L c = 0) : doE L c id = chk L c ∧ doN L c id = 0 ∧ doL L c id = L := by
  have h1 : doE L c id = chk L c := by unfold doE; rw [if_neg h]
  exact ⟨h1, by unfold doN; rw [if_neg (by rw [h1]; exact h)], by unfold doL; rw [if_neg h]⟩
theorem do_good {L : List Th} (hG : Good L) {c : Cm} (hc : inC c) (id : Int) : Good (doL L c id) := by
  unfold doL
  split
  · rename_i h
    unfold dnL
    split
    · exact tpL_good hG ⟨hc.1, hc.2.1, hc.2.2.1, hc.2.2.2.1⟩
    · split
      · have := thOf_in hG (whoI c id)
        exact tsL_good hG (show inT (movT _ c) from this)
      · split
        · exact tsL_good hG (setT_in (thOf_in hG _) hc.2.2.2.2 _)
        · exact hG.out _
  · exact hG
end Go.Proofs.YtfoncphdbaaedaaGreatDoor
