/- Plain facts on what a command does in the world, where no cell is ever full: what act finds full, and what is done of it all the same. Of no program. Plain facts on commands of unlike things: done in either order they tell and leave the same. Of no program. -/
import Derived.Test.YtfoncphdbaaedaaGreatDoorAcQ
import Derived.Test.YtfoncphdbaaedaaGreatDoorAcD
namespace Go.Proofs.YtfoncphdbaaedaaGreatDoor
section
open Go.RowKit
set_option linter.unusedVariables false
/-- the first reason, cells never full -/
def chkF (L : List Th) (c : Cm) : Int :=
  if isCm c = false then 11
  else if c.kd = 1 then (if onB c.x c.y = false then 14 else if 200 ≤ L.length then 16 else 0)
  else if c.kd = 2 then (if hasT c.id L = false then 15 else if onB c.x c.y = false then 14 else 0)
  else chk L c
/-- what is squeezed in, what that tells, what it leaves -/
def sqE (L : List Th) (c : Cm) (id : Int) : Int := if c.kd = 2 then tsE (movT (thOf L c.id) c) L else if 200 ≤ L.length then 16 else tpE (putT c id) L
def sqN (L : List Th) (c : Cm) (id : Int) : Int := if c.kd = 2 then c.id else if 200 ≤ L.length then 0 else if tpE (putT c id) L = 0 then id else 0
def sqL (L : List Th) (c : Cm) (id : Int) : List Th := if c.kd = 2 then tsL (movT (thOf L c.id) c) L else if 200 ≤ L.length then L else tpL (putT c id) L
def wdE (L : List Th) (c : Cm) (id : Int) : Int := if doE L c id = 16 then sqE L c id else doE L c id
def wdN (L : List Th) (c : Cm) (id : Int) : Int := if doE L c id = 16 then sqN L c id else doN L c id
def wdL (L : List Th) (c : Cm) (id : Int) : List Th := if doE L c id = 16 then sqL L c id else doL L c id
theorem chkF_no {L : List Th} {c : Cm} (h : isCm c = false) : chkF L c = 11 := by unfold chkF; rw [if_pos h]
theorem chkF_put {L : List Th} {c : Cm} (h : isCm c = true) (hk : c.kd = 1) : chkF L c = if onB c.x c.y = false then 14 else if 200 ≤ L.length then 16 else 0 := by
  unfold chkF; rw [if_neg (by rw [h]; simp), if_pos hk]
theorem chkF_move {L : List Th} {c : Cm} (h : isCm c = true) (hk : c.kd = 2) : chkF L c = if hasT c.id L = false then 15 else if onB c.x c.y = false then 14 else 0 := by
  unfold chkF; rw [if_neg (by rw [h]; simp), if_neg (by omega), if_pos hk]
theorem chkF_set {L : List Th} {c : Cm} (h : isCm c = true) (hk : c.kd = 3) : chkF L c = if hasT c.id L = false then 15 else if c.wh < 0 ∨ 4 ≤ c.wh then 18 else 0 := by
  unfold chkF; rw [if_neg (by rw [h]; simp), if_neg (by omega), if_neg (by omega)]
  exact chk_set h hk
theorem chkF_drop {L : List Th} {c : Cm} (h : isCm c = true) (hk : c.kd = 4) : chkF L c = if hasT c.id L = false then 15 else 0 := by
  unfold chkF; rw [if_neg (by rw [h]; simp), if_neg (by omega), if_neg (by omega)]
  exact chk_drop h hk
theorem chkF_else {L : List Th} {c : Cm} (h : isCm c = true) (hk : 4 < c.kd) : chkF L c = 11 := by
  unfold chkF; rw [if_neg (by rw [h]; simp), if_neg (by omega), if_neg (by omega)]
  exact chk_else h hk
theorem chkF_kinds {L : List Th} {c : Cm} (h : chkF L c = 0) : isCm c = true ∧ (c.kd = 1 ∨ c.kd = 2 ∨ c.kd = 3 ∨ c.kd = 4) := by
  cases hc : isCm c
  · rw [chkF_no hc] at h; cases h
  · refine ⟨rfl, ?_⟩
    have := isC_bounds hc
    by_cases h5 : 4 < c.kd
    · rw [chkF_else hc h5] at h; cases h
    · omega
/-- act finds something full: what it is about is right but for that -/
theorem chk_16 {L : List Th} {c : Cm} (h : chk L c = 16) : isCm c = true ∧ onB c.x c.y = true ∧ (c.kd = 1 ∨ (c.kd = 2 ∧ hasT c.id L = true)) := by
  cases hc : isCm c
  · rw [chk_no hc] at h; cases h
  · have := isC_bounds hc
    by_cases h5 : 4 < c.kd
    · rw [chk_else hc h5] at h; cases h
    · have hk : c.kd = 1 ∨ c.kd = 2 ∨ c.kd = 3 ∨ c.kd = 4 := by omega
      rcases hk with hk | hk | hk | hk
      · rw [chk_put hc hk] at h
        cases ho : onB c.x c.y
        · rw [if_pos ho] at h; cases h
        · exact ⟨rfl, rfl, .inl hk⟩
      · rw [chk_move hc hk] at h
        cases hh : hasT c.id L
        · rw [if_pos hh] at h; cases h
        · cases ho : onB c.x c.y
          · rw [if_neg (by rw [hh]; simp), if_pos ho] at h; cases h
          · exact ⟨rfl, rfl, .inr ⟨hk, rfl⟩⟩
      · rw [chk_set hc hk] at h
        split at h
        · cases h
        · split at h <;> cases h
      · rw [chk_drop hc hk] at h
        split at h <;> cases h
theorem chkF_same {L : List Th} {c : Cm} (h : ¬ chk L c = 16) : chkF L c = chk L c := by
  cases hc : isCm c
  · rw [chk_no hc, chkF_no hc]
  · have hb := isC_bounds hc
    by_cases h5 : 4 < c.kd
    · rw [chk_else hc h5, chkF_else hc h5]
    · have hk : c.kd = 1 ∨ c.kd = 2 ∨ c.kd = 3 ∨ c.kd = 4 := by omega
      rcases hk with hk | hk | hk | hk
      · rw [chk_put hc hk] at h ⊢
        rw [chkF_put hc hk]
        revert h
        cases onB c.x c.y <;> cases crowdB L c <;> by_cases hf : 200 ≤ L.length <;> simp [hf]
      · rw [chk_move hc hk] at h ⊢
        rw [chkF_move hc hk]
        revert h
        cases hasT c.id L <;> cases onB c.x c.y <;> cases intoB L c <;> simp
      · rw [chkF_set hc hk, chk_set hc hk]
      · rw [chkF_drop hc hk, chk_drop hc hk]
theorem doE_16 {L : List Th} (hG : Good L) {c : Cm} {id : Int} : doE L c id = 16 ↔ chk L c = 16 := by
  constructor
  · intro h
    by_cases h0 : chk L c = 0
    · cases hb : badI L c id
      · rw [(do_ok hG h0 hb).1] at h; cases h
      · rw [(do_bad hG h0 hb).1] at h; cases h
    · rw [(do_no h0).1] at h; exact h
  · intro h
    rw [(do_no (id := id) (by rw [h]; decide)).1, h]
theorem do_16 {L : List Th} (hG : Good L) {c : Cm} {id : Int} (h : doE L c id = 16) : doN L c id = 0 ∧ doL L c id = L := by
  have h1 := (doE_16 hG).1 h
  exact (do_no (by rw [h1]; decide)).2
theorem wd_not {L : List Th} (hG : Good L) {c : Cm} {id : Int} (h : ¬ chk L c = 16) : wdE L c id = doE L c id ∧ wdN L c id = doN L c id ∧ wdL L c id = doL L c id := by
  have h1 : ¬ doE L c id = 16 := fun e => h ((doE_16 hG).1 e)
  unfold wdE wdN wdL
  rw [if_neg h1, if_neg h1, if_neg h1]
  exact ⟨rfl, rfl, rfl⟩
theorem wd_full {L : List Th} (hG : Good L) {c : Cm} {id : Int} (h : chk L c = 16) : wdE L c id = sqE L c id ∧ wdN L c id = sqN L c id ∧ wdL L c id = sqL L c id := by
  have h1 : doE L c id = 16 := (doE_16 hG).2 h
  unfold wdE wdN wdL
  rw [if_pos h1, if_pos h1, if_pos h1]
  exact ⟨rfl, rfl, rfl⟩
theorem wd_ok {L : List Th} (hG : Good L) {c : Cm} {id : Int} (h : chkF L c = 0) (hb : badI L c id = false) : wdE L c id = 0 ∧ wdN L c id = whoI c id ∧ wdL L c id = newL L c id := by
  by_cases h16 : chk L c = 16
  · obtain ⟨e1, e2, e3⟩ := wd_full (id := id) hG h16
    rw [e1, e2, e3]
    obtain ⟨hc, ho, hk⟩ := chk_16 h16
    unfold sqE sqN sqL whoI newL
    rcases hk with hk | ⟨hk, hh⟩
    · have hl : ¬ 200 ≤ L.length := by
        intro hl
        rw [chkF_put hc hk, if_neg (by rw [ho]; simp), if_pos hl] at h
        cases h
      have hb' : ¬ id < 0 ∧ ¬ 1000000 < id ∧ hasT id L = false := by
        unfold badI at hb
        simpa [hk] using hb
      have h1 : isT (putT c id) = true := by rw [isT_put hc hk ho]; simp; omega
      have h2 : tpE (putT c id) L = 0 := tpE_ok h1 hb'.2.2 (by omega)
      have n1 : ¬ (1 : Int) = 2 := by decide
      simp only [hk, n1, hl, h2, if_false, if_true]
      exact ⟨trivial, trivial, by unfold tpL; rw [if_pos h2]⟩
    · obtain ⟨m1, m2⟩ := thOf_mem hh
      have h1 := isT_mov (hG.is _ m1) ho
      have h2 : tsE (movT (thOf L c.id) c) L = 0 := by
        unfold tsE
        rw [if_neg (by rw [h1]; simp), if_neg]
        show ¬ hasT (thOf L c.id).id L = false
        rw [m2, hh]; simp
      have n1 : ¬ (2 : Int) = 1 := by decide
      simp only [hk, n1, h2, if_false, if_true]
      exact ⟨trivial, trivial, by unfold tsL; rw [if_pos h2]⟩
  · obtain ⟨e1, e2, e3⟩ := wd_not (id := id) hG h16
    rw [e1, e2, e3]
    rw [chkF_same h16] at h
    exact do_ok hG h hb
theorem wd_bad {L : List Th} (hG : Good L) {c : Cm} {id : Int} (h : chkF L c = 0) (hb : badI L c id = true) : wdE L c id = 11 ∧ wdN L c id = 0 ∧ wdL L c id = L := by
  by_cases h16 : chk L c = 16
  · obtain ⟨e1, e2, e3⟩ := wd_full (id := id) hG h16
    rw [e1, e2, e3]
    obtain ⟨hc, ho, -⟩ := chk_16 h16
    have hk : c.kd = 1 := by
      unfold badI at hb
      rw [Bool.and_eq_true, decide_eq_true_eq] at hb
      exact hb.1
    have hl : ¬ 200 ≤ L.length := by
      intro hl
      rw [chkF_put hc hk, if_neg (by rw [ho]; simp), if_pos hl] at h
      cases h
    have hE : tpE (putT c id) L = 11 := by
      by_cases hh : hasT id L = true
      · exact tpE_has hh
      · refine tpE_bad ?_
        rw [isT_put hc hk ho]
        unfold badI at hb
        simp [hk, hh] at hb
        simp
        omega
    have n1 : ¬ (1 : Int) = 2 := by decide
    have n2 : ¬ (11 : Int) = 0 := by decide
    unfold sqE sqN sqL
    simp only [hk, n1, hl, hE, n2, if_false]
    exact ⟨trivial, trivial, by unfold tpL; rw [if_neg (by rw [hE]; decide)]⟩
  · obtain ⟨e1, e2, e3⟩ := wd_not (id := id) hG h16
    rw [e1, e2, e3]
    rw [chkF_same h16] at h
    exact do_bad hG h hb
theorem wd_no {L : List Th} (hG : Good L) {c : Cm} {id : Int} (h : ¬ chkF L c = 0) : wdE L c id = chkF L c ∧ wdN L c id = 0 ∧ wdL L c id = L := by
  by_cases h16 : chk L c = 16
  · obtain ⟨e1, e2, e3⟩ := wd_full (id := id) hG h16
    rw [e1, e2, e3]
    obtain ⟨hc, ho, hk⟩ := chk_16 h16
    rcases hk with hk | ⟨hk, hh⟩
    · rw [chkF_put hc hk, if_neg (by rw [ho]; simp)] at h ⊢
      by_cases hl : 200 ≤ L.length
      · unfold sqE sqN sqL
        have n1 : ¬ (1 : Int) = 2 := by decide
        simp only [hk, n1, hl, if_false, if_true]
        exact ⟨trivial, trivial, trivial⟩
      · rw [if_neg hl] at h; exact absurd rfl h
    · rw [chkF_move hc hk, if_neg (by rw [hh]; simp), if_neg (by rw [ho]; simp)] at h
      exact absurd rfl h
  · obtain ⟨e1, e2, e3⟩ := wd_not (id := id) hG h16
    rw [e1, e2, e3]
    rw [chkF_same h16] at h ⊢
    exact do_no h
theorem wd_good {L : List Th} (hG : Good L) {c : Cm} (hc : inC c) (id : Int) : Good (wdL L c id) := by
  unfold wdL
  split
  · unfold sqL
    split
    · exact tsL_good hG (show inT (movT _ c) from thOf_in hG c.id)
    · split
      · exact hG
      · exact tpL_good hG ⟨hc.1, hc.2.1, hc.2.2.1, hc.2.2.2.1⟩
  · exact do_good hG hc id
theorem wd_fail {L : List Th} (hG : Good L) {c : Cm} {id : Int} (h : ¬ wdE L c id = 0) : wdN L c id = 0 ∧ wdL L c id = L := by
  by_cases h0 : chkF L c = 0
  · cases hb : badI L c id
    · exact absurd (wd_ok hG h0 hb).1 h
    · exact (wd_bad hG h0 hb).2
  · exact (wd_no hG h0).2
theorem wd_won {L : List Th} (hG : Good L) {c : Cm} {id : Int} (h : wdE L c id = 0) : chkF L c = 0 ∧ badI L c id = false := by
  by_cases h0 : chkF L c = 0
  · refine ⟨h0, ?_⟩
    cases hb : badI L c id
    · rfl
    · rw [(wd_bad hG h0 hb).1] at h; cases h
  · rw [(wd_no hG h0).1] at h; exact absurd h h0
theorem chkF_put0 {L : List Th} {c : Cm} (h : chkF L c = 0) (hk : c.kd = 1) : isCm c = true ∧ onB c.x c.y = true ∧ L.length < 200 := by
  obtain ⟨hc, -⟩ := chkF_kinds h
  rw [chkF_put hc hk] at h
  refine ⟨hc, ?_⟩
  cases h1 : onB c.x c.y
  · rw [if_pos h1] at h; cases h
  · rw [if_neg (by rw [h1]; simp)] at h
    by_cases h2 : 200 ≤ L.length
    · rw [if_pos h2] at h; cases h
    · exact ⟨rfl, by omega⟩
theorem chkF_move0 {L : List Th} {c : Cm} (h : chkF L c = 0) (hk : c.kd = 2) : isCm c = true ∧ hasT c.id L = true ∧ onB c.x c.y = true := by
  obtain ⟨hc, -⟩ := chkF_kinds h
  rw [chkF_move hc hk] at h
  refine ⟨hc, ?_⟩
  cases h1 : hasT c.id L
  · rw [if_pos h1] at h; cases h
  · rw [if_neg (by rw [h1]; simp)] at h
    cases h2 : onB c.x c.y
    · rw [if_pos h2] at h; cases h
    · exact ⟨rfl, rfl⟩
theorem chkF_set0 {L : List Th} {c : Cm} (h : chkF L c = 0) (hk : c.kd = 3) : isCm c = true ∧ hasT c.id L = true := by
  obtain ⟨hc, -⟩ := chkF_kinds h
  rw [chkF_set hc hk] at h
  refine ⟨hc, ?_⟩
  cases h1 : hasT c.id L
  · rw [if_pos h1] at h; cases h
  · rfl
theorem chkF_wh {L : List Th} {c : Cm} (h : chkF L c = 0) (hk : c.kd = 3) : 0 ≤ c.wh ∧ c.wh < 4 := by
  obtain ⟨hc, -⟩ := chkF_kinds h
  rw [chkF_set hc hk] at h
  split at h
  · cases h
  · split at h
    · cases h
    · rename_i h2; omega
theorem chkF_drop0 {L : List Th} {c : Cm} (h : chkF L c = 0) (hk : c.kd = 4) : isCm c = true ∧ hasT c.id L = true := by
  obtain ⟨hc, -⟩ := chkF_kinds h
  rw [chkF_drop hc hk] at h
  refine ⟨hc, ?_⟩
  cases h1 : hasT c.id L
  · rw [if_pos h1] at h; cases h
  · rfl
end
section
open Go.RowKit
set_option linter.unusedVariables false
/-- the thing behind c, if there is one -/
def newT (L : List Th) (c : Cm) (id : Int) : Option Th :=
  if c.kd = 1 then some (putT c id) else if c.kd = 2 then some (movT (thOf L c.id) c) else if c.kd = 3 then some (setT (thOf L c.id) c.wh c.va) else none
theorem wdE_eq {L : List Th} (hG : Good L) (c : Cm) (id : Int) : wdE L c id = if chkF L c = 0 then (if badI L c id = true then 11 else 0) else chkF L c := by
  by_cases h : chkF L c = 0
  · rw [if_pos h]
    cases hb : badI L c id
    · rw [(wd_ok hG h hb).1]; rfl
    · rw [(wd_bad hG h hb).1]; rfl
  · rw [if_neg h]; exact (wd_no hG h).1
theorem wdN_eq {L : List Th} (hG : Good L) (c : Cm) (id : Int) : wdN L c id = if wdE L c id = 0 then whoI c id else 0 := by
  by_cases h : wdE L c id = 0
  · rw [if_pos h]
    obtain ⟨h1, h2⟩ := wd_won hG h
    exact (wd_ok hG h1 h2).2.1
  · rw [if_neg h]; exact (wd_fail hG h).1
theorem wdL_eq {L : List Th} (hG : Good L) (c : Cm) (id : Int) : wdL L c id = if wdE L c id = 0 then newL L c id else L := by
  by_cases h : wdE L c id = 0
  · rw [if_pos h]
    obtain ⟨h1, h2⟩ := wd_won hG h
    exact (wd_ok hG h1 h2).2.2
  · rw [if_neg h]; exact (wd_fail hG h).2
theorem newT_id {L : List Th} {c : Cm} {id : Int} (h : chkF L c = 0) {t : Th} (ht : newT L c id = some t) : t.id = whoI c id := by
  obtain ⟨hc, hk⟩ := chkF_kinds h
  unfold newT at ht
  unfold whoI
  rcases hk with hk | hk | hk | hk
  · simp only [hk, if_true, Option.some.injEq] at ht ⊢
    subst ht; rfl
  · have n1 : ¬ (2 : Int) = 1 := by decide
    simp only [hk, n1, if_false, if_true, Option.some.injEq] at ht ⊢
    subst ht
    exact (thOf_mem (chkF_move0 h hk).2.1).2
  · have n1 : ¬ (3 : Int) = 1 := by decide
    have n2 : ¬ (3 : Int) = 2 := by decide
    simp only [hk, n1, n2, if_false, if_true, Option.some.injEq] at ht ⊢
    subst ht
    rw [setT_id]
    exact (thOf_mem (chkF_set0 h hk).2).2
  · have n1 : ¬ (4 : Int) = 1 := by decide
    have n2 : ¬ (4 : Int) = 2 := by decide
    have n3 : ¬ (4 : Int) = 3 := by decide
    simp only [hk, n1, n2, n3, if_false] at ht
    cases ht
theorem newL_mem {L : List Th} {c : Cm} {id : Int} (h : chkF L c = 0) (t : Th) : t ∈ newL L c id ↔ (t ∈ L ∧ t.id ≠ whoI c id) ∨ newT L c id = some t := by
  obtain ⟨hc, hk⟩ := chkF_kinds h
  unfold newL newT whoI
  rcases hk with hk | hk | hk | hk
  · simp only [hk, if_true, Option.some.injEq]
    rw [wit_mem, or_comm, eq_comm]; rfl
  · have n1 : ¬ (2 : Int) = 1 := by decide
    simp only [hk, n1, if_false, if_true, Option.some.injEq]
    have m := (thOf_mem (chkF_move0 h hk).2.1).2
    rw [wit_mem, or_comm, eq_comm, show (movT (thOf L c.id) c).id = c.id from m]
  · have n1 : ¬ (3 : Int) = 1 := by decide
    have n2 : ¬ (3 : Int) = 2 := by decide
    simp only [hk, n1, n2, if_false, if_true, Option.some.injEq]
    have m := (thOf_mem (chkF_set0 h hk).2).2
    rw [wit_mem, or_comm, eq_comm, setT_id, m]
  · have n1 : ¬ (4 : Int) = 1 := by decide
    have n2 : ¬ (4 : Int) = 2 := by decide
    have n3 : ¬ (4 : Int) = 3 := by decide
    simp only [hk, n1, n2, n3, if_false]
    rw [out_mem]
    simp
theorem newL_len {L : List Th} (c : Cm) (id : Int) : (newL L c id).length ≤ L.length + 1 := by
  have h : ∀ t : Th, (witT t L).length ≤ L.length + 1 := fun t => by
    unfold witT
    rw [ins_length]
    have : (outT t.id L).length ≤ L.length := List.length_filter_le _ _
    omega
  have h2 : (outT c.id L).length ≤ L.length := List.length_filter_le _ _
  unfold newL
  split
  · exact h _
  · split
    · exact h _
    · split
      · exact h _
      · omega
theorem wdL_len {L : List Th} (hG : Good L) (c : Cm) (id : Int) : (wdL L c id).length ≤ L.length + 1 := by
  rw [wdL_eq hG]
  split
  · exact newL_len c id
  · omega
theorem find_iff {L : List Th} (h : Rise L) {p : Int} {t : Th} : findT p L = some t ↔ t ∈ L ∧ t.id = p := by
  constructor
  · intro hf; exact findT_mem hf
  · rintro ⟨h1, rfl⟩; exact find_mem_th h h1
theorem find_same {L M : List Th} (hL : Rise L) (hM : Rise M) {p : Int} (h : ∀ t, t.id = p → (t ∈ L ↔ t ∈ M)) : findT p L = findT p M := by
  refine Option.ext fun t => ?_
  show findT p L = some t ↔ findT p M = some t
  rw [find_iff hL, find_iff hM]
  constructor
  · rintro ⟨h1, h2⟩; exact ⟨(h t h2).1 h1, h2⟩
  · rintro ⟨h1, h2⟩; exact ⟨(h t h2).2 h1, h2⟩
theorem has_find {L : List Th} (h : Rise L) (p : Int) : hasT p L = (findT p L).isSome := by
  cases hh : hasT p L
  · rw [find_no_th hh]; rfl
  · obtain ⟨t, h1, h2, h3⟩ := has_of hh
    rw [h3]; rfl
theorem wd_mem {L : List Th} (hG : Good L) (c : Cm) (id : Int) {t : Th} (ht : t.id ≠ whoI c id) : t ∈ wdL L c id ↔ t ∈ L := by
  rw [wdL_eq hG]
  by_cases h : wdE L c id = 0
  · rw [if_pos h]
    obtain ⟨h1, h2⟩ := wd_won hG h
    rw [newL_mem h1]
    constructor
    · rintro (h3 | h3)
      · exact h3.1
      · exact absurd (newT_id h1 h3) ht
    · intro h3; exact .inl ⟨h3, ht⟩
  · rw [if_neg h]
theorem wd_find {L : List Th} (hG : Good L) {c : Cm} (hc : inC c) (id : Int) {p : Int} (hp : p ≠ whoI c id) : findT p (wdL L c id) = findT p L :=
  find_same (wd_good hG hc id).rise hG.rise (fun t ht => wd_mem hG c id (by rw [ht]; exact hp))
theorem wd_has {L : List Th} (hG : Good L) {c : Cm} (hc : inC c) (id : Int) {p : Int} (hp : p ≠ whoI c id) : hasT p (wdL L c id) = hasT p L := by
  rw [has_find (wd_good hG hc id).rise, has_find hG.rise, wd_find hG hc id hp]
/-- what is told of a hangs on its own thing alone, as long as there is room -/
theorem wdE_same {L M : List Th} (hL : Good L) (hM : Good M) (l1 : L.length < 200) (l2 : M.length < 200) {a : Cm} {x : Int} (hh : hasT (whoI a x) L = hasT (whoI a x) M) : wdE L a x = wdE M a x := by
  have hl1 : ¬ 200 ≤ L.length := by omega
  have hl2 : ¬ 200 ≤ M.length := by omega
  rw [wdE_eq hL, wdE_eq hM]
  cases hc : isCm a
  · rw [chkF_no hc, chkF_no hc]; rfl
  · have hb := isC_bounds hc
    by_cases h5 : 4 < a.kd
    · rw [chkF_else hc h5, chkF_else hc h5]; rfl
    · have hk : a.kd = 1 ∨ a.kd = 2 ∨ a.kd = 3 ∨ a.kd = 4 := by omega
      unfold whoI at hh
      unfold badI
      rcases hk with hk | hk | hk | hk
      · rw [if_pos hk] at hh
        rw [chkF_put hc hk, chkF_put hc hk, if_neg hl1, if_neg hl2, hh]
      · rw [if_neg (by omega)] at hh
        rw [chkF_move hc hk, chkF_move hc hk, hh]
        simp [hk]
      · rw [if_neg (by omega)] at hh
        rw [chkF_set hc hk, chkF_set hc hk, hh]
        simp [hk]
      · rw [if_neg (by omega)] at hh
        rw [chkF_drop hc hk, chkF_drop hc hk, hh]
        simp [hk]
theorem newT_same {L M : List Th} {a : Cm} {x : Int} (hh : findT (whoI a x) L = findT (whoI a x) M) : newT L a x = newT M a x := by
  unfold newT
  by_cases h1 : a.kd = 1
  · rw [if_pos h1, if_pos h1]
  · unfold whoI at hh
    rw [if_neg h1] at hh
    have : thOf L a.id = thOf M a.id := by unfold thOf; rw [hh]
    rw [if_neg h1, if_neg h1, this]
theorem wd_new_mem {L : List Th} (hG : Good L) {c : Cm} {id : Int} (t : Th) : t ∈ wdL L c id ↔ (wdE L c id = 0 ∧ ((t ∈ L ∧ t.id ≠ whoI c id) ∨ (newT L c id = some t ∧ t.id = whoI c id))) ∨ (¬ wdE L c id = 0 ∧ t ∈ L) := by
  rw [wdL_eq hG]
  by_cases h : wdE L c id = 0
  · rw [if_pos h]
    obtain ⟨h1, h2⟩ := wd_won hG h
    rw [newL_mem h1]
    constructor
    · rintro (h3 | h3)
      · exact .inl ⟨h, .inl h3⟩
      · exact .inl ⟨h, .inr ⟨h3, newT_id h1 h3⟩⟩
    · rintro (⟨-, h3 | h3⟩ | ⟨h3, -⟩)
      · exact .inl h3
      · exact .inr h3.1
      · exact absurd h h3
  · rw [if_neg h]
    constructor
    · intro h3; exact .inr ⟨h, h3⟩
    · rintro (⟨h3, -⟩ | ⟨-, h3⟩)
      · exact absurd h3 h
      · exact h3
theorem rise_nodup {L : List Th} (h : Rise L) : L.Nodup := List.Pairwise.imp (fun {a b} hab e => by subst e; omega) h
theorem wd_apart {L : List Th} (hG : Good L) (hl : L.length ≤ 100) {a b : Cm} (ha : inC a) (hb : inC b) {x y : Int} (hne : whoI a x ≠ whoI b y) :
    wdE (wdL L b y) a x = wdE L a x ∧ wdN (wdL L b y) a x = wdN L a x ∧ wdE (wdL L a x) b y = wdE L b y ∧ wdN (wdL L a x) b y = wdN L b y ∧ wdL (wdL L a x) b y = wdL (wdL L b y) a x := by
  have GA := wd_good hG ha x
  have GB := wd_good hG hb y
  have lA := wdL_len hG a x
  have lB := wdL_len hG b y
  have e1 : wdE (wdL L b y) a x = wdE L a x := wdE_same GB hG (by omega) (by omega) (wd_has hG hb y hne)
  have e2 : wdE (wdL L a x) b y = wdE L b y := wdE_same GA hG (by omega) (by omega) (wd_has hG ha x (Ne.symm hne))
  have t1 : newT (wdL L b y) a x = newT L a x := newT_same (wd_find hG hb y hne)
  have t2 : newT (wdL L a x) b y = newT L b y := newT_same (wd_find hG ha x (Ne.symm hne))
  refine ⟨e1, by rw [wdN_eq GB, wdN_eq hG, e1], e2, by rw [wdN_eq GA, wdN_eq hG, e2], ?_⟩
  refine th_eq ((List.perm_ext_iff_of_nodup (rise_nodup (wd_good GA hb y).rise) (rise_nodup (wd_good GB ha x).rise)).2 fun t => ?_) (wd_good GA hb y).rise (wd_good GB ha x).rise
  rw [wd_new_mem GA t, wd_new_mem GB t, wd_new_mem hG t, wd_new_mem hG t, e1, e2, t1, t2]
  by_cases h1 : wdE L a x = 0 <;> by_cases h2 : wdE L b y = 0 <;> by_cases h3 : t.id = whoI a x <;> by_cases h4 : t.id = whoI b y <;> simp [h1, h2, h3, h4, hne, Ne.symm hne]
  all_goals exact absurd (h3.symm.trans h4) hne
end
end Go.Proofs.YtfoncphdbaaedaaGreatDoor
