/- Plain facts on commands of unlike things: done in either order they tell and leave the same. Of no program. -/
import Derived.Test.YtfoncphdbaaedaaGreatDoorWdP
namespace Go.Proofs.YtfoncphdbaaedaaGreatDoor
open Go.RowKit
set_option linter.unusedVariables false
/-- the thing behind c, if there is one -/
def newT (L : List Th) (c : Cm) (id : Int) : Option Th :=
  if c.kd = 1 then some (putT c id) else if c.kd = 2 then some (movT (thOf L c.id) c) else if c.kd = 3 then some (setT (thOf L c.id) c.wh c.va) else none
theorem wdE_eq {L : List Th} (hG : Good L) (c : Cm) (id : Int) : wdE L c id = if chkF L c = 0 then (if badI L c id = true then 11 else 0) else chkF L c := by
  by_cases h : chkF L c = 0
  · rw [if_pos h]
    cases hb : badI L c id
    · rw [(wd_ok hG h hb).1]; rfl
    · rw [(wd_bad hG h hb).1]; rfl
  · rw [if_neg h]; exact (wd_no hG h).1
theorem wdN_eq {L : List Th} (hG : Good L) (c : Cm) (id : Int) : wdN L c id = if wdE L c id = 0 then whoI c id else 0 := by
  by_cases h : wdE L c id = 0
  · rw [if_pos h]
    obtain ⟨h1, h2⟩ := wd_won hG h
    exact (wd_ok hG h1 h2).2.1
  · rw [if_neg h]; exact (wd_fail hG h).1
theorem wdL_eq {L : List Th} (hG : Good L) (c : Cm) (id : Int) : wdL L c id = if wdE L c id = 0 then newL L c id else L := by
  by_cases h : wdE L c id = 0
  · rw [if_pos h]
    obtain ⟨h1, h2⟩ := wd_won hG h
    exact (wd_ok hG h1 h2).2.2
  · rw [if_neg h]; exact (wd_fail hG h).2
theorem newT_id {L : List Th} {c : Cm} {id : Int} (h : chkF L c = 0) {t : Th} (ht : newT L c id = some t) : t.id = whoI c id := by
  obtain ⟨hc, hk⟩ := chkF_kinds h
  unfold newT at ht
  unfold whoI
  rcases hk with hk | hk | hk | hk
  · simp only [hk, if_true, Option.some.injEq] at ht ⊢
    subst ht; rfl
  · have n1 : ¬ (2 : Int) = 1 := by decide
    simp only [hk, n1, if_false, if_true, Option.some.injEq] at ht ⊢
    subst ht
    exact (thOf_mem (chkF_move0 h hk).2.1).2
  · have n1 : ¬ (3 : Int) = 1 := by decide
    have n2 : ¬ (3 : Int) = 2 := by decide
    simp only [hk, n1, n2, if_false, if_true, Option.some.injEq] at ht ⊢
    subst ht
    rw [setT_id]
    exact (thOf_mem (chkF_set0 h hk).2).2
  · have n1 : ¬ (4 : Int) = 1 := by decide
    have n2 : ¬ (4 : Int) = 2 := by decide
    have n3 : ¬ (4 : Int) = 3 := by decide
    simp only [hk, n1, n2, n3, if_false] at ht
    cases ht
theorem newL_mem {L : List Th} {c : Cm} {id : Int} (h : chkF L c = 0) (t : Th) : t ∈ newL L c id ↔ (t ∈ L ∧ t.id ≠ whoI c id) ∨ newT L c id = some t := by
  obtain ⟨hc, hk⟩ := chkF_kinds h
  unfold newL newT whoI
  rcases hk with hk | hk | hk | hk
  · simp only [hk, if_true, Option.some.injEq]
    rw [wit_mem, or_comm, eq_comm]; rfl
  · have n1 : ¬ (2 : Int) = 1 := by decide
    simp only [hk, n1, if_false, if_true, Option.some.injEq]
    have m := (thOf_mem (chkF_move0 h hk).2.1).2
    rw [wit_mem, or_comm, eq_comm, show (movT (thOf L c.id) c).id = c.id from m]
  · have n1 : ¬ (3 : Int) = 1 := by decide
    have n2 : ¬ (3 : Int) = 2 := by decide
    simp only [hk, n1, n2, if_false, if_true, Option.some.injEq]
    have m := (thOf_mem (chkF_set0 h hk).2).2
    rw [wit_mem, or_comm, eq_comm, setT_id, m]
  · have n1 : ¬ (4 : Int) = 1 := by decide
    have n2 : ¬ (4 : Int) = 2 := by decide
    have n3 : ¬ (4 : Int) = 3 := by decide
    simp only [hk, n1, n2, n3, if_false]
    rw [out_mem]
    simp
theorem newL_len {L : List Th} (c : Cm) (id : Int) : (newL L c id).length ≤ L.length + 1 := by
  have h : ∀ t : Th, (witT t L).length ≤ L.length + 1 := fun t => by
    unfold witT
    rw [ins_length]
    have : (outT t.id L).length ≤ L.length := List.length_filter_le _ _
    omega
  have h2 : (outT c.id L).length ≤ L.length := List.length_filter_le _ _
  unfold newL
  split
  · exact h _
  · split
    · exact h _
    · split
      · exact h _
      · omega
theorem wdL_len {L : List Th} (hG : Good L) (c : Cm) (id : Int) : (wdL L c id).length ≤ L.length + 1 := by
  rw [wdL_eq hG]
  split
  · exact newL_len c id
  · omega
theorem find_iff {L : List Th} (h : Rise L) {p : Int} {t : Th} : findT p L = some t ↔ t ∈ L ∧ t.id = p := by
  constructor
  · intro hf; exact findT_mem hf
  · rintro ⟨h1, rfl⟩; exact find_mem_th h h1
theorem find_same {L M : List Th} (hL : Rise L) (hM : Rise M) {p : Int} (h : ∀ t, t.id = p → (t ∈ L ↔ t ∈ M)) : findT p L = findT p M := by
  refine Option.ext fun t => ?_
  show findT p L = some t ↔ findT p M = some t
  rw [find_iff hL, find_iff hM]
  constructor
  · rintro ⟨h1, h2⟩; exact ⟨(h t h2).1 h1, h2⟩
  · rintro ⟨h1, h2⟩; exact ⟨(h t h2).2 h1, h2⟩
theorem has_find {L : List Th} (h : Rise L) (p : Int) : hasT p L = (findT p L).isSome := by
  cases hh : hasT p L
  · rw [find_no_th hh]; rfl
  · obtain ⟨t, h1, h2, h3⟩ := has_of hh
    rw [h3]; rfl
theorem wd_mem {L : List Th} (hG : Good L) (c : Cm) (id : Int) {t : Th} (ht : t.id ≠ whoI c id) : t ∈ wdL L c id ↔ t ∈ L := by
  rw [wdL_eq hG]
  by_cases h : wdE L c id = 0
  · rw [if_pos h]
    obtain ⟨h1, h2⟩ := wd_won hG h
    rw [newL_mem h1]
    constructor
    · rintro (h3 | h3)
      · exact h3.1
      · exact absurd (newT_id h1 h3) ht
    · intro h3; exact .inl ⟨h3, ht⟩
  · rw [if_neg h]
theorem wd_find {L : List Th} (hG : Good L) {c : Cm} (hc : inC c) (id : Int) {p : Int} (hp : p ≠ whoI c id) : findT p (wdL L c id) = findT p L :=
  find_same (wd_good hG hc id).rise hG.rise (fun t ht => wd_mem hG c id (by rw [ht]; exact hp))
theorem wd_has {L : List Th} (hG : Good L) {c : Cm} (hc : inC c) (id : Int) {p : Int} (hp : p ≠ whoI c id) : hasT p (wdL L c id) = hasT p L := by
  rw [has_find (wd_good hG hc id).rise, has_find hG.rise, wd_find hG hc id hp]
/-- what is told of a hangs on its own thing alone, as long as there is room -/
theorem wdE_same {L M : List Th} (hL : Good L) (hM : Good M) (l1 : L.length < 200) (l2 : M.length < 200) {a : Cm} {x : Int} (hh : hasT (whoI a x) L = hasT (whoI a x) M) : wdE L a x = wdE M a x := by
  have hl1 : ¬ 200 ≤ L.length := by omega
  have hl2 : ¬ 200 ≤ M.length := by omega
  rw [wdE_eq hL, wdE_eq hM]
  cases hc : isCm a
  · rw [chkF_no hc, chkF_no hc]; rfl
  · have hb := isC_bounds hc
    by_cases h5 : 4 < a.kd
    · rw [chkF_else hc h5, chkF_else hc h5]; rfl
    · have hk : a.kd = 1 ∨ a.kd = 2 ∨ a.kd = 3 ∨ a.kd = 4 := by omega
      unfold whoI at hh
      unfold badI
      rcases hk with hk | hk | hk | hk
      · rw [if_pos hk] at hh
        rw [chkF_put hc hk, chkF_put hc hk, if_neg hl1, if_neg hl2, hh]
      · rw [if_neg (by omega)] at hh
        rw [chkF_move hc hk, chkF_move hc hk, hh]
        simp [hk]
      · rw [if_neg (by omega)] at hh
        rw [chkF_set hc hk, chkF_set hc hk, hh]
        simp [hk]
      · rw [if_neg (by omega)] at hh
        rw [chkF_drop hc hk, chkF_drop hc hk, hh]
        simp [hk]
theorem newT_same {L M : List Th} {a : Cm} {x : Int} (hh : findT (whoI a x) L = findT (whoI a x) M) : newT L a x = newT M a x := by
  unfold newT
  by_cases h1 : a.kd = 1
  · rw [if_pos h1, if_pos h1]
  · unfold whoI at hh
    rw [if_neg h1] at hh
    have : thOf L a.id = thOf M a.id := by unfold thOf; rw [hh]
    rw [if_neg h1, if_neg h1, this]
theorem wd_new_mem {L : List Th} (hG : Good L) {c : Cm} {id : Int} (t : Th) : t ∈ wdL L c id ↔ (wdE L c id = 0 ∧ ((t ∈ L ∧ t.id ≠ whoI c id) ∨ (newT L c id = some t ∧ t.id = whoI c id))) ∨ (¬ wdE L c id = 0 ∧ t ∈ L) := by
  rw [wdL_eq hG]
  by_cases h : wdE L c id = 0
  · rw [if_pos h]
    obtain ⟨h1, h2⟩ := wd_won hG h
    rw [newL_mem h1]
    constructor
    · rintro (h3 | h3)
      · exact .inl ⟨h, .inl h3⟩
      · exact .inl ⟨h, .inr ⟨h3, newT_id h1 h3⟩⟩
    · rintro (⟨-, h3 | h3⟩ | ⟨h3, -⟩)
      · exact .inl h3
      · exact .inr h3.1
      · exact absurd h h3
  · rw [if_neg h]
    constructor
    · intro h3; exact .inr ⟨h, h3⟩
    · rintro (⟨h3, -⟩ | ⟨-, h3⟩)
      · exact absurd h3 h
      · exact h3
theorem rise_nodup {L : List Th} (h : Rise L) : L.Nodup := List.Pairwise.imp (fun {a b} hab e => by subst e; omega) h
theorem wd_apart {L : List Th} (hG : Good L) (hl : L.length ≤ 100) {a b : Cm} (ha : inC a) (hb : inC b) {x y : Int} (hne : whoI a x ≠ whoI b y) :
    wdE (wdL L b y) a x = wdE L a x ∧ wdN (wdL L b y) a x = wdN L a x ∧ wdE (wdL L a x) b y = wdE L b y ∧ wdN (wdL L a x) b y = wdN L b y ∧ wdL (wdL L a x) b y = wdL (wdL L b y) a x := by
  have GA := wd_good hG ha x
  have GB := wd_good hG hb y
  have lA := wdL_len hG a x
  have lB := wdL_len hG b y
  have e1 : wdE (wdL L b y) a x = wdE L a x := wdE_same GB hG (by omega) (by omega) (wd_has hG hb y hne)
  have e2 : wdE (wdL L a x) b y = wdE L b y := wdE_same GA hG (by omega) (by omega) (wd_has hG ha x (Ne.symm hne))
  have t1 : newT (wdL L b y) a x = newT L a x := newT_same (wd_find hG hb y hne)
  have t2 : newT (wdL L a x) b y = newT L b y := newT_same (wd_find hG ha x (Ne.symm hne))
  refine ⟨e1, by rw [wdN_eq GB, wdN_eq hG, e1], e2, by rw [wdN_eq GA, wdN_eq hG, e2], ?_⟩
  refine th_eq ((List.perm_ext_iff_of_nodup (rise_nodup (wd_good GA hb y).rise) (rise_nodup (wd_good GB ha x).rise)).2 fun t => ?_) (wd_good GA hb y).rise (wd_good GB ha x).rise
  rw [wd_new_mem GA t, wd_new_mem GB t, wd_new_mem hG t, wd_new_mem hG t, e1, e2, t1, t2]
  by_cases h1 : wdE L a x = 0 <;> by_cases h2 : wdE L b y = 0 <;> by_cases h3 : t.id = whoI a x <;> by_cases h4 : t.id = whoI b y <;> simp [h1, h2, h3, h4, hne, Ne.symm hne]
  all_goals exact absurd (h3.symm.trans h4) hne
end Go.Proofs.YtfoncphdbaaedaaGreatDoor
