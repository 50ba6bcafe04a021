/- Plain facts on rows of things that rise by their numbers, and on their marks: what is put, set, dropped, found. Of no program. -/
import Derived.Test.YtildhbkcpehobaaGreatDoorTbM
import Derived.Test.YtildhbkcpehobaaGreatDoorQdX
namespace Go.Proofs.YtildhbkcpehobaaGreatDoor
open Go.RowKit Go.Maps
set_option linter.unusedVariables false
def mkT (t : Th) : Mk := ⟨t.id, t.x, t.y⟩
def marks (L : List Th) : List Mk := L.map mkT
theorem marks_length (L : List Th) : (marks L).length = L.length := by simp [marks]
theorem marks_rise {L : List Th} (h : Rise L) : (marks L).Pairwise (fun a b => a.id < b.id) := by
  unfold marks
  rw [List.pairwise_map]
  exact h
theorem mk_eq {A B : List Mk} (hp : A.Perm B) (hA : A.Pairwise (fun a b => a.id < b.id)) (hB : B.Pairwise (fun a b => a.id < b.id)) : A = B :=
  List.Perm.eq_of_pairwise (le := fun a b => a.id < b.id) (fun a b _ _ h1 h2 => by omega) hA hB hp
theorem th_eq {A B : List Th} (hp : A.Perm B) (hA : Rise A) (hB : Rise B) : A = B :=
  List.Perm.eq_of_pairwise (le := fun a b => a.id < b.id) (fun a b _ _ h1 h2 => by omega) hA hB hp
theorem ins_perm (t : Th) : ∀ L : List Th, (insT t L).Perm (t :: L)
  | [] => .refl _
  | a :: r => by
    unfold insT
    split
    · exact .refl _
    · exact ((ins_perm t r).cons a).trans (List.Perm.swap t a r)
theorem ins_rising {t : Th} : ∀ {L : List Th}, Rise L → (∀ a ∈ L, a.id ≠ t.id) → Rise (insT t L)
  | [], _, _ => List.pairwise_singleton _ _
  | a :: r, h, hn => by
    obtain ⟨h1, h2⟩ := List.pairwise_cons.1 h
    unfold insT
    split
    · rename_i hlt
      refine List.pairwise_cons.2 ⟨fun b hb => ?_, h⟩
      rcases List.mem_cons.1 hb with rfl | hb
      · exact hlt
      · have := h1 b hb; omega
    · rename_i hlt
      refine List.pairwise_cons.2 ⟨fun b hb => ?_, ins_rising h2 (fun b hb => hn b (List.mem_cons_of_mem _ hb))⟩
      rcases List.mem_cons.1 ((ins_perm t r).mem_iff.1 hb) with rfl | hb
      · have := hn a List.mem_cons_self; omega
      · exact h1 b hb
theorem out_mem {id : Int} {L : List Th} {a : Th} : a ∈ outT id L ↔ a ∈ L ∧ a.id ≠ id := by
  unfold outT
  rw [List.mem_filter]
  simp
theorem out_rise {id : Int} {L : List Th} (h : Rise L) : Rise (outT id L) := h.filter _
theorem wit_rise {t : Th} {L : List Th} (h : Rise L) : Rise (witT t L) := ins_rising (out_rise h) (fun a ha => (out_mem.1 ha).2)
theorem wit_mem {t a : Th} {L : List Th} : a ∈ witT t L ↔ a = t ∨ (a ∈ L ∧ a.id ≠ t.id) := by
  unfold witT
  rw [(ins_perm t _).mem_iff, List.mem_cons, out_mem]
theorem has_iff {id : Int} {L : List Th} : hasT id L = true ↔ ∃ a ∈ L, a.id = id := by
  unfold hasT
  rw [List.any_eq_true]
  simp
theorem has_no {id : Int} {L : List Th} (h : hasT id L = false) : ∀ a ∈ L, a.id ≠ id := fun a ha e => by
  rw [has_iff.2 ⟨a, ha, e⟩] at h
  cases h
theorem out_no {id : Int} {L : List Th} (h : hasT id L = false) : outT id L = L := by
  unfold outT
  rw [List.filter_eq_self]
  intro a ha
  simpa using has_no h a ha
theorem rise_uniq {L : List Th} (h : Rise L) {a b : Th} (ha : a ∈ L) (hb : b ∈ L) (e : a.id = b.id) : a = b := by
  induction L with
  | nil => cases ha
  | cons c L ih =>
    obtain ⟨h1, h2⟩ := List.pairwise_cons.1 h
    rcases List.mem_cons.1 ha with e1 | ha1
    · rcases List.mem_cons.1 hb with e2 | hb1
      · rw [e1, e2]
      · have := h1 b hb1; rw [← e1] at this; omega
    · rcases List.mem_cons.1 hb with e2 | hb1
      · have := h1 a ha1; rw [← e2] at this; omega
      · exact ih h2 ha1 hb1
theorem out_perm {t : Th} : ∀ {L : List Th}, Rise L → t ∈ L → L.Perm (t :: outT t.id L)
  | [], _, h => by cases h
  | a :: r, h, hm => by
    obtain ⟨h1, h2⟩ := List.pairwise_cons.1 h
    by_cases e : a.id = t.id
    · obtain rfl := rise_uniq h List.mem_cons_self hm e
      have hno : outT a.id r = r := by
        unfold outT
        rw [List.filter_eq_self]
        intro b hb
        have := h1 b hb
        simp
        omega
      have : outT a.id (a :: r) = outT a.id r := by unfold outT; simp
      rw [this, hno]
    · have hm' : t ∈ r := by
        rcases List.mem_cons.1 hm with rfl | hm
        · exact absurd rfl e
        · exact hm
      have : outT t.id (a :: r) = a :: outT t.id r := by unfold outT; simp [e]
      rw [this]
      exact ((out_perm h2 hm').cons a).trans (List.Perm.swap t a _)
theorem out_length1 {t : Th} {L : List Th} (h : Rise L) (hm : t ∈ L) : (outT t.id L).length + 1 = L.length := by
  have := (out_perm h hm).length_eq
  simpa using this.symm
theorem wit_length0 {t : Th} {L : List Th} (h : hasT t.id L = false) : (witT t L).length = L.length + 1 := by
  unfold witT
  rw [out_no h, ins_length]
theorem wit_length1 {t : Th} {L : List Th} (hr : Rise L) (h : hasT t.id L = true) : (witT t L).length = L.length := by
  obtain ⟨a, ha, e⟩ := has_iff.1 h
  unfold witT
  rw [ins_length, ← e]
  exact out_length1 hr ha
theorem find_mem_th {L : List Th} (h : Rise L) {t : Th} (hm : t ∈ L) : findT t.id L = some t := by
  unfold findT
  cases hf : L.find? (fun a => a.id == t.id) with
  | none =>
    have := List.find?_eq_none.1 hf t hm
    simp at this
  | some a =>
    have h1 := List.find?_some hf
    have h2 := List.mem_of_find?_eq_some hf
    rw [rise_uniq h h2 hm (by simpa using h1)]
theorem find_no_th {id : Int} {L : List Th} (h : hasT id L = false) : findT id L = none := by
  unfold findT
  rw [List.find?_eq_none]
  intro a ha
  simpa using has_no h a ha
theorem rf_has {id : Int} {L : List Th} : 0 ≤ rfI id (marks L) ↔ hasT id L = true := by
  rw [rf_mem, has_iff]
  unfold marks
  constructor
  · rintro ⟨a, ha, e⟩
    obtain ⟨t, ht, rfl⟩ := List.mem_map.1 ha
    exact ⟨t, ht, e⟩
  · rintro ⟨t, ht, e⟩
    exact ⟨mkT t, List.mem_map.2 ⟨t, ht, rfl⟩, e⟩
theorem marks_put {t : Th} {L : List Th} (hr : Rise L) (hl : L.length < 200) (h0 : 0 ≤ t.id) (ho : onB t.x t.y = true) (hn : hasT t.id L = false) : rptE t.id t.x t.y (marks L) = 0 ∧ rptS t.id t.x t.y (marks L) = marks (witT t L) := by
  have hf : ¬ 0 ≤ rfI t.id (marks L) := fun h => by rw [rf_has.1 h] at hn; cases hn
  have hE : rptE t.id t.x t.y (marks L) = 0 := by
    unfold rptE
    rw [if_neg (by omega), if_neg (by rw [ho]; simp), if_neg hf, if_neg (by rw [marks_length]; omega)]
  refine ⟨hE, ?_⟩
  unfold rptS
  rw [if_pos hE]
  refine mk_eq ?_ (ins_ids (marks_rise hr) hf) (marks_rise (wit_rise hr))
  refine (insS_perm _ _ _).trans ?_
  unfold witT
  rw [out_no hn]
  exact ((ins_perm t L).map mkT).symm
theorem marks_drop {id : Int} {L : List Th} (hr : Rise L) (hn : hasT id L = true) : rdrE id (marks L) = 0 ∧ rdrS id (marks L) = marks (outT id L) := by
  have hf : 0 ≤ rfI id (marks L) := rf_has.2 hn
  have hE : rdrE id (marks L) = 0 := by unfold rdrE; rw [if_neg (by omega)]
  refine ⟨hE, ?_⟩
  unfold rdrS
  rw [if_neg (by omega)]
  obtain ⟨a, ha, e⟩ := rf_get hf
  obtain ⟨t, ht, rfl⟩ := List.mem_map.1 (List.mem_of_getElem? ha)
  have p1 := delS_perm ha
  have p2 := (out_perm hr ht).map mkT
  rw [show t.id = id from e] at p2
  refine mk_eq ?_ ((marks_rise hr).sublist (delS_sub _ _)) (marks_rise (out_rise hr))
  exact List.Perm.cons_inv (p1.symm.trans p2)
theorem marks_set {t : Th} {L : List Th} (hr : Rise L) (ho : onB t.x t.y = true) (hn : hasT t.id L = true) : rmvE t.id t.x t.y (marks L) = 0 ∧ rmvS t.id t.x t.y (marks L) = marks (witT t L) := by
  have hf : 0 ≤ rfI t.id (marks L) := rf_has.2 hn
  have hE : rmvE t.id t.x t.y (marks L) = 0 := by unfold rmvE; rw [if_neg (by omega), if_neg (by rw [ho]; simp)]
  refine ⟨hE, ?_⟩
  unfold rmvS
  rw [if_pos hE]
  obtain ⟨a, ha, e⟩ := rf_get hf
  obtain ⟨u, hu, rfl⟩ := List.mem_map.1 (List.mem_of_getElem? ha)
  have p1 := setM_perm (x := t.x) (y := t.y) ha
  have e' : u.id = t.id := e
  have p2 := delS_perm ha
  have p3 := (out_perm hr hu).map mkT
  have p4 := List.Perm.cons_inv (p2.symm.trans p3)
  refine mk_eq ?_ (setM_ids (marks_rise hr) _ _ _) (marks_rise (wit_rise hr))
  refine p1.trans ?_
  refine ((p4.cons _)).trans ?_
  have p5 := ((ins_perm t (outT t.id L)).map mkT).symm
  rw [e']
  rw [show (⟨(mkT u).id, t.x, t.y⟩ : Mk) = mkT t by unfold mkT; simp [e']]
  exact p5
def inT_r (r : Rc) (L : List Th) : List Th := L.filter fun t => inB r t.x t.y
theorem marks_in (L : List Th) (r : Rc) : rinL (marks L) r = (inT_r r L).map Th.id := by
  unfold rinL marks inT_r
  induction L with
  | nil => rfl
  | cons a L ih =>
    simp only [List.map_cons, List.filter_cons]
    rw [show inB r (mkT a).x (mkT a).y = inB r a.x a.y from rfl]
    cases inB r a.x a.y
    · exact ih
    · simp only [if_true, List.map_cons, ih]; rfl
/-- the things of these numbers -/
def those (L : List Th) (l : List Int) : List Th := l.map fun i => (findT i L).getD zT
theorem those_sub {L M : List Th} (h : Rise L) (hs : ∀ t ∈ M, t ∈ L) : those L (M.map Th.id) = M := by
  unfold those
  induction M with
  | nil => rfl
  | cons a M ih =>
    simp only [List.map_cons]
    rw [find_mem_th h (hs a List.mem_cons_self), ih (fun t ht => hs t (List.mem_cons_of_mem _ ht))]
    rfl
theorem sorted_keys {L : List Th} (h : Rise L) {ss : List Int} (hp : ss.Perm (L.map Th.id)) : (ss.mergeSort fun x y => decide (x ≤ y)) = L.map Th.id := by
  have e := mergeSort_of_perm_i hp
  have hs : (L.map Th.id).Pairwise (fun a b => decide (a ≤ b) = true) := by
    rw [List.pairwise_map]
    exact h.imp (fun {a b} hab => by simp; omega)
  exact e.trans (List.mergeSort_of_pairwise hs)
/-- what a table may hold -/
structure Good (L : List Th) : Prop where
  rise : Rise L
  len : L.length ≤ 200
  is : ∀ t ∈ L, isT t = true
  fit : ∀ t ∈ L, inT t
theorem Good.nil : Good [] := ⟨.nil, by simp, by simp, by simp⟩
theorem Good.out {L : List Th} (h : Good L) (id : Int) : Good (outT id L) :=
  ⟨out_rise h.rise, Nat.le_trans (out_length id L) h.len, fun t ht => h.is t (out_mem.1 ht).1, fun t ht => h.fit t (out_mem.1 ht).1⟩
theorem Good.set {L : List Th} (h : Good L) {t : Th} (ht : isT t = true) (hf : inT t) (hh : hasT t.id L = true) : Good (witT t L) :=
  ⟨wit_rise h.rise, by rw [wit_length1 h.rise hh]; exact h.len, fun a ha => by rcases wit_mem.1 ha with rfl | ⟨ha, _⟩; exact ht; exact h.is a ha, fun a ha => by rcases wit_mem.1 ha with rfl | ⟨ha, _⟩; exact hf; exact h.fit a ha⟩
theorem Good.put {L : List Th} (h : Good L) {t : Th} (ht : isT t = true) (hf : inT t) (hh : hasT t.id L = false) (hl : L.length < 200) : Good (witT t L) :=
  ⟨wit_rise h.rise, by rw [wit_length0 hh]; omega, fun a ha => by rcases wit_mem.1 ha with rfl | ⟨ha, _⟩; exact ht; exact h.is a ha, fun a ha => by rcases wit_mem.1 ha with rfl | ⟨ha, _⟩; exact hf; exact h.fit a ha⟩
/-- Put's, Set's, Drop's error, and what the table holds behind them -/
def tpE (t : Th) (L : List Th) : Int := if isT t = false ∨ hasT t.id L = true then 11 else if 200 ≤ L.length then 16 else 0
def tpL (t : Th) (L : List Th) : List Th := if tpE t L = 0 then witT t L else L
def tsE (t : Th) (L : List Th) : Int := if isT t = false then 11 else if hasT t.id L = false then 15 else 0
def tsL (t : Th) (L : List Th) : List Th := if tsE t L = 0 then witT t L else L
def tdE (id : Int) (L : List Th) : Int := if hasT id L = false then 15 else 0
def tdL (id : Int) (L : List Th) : List Th := outT id L
theorem isT_parts {t : Th} (h : isT t = true) : 0 ≤ t.id ∧ t.id ≤ 1000000 ∧ onB t.x t.y = true := by
  rw [isT_eq] at h
  simp only [Bool.and_eq_true, decide_eq_true_eq] at h
  obtain ⟨⟨⟨⟨⟨⟨h1, h2⟩, h3⟩, _⟩, _⟩, _⟩, _⟩ := h
  exact ⟨h1, h2, h3⟩
theorem isT_inI {t : Th} (h : isT t = true) : inI t.id := by
  obtain ⟨h1, h2, _⟩ := isT_parts h
  exact ⟨by omega, by omega⟩
theorem tpE_bad {t : Th} {L : List Th} (h : isT t = false) : tpE t L = 11 := by unfold tpE; rw [if_pos (.inl h)]
theorem tpE_has {t : Th} {L : List Th} (h : hasT t.id L = true) : tpE t L = 11 := by unfold tpE; rw [if_pos (.inr h)]
theorem tpE_full {t : Th} {L : List Th} (h1 : isT t = true) (h2 : hasT t.id L = false) (h : 200 ≤ L.length) : tpE t L = 16 := by unfold tpE; rw [if_neg (by simp [h1, h2]), if_pos h]
theorem tpE_ok {t : Th} {L : List Th} (h1 : isT t = true) (h2 : hasT t.id L = false) (h : L.length < 200) : tpE t L = 0 := by unfold tpE; rw [if_neg (by simp [h1, h2]), if_neg (by omega)]
theorem tpL_good {t : Th} {L : List Th} (h : Good L) (hf : inT t) : Good (tpL t L) := by
  unfold tpL
  split
  · rename_i h0
    unfold tpE at h0
    split at h0
    · cases h0
    · rename_i hn
      split at h0
      · cases h0
      · rename_i hl
        have h1 : isT t = true := by cases e : isT t; exact absurd (.inl e) hn; rfl
        have h2 : hasT t.id L = false := by cases e : hasT t.id L; rfl; exact absurd (.inr e) hn
        exact h.put h1 hf h2 (by omega)
  · exact h
theorem tsL_good {t : Th} {L : List Th} (h : Good L) (hf : inT t) : Good (tsL t L) := by
  unfold tsL
  split
  · rename_i h0
    unfold tsE at h0
    split at h0
    · cases h0
    · rename_i hn
      split at h0
      · cases h0
      · rename_i hl
        exact h.set (by simpa using hn) hf (by simpa using hl)
  · exact h
/-- what Of makes of a row -/
def ofT (M : List Th) : List Th := M.foldl (fun L t => tpL t L) []
theorem of_take {M : List Th} {k : Nat} {t : Th} (h : M[k]? = some t) : ofT (M.take (k + 1)) = tpL t (ofT (M.take k)) := by
  unfold ofT
  rw [List.take_add_one, h, Option.toList_some, List.foldl_append]
  rfl
theorem of_good {M : List Th} (h : ∀ t ∈ M, inT t) : Good (ofT M) := by
  unfold ofT
  suffices ∀ (M : List Th) (L : List Th), Good L → (∀ t ∈ M, inT t) → Good (M.foldl (fun L t => tpL t L) L) from this M [] .nil h
  intro M
  induction M with
  | nil => intro L hL _; exact hL
  | cons a M ih => intro L hL hM; exact ih _ (tpL_good hL (hM a List.mem_cons_self)) (fun t ht => hM t (List.mem_cons_of_mem _ ht))
end Go.Proofs.YtildhbkcpehobaaGreatDoor
