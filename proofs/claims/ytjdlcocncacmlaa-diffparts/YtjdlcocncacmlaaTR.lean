/- Plain facts on rows of things that rise; contracts of At, Without, With of the reference: each returns what the plain functions say, in new memory; nothing that was there is changed. -/
import Derived.Test.YtjdlcocncacmlaaXD
import Derived.Test.YtjdlcocncacmlaaHA
namespace Go.Proofs.Ytjdlcocncacmlaa
section
open Go.RowKit
set_option linter.unusedVariables false
def findT (id : Int) (L : List Th) : Option Th := L.find? (fun t => t.id == id)
def hasT (id : Int) (L : List Th) : Bool := L.any (fun t => t.id == id)
def insT (t : Th) : List Th → List Th
  | [] => [t]
  | a :: r => if t.id < a.id then t :: a :: r else a :: insT t r
def outT (id : Int) (L : List Th) : List Th := L.filter (fun a => !(a.id == id))
def witT (t : Th) (L : List Th) : List Th := insT t (outT t.id L)
abbrev Rise (L : List Th) : Prop := L.Pairwise (fun a b => a.id < b.id)
theorem ins_length (t : Th) : ∀ L : List Th, (insT t L).length = L.length + 1
  | [] => rfl
  | a :: r => by
    unfold insT
    split
    · simp
    · simp [ins_length t r]
theorem out_length (id : Int) (L : List Th) : (outT id L).length ≤ L.length := List.length_filter_le _ _
end
section
open Go.RowKit
set_option linter.unusedVariables false
theorem th_eq {A B : List Th} (hp : A.Perm B) (hA : Rise A) (hB : Rise B) : A = B :=
  List.Perm.eq_of_pairwise (le := fun a b => a.id < b.id) (fun a b _ _ h1 h2 => by omega) hA hB hp
theorem ins_perm (t : Th) : ∀ L : List Th, (insT t L).Perm (t :: L)
  | [] => .refl _
  | a :: r => by
    unfold insT
    split
    · exact .refl _
    · exact ((ins_perm t r).cons a).trans (List.Perm.swap t a r)
theorem ins_rising {t : Th} : ∀ {L : List Th}, Rise L → (∀ a ∈ L, a.id ≠ t.id) → Rise (insT t L)
  | [], _, _ => List.pairwise_singleton _ _
  | a :: r, h, hn => by
    obtain ⟨h1, h2⟩ := List.pairwise_cons.1 h
    unfold insT
    split
    · rename_i hlt
      refine List.pairwise_cons.2 ⟨fun b hb => ?_, h⟩
      rcases List.mem_cons.1 hb with rfl | hb
      · exact hlt
      · have := h1 b hb; omega
    · rename_i hlt
      refine List.pairwise_cons.2 ⟨fun b hb => ?_, ins_rising h2 (fun b hb => hn b (List.mem_cons_of_mem _ hb))⟩
      rcases List.mem_cons.1 ((ins_perm t r).mem_iff.1 hb) with rfl | hb
      · have := hn a List.mem_cons_self; omega
      · exact h1 b hb
theorem out_mem {id : Int} {L : List Th} {a : Th} : a ∈ outT id L ↔ a ∈ L ∧ a.id ≠ id := by
  unfold outT
  rw [List.mem_filter]
  simp
theorem out_rise {id : Int} {L : List Th} (h : Rise L) : Rise (outT id L) := h.filter _
theorem wit_rise {t : Th} {L : List Th} (h : Rise L) : Rise (witT t L) := ins_rising (out_rise h) (fun a ha => (out_mem.1 ha).2)
theorem wit_mem {t a : Th} {L : List Th} : a ∈ witT t L ↔ a = t ∨ (a ∈ L ∧ a.id ≠ t.id) := by
  unfold witT
  rw [(ins_perm t _).mem_iff, List.mem_cons, out_mem]
theorem has_iff {id : Int} {L : List Th} : hasT id L = true ↔ ∃ a ∈ L, a.id = id := by
  unfold hasT
  rw [List.any_eq_true]
  simp
theorem has_no {id : Int} {L : List Th} (h : hasT id L = false) : ∀ a ∈ L, a.id ≠ id := fun a ha e => by
  rw [has_iff.2 ⟨a, ha, e⟩] at h
  cases h
theorem out_no {id : Int} {L : List Th} (h : hasT id L = false) : outT id L = L := by
  unfold outT
  rw [List.filter_eq_self]
  intro a ha
  simpa using has_no h a ha
theorem rise_uniq {L : List Th} (h : Rise L) {a b : Th} (ha : a ∈ L) (hb : b ∈ L) (e : a.id = b.id) : a = b := by
  induction L with
  | nil => cases ha
  | cons c L ih =>
    obtain ⟨h1, h2⟩ := List.pairwise_cons.1 h
    rcases List.mem_cons.1 ha with e1 | ha1
    · rcases List.mem_cons.1 hb with e2 | hb1
      · rw [e1, e2]
      · have := h1 b hb1; rw [← e1] at this; omega
    · rcases List.mem_cons.1 hb with e2 | hb1
      · have := h1 a ha1; rw [← e2] at this; omega
      · exact ih h2 ha1 hb1
theorem out_perm {t : Th} : ∀ {L : List Th}, Rise L → t ∈ L → L.Perm (t :: outT t.id L)
  | [], _, h => by cases h
  | a :: r, h, hm => by
    obtain ⟨h1, h2⟩ := List.pairwise_cons.1 h
    by_cases e : a.id = t.id
    · obtain rfl := rise_uniq h List.mem_cons_self hm e
      have hno : outT a.id r = r := by
        unfold outT
        rw [List.filter_eq_self]
        intro b hb
        have := h1 b hb
        simp
        omega
      have : outT a.id (a :: r) = outT a.id r := by unfold outT; simp
      rw [this, hno]
    · have hm' : t ∈ r := by
        rcases List.mem_cons.1 hm with rfl | hm
        · exact absurd rfl e
        · exact hm
      have : outT t.id (a :: r) = a :: outT t.id r := by unfold outT; simp [e]
      rw [this]
      exact ((out_perm h2 hm').cons a).trans (List.Perm.swap t a _)
theorem out_length1 {t : Th} {L : List Th} (h : Rise L) (hm : t ∈ L) : (outT t.id L).length + 1 = L.length := by
  have := (out_perm h hm).length_eq
  simpa using this.symm
theorem wit_length0 {t : Th} {L : List Th} (h : hasT t.id L = false) : (witT t L).length = L.length + 1 := by
  unfold witT
  rw [out_no h, ins_length]
theorem wit_length1 {t : Th} {L : List Th} (hr : Rise L) (h : hasT t.id L = true) : (witT t L).length = L.length := by
  obtain ⟨a, ha, e⟩ := has_iff.1 h
  unfold witT
  rw [ins_length, ← e]
  exact out_length1 hr ha
theorem find_mem_th {L : List Th} (h : Rise L) {t : Th} (hm : t ∈ L) : findT t.id L = some t := by
  unfold findT
  cases hf : L.find? (fun a => a.id == t.id) with
  | none =>
    have := List.find?_eq_none.1 hf t hm
    simp at this
  | some a =>
    have h1 := List.find?_some hf
    have h2 := List.mem_of_find?_eq_some hf
    rw [rise_uniq h h2 hm (by simpa using h1)]
theorem find_no_th {id : Int} {L : List Th} (h : hasT id L = false) : findT id L = none := by
  unfold findT
  rw [List.find?_eq_none]
  intro a ha
  simpa using has_no h a ha
end
section
open Go.RowKit
set_option linter.unusedVariables false
/-- the block that a row's pointer names -/
def rowB (p : Option Addr) : List Nat := match p with | some a => [a.block] | none => []
theorem rowB_own {w : World} {base : Nat} {e : TypeId} {z : Nat} {p : Option Addr} {n cap : Nat} {xs : List Value} (h : w.ownsRow base e z (.slice p n cap) n xs) : ∀ k, k ∈ rowB p → base ≤ k ∧ k < w.heap.size := by
  intro k hk
  cases p with
  | none => cases hk
  | some a =>
    have : k = a.block := by simpa [rowB] using hk
    subst this
    exact h.lt a.block rfl
def atI (id : Int) (L : List Th) : Int := match L.findIdx? (fun t => t.id == id) with | some i => (i : Int) | none => -1
theorem atI_hit {id : Int} {L : List Th} {k : Nat} {s : Th} (hk : L[k]? = some s) (hs : s.id = id) (hl : ∀ j a, j < k → L[j]? = some a → ¬ a.id = id) : atI id L = k := by
  have hkl : k < L.length := (List.getElem?_eq_some_iff.1 hk).1
  have e : L[k] = s := (List.getElem?_eq_some_iff.1 hk).2
  have : L.findIdx? (fun s => s.id == id) = some k := by
    rw [List.findIdx?_eq_some_iff_getElem]
    refine ⟨hkl, by rw [e]; simpa using hs, fun j hj => ?_⟩
    have := hl j L[j] hj (List.getElem?_eq_getElem (by omega))
    simpa using this
  unfold atI
  rw [this]
theorem atI_miss {id : Int} {L : List Th} (hl : ∀ j a, j < L.length → L[j]? = some a → ¬ a.id = id) : atI id L = -1 := by
  have : L.findIdx? (fun s => s.id == id) = none := by
    rw [List.findIdx?_eq_none_iff]
    intro a ha
    obtain ⟨j, hj, rfl⟩ := List.getElem_of_mem ha
    simpa using hl j L[j] hj (List.getElem?_eq_getElem hj)
  unfold atI
  rw [this]
/-- where it is, if it is there -/
theorem atI_has {id : Int} {L : List Th} (h : hasT id L = true) : ∃ (k : Nat) (t : Th), atI id L = k ∧ L[k]? = some t ∧ findT id L = some t := by
  unfold atI
  cases hf : L.findIdx? (fun s => s.id == id) with
  | none =>
    rw [List.findIdx?_eq_none_iff] at hf
    obtain ⟨a, ha, e⟩ := has_iff.1 h
    have := hf a ha
    simp [e] at this
  | some i =>
    obtain ⟨hi, h1, h2⟩ := List.findIdx?_eq_some_iff_getElem.1 hf
    refine ⟨i, L[i], rfl, List.getElem?_eq_getElem hi, ?_⟩
    unfold findT
    rw [List.find?_eq_some_iff_getElem]
    exact ⟨h1, i, hi, rfl, fun j hj => by simpa using h2 j hj⟩
theorem atI_not {id : Int} {L : List Th} (h : hasT id L = false) : atI id L = -1 :=
  atI_miss fun j a _ hj => has_no h a (List.mem_of_getElem? hj)
theorem out_take {id : Int} {L : List Th} {k : Nat} {t : Th} (h : L[k]? = some t) : outT id (L.take (k + 1)) = if t.id = id then outT id (L.take k) else outT id (L.take k) ++ [t] := by
  unfold outT
  rw [List.take_add_one, h, Option.toList_some, List.filter_append]
  by_cases e : t.id = id
  · rw [if_pos e]; simp [e]
  · rw [if_neg e]; simp [e]
end
section
open Go.RowKit
set_option linter.unusedVariables false
/-- one round of With: what is out so far, whether the thing is -/
def wS (t : Th) (p : List Th × Bool) (a : Th) : List Th × Bool :=
  (if a.id = t.id then (if (!p.2 && decide (t.id ≤ a.id)) = true then p.1 ++ [t] else p.1) else (if (!p.2 && decide (t.id ≤ a.id)) = true then p.1 ++ [t] else p.1) ++ [a], p.2 || decide (t.id ≤ a.id))
def wF (t : Th) (L : List Th) : List Th × Bool := L.foldl (wS t) ([], false)
theorem wF_take {t : Th} {L : List Th} {k : Nat} {a : Th} (h : L[k]? = some a) : wF t (L.take (k + 1)) = wS t (wF t (L.take k)) a := by
  unfold wF
  rw [List.take_add_one, h, Option.toList_some, List.foldl_append]
  rfl
theorem fold_done (t : Th) : ∀ (L : List Th) (o : List Th), L.foldl (wS t) (o, true) = (o ++ outT t.id L, true)
  | [], o => by simp [outT]
  | a :: r, o => by
    have e : wS t (o, true) a = (if a.id = t.id then o else o ++ [a], true) := by simp [wS]
    rw [List.foldl_cons, e]
    by_cases h : a.id = t.id
    · rw [if_pos h, fold_done t r]
      simp [outT, h]
    · rw [if_neg h, fold_done t r]
      simp [outT, h]
theorem ins_front {t : Th} {M : List Th} (h : ∀ b ∈ M, t.id < b.id) : insT t M = t :: M := by
  cases M with
  | nil => rfl
  | cons a r => unfold insT; rw [if_pos (h a List.mem_cons_self)]
theorem fold_with (t : Th) : ∀ (L : List Th) (o : List Th), Rise L → (if (L.foldl (wS t) (o, false)).2 = true then (L.foldl (wS t) (o, false)).1 else (L.foldl (wS t) (o, false)).1 ++ [t]) = o ++ witT t L
  | [], o, _ => by simp [witT, outT, insT]
  | a :: r, o, h => by
    obtain ⟨h1, h2⟩ := List.pairwise_cons.1 h
    rw [List.foldl_cons]
    by_cases hle : t.id ≤ a.id
    · have hb : ∀ b ∈ outT t.id r, t.id < b.id := fun b hb => by have := h1 b (out_mem.1 hb).1; omega
      by_cases he : a.id = t.id
      · have e : wS t (o, false) a = (o ++ [t], true) := by simp [wS, he]
        rw [e, fold_done, if_pos rfl]
        have : outT t.id (a :: r) = outT t.id r := by simp [outT, he]
        unfold witT
        rw [this, ins_front hb]
        simp
      · have e : wS t (o, false) a = (o ++ [t] ++ [a], true) := by simp [wS, he, hle]
        rw [e, fold_done, if_pos rfl]
        have : outT t.id (a :: r) = a :: outT t.id r := by simp [outT, he]
        unfold witT
        rw [this]
        unfold insT
        rw [if_pos (by omega)]
        simp
    · have he : ¬ a.id = t.id := by omega
      have e : wS t (o, false) a = (o ++ [a], false) := by simp [wS, he, hle]
      rw [e, fold_with t r _ h2]
      have : outT t.id (a :: r) = a :: outT t.id r := by simp [outT, he]
      unfold witT
      rw [this]
      rw [show insT t (a :: outT t.id r) = a :: insT t (outT t.id r) by rw [insT, if_neg (by omega)]]
      simp
theorem with_end {t : Th} {L : List Th} (h : Rise L) {o : List Th} {d : Bool} (hF : wF t L = (o, d)) : (if d = true then o else o ++ [t]) = witT t L := by
  have := fold_with t L [] h
  rw [show L.foldl (wS t) ([], false) = (o, d) from hF] at this
  simpa using this
end
end Go.Proofs.Ytjdlcocncacmlaa
