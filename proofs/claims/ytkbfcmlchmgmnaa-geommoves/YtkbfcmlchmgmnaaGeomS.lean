/- Plain facts on what two rectangles have and on what is left of one: of no program. -/
import Derived.Test.YtkbfcmlchmgmnaaGeomQ
namespace Go.Proofs.Ytkbfcmlchmgmnaa
open Go.RowKit
set_option linter.unusedVariables false
def z4 : Rc := ⟨0, 0, 0, 0⟩
/-- what both have, by cases -/
theorem meet_cases (a b : Rc) : (meetR a b = ⟨max a.x0 b.x0, max a.y0 b.y0, min a.x1 b.x1, min a.y1 b.y1⟩ ∧ max a.x0 b.x0 < min a.x1 b.x1 ∧ max a.y0 b.y0 < min a.y1 b.y1) ∨
    (meetR a b = ⟨0, 0, 0, 0⟩ ∧ (min a.x1 b.x1 ≤ max a.x0 b.x0 ∨ min a.y1 b.y1 ≤ max a.y0 b.y0)) := by
  unfold meetR
  simp only
  split
  · rename_i h
    right
    simp [emptyB] at h
    exact ⟨rfl, by omega⟩
  · rename_i h
    left
    simp [emptyB] at h
    exact ⟨rfl, by omega, by omega⟩
theorem meet_comm (a b : Rc) : meetR a b = meetR b a := by
  unfold meetR
  rw [Int.max_comm a.x0, Int.max_comm a.y0, Int.min_comm a.x1, Int.min_comm a.y1]
theorem eqB_of {a b : Rc} (h : a = b) : eqB a b = true := by subst h; simp [eqB]
theorem sameB_of {a b : Rc} (h : a = b) : sameB a b = true := by simp [sameB, eqB_of h]
def rawI (a b : Rc) : Rc := ⟨max a.x0 b.x0, max a.y0 b.y0, min a.x1 b.x1, min a.y1 b.y1⟩
def nz (r : Rc) : Rc := if emptyB r then ⟨0, 0, 0, 0⟩ else r
theorem meet_raw (a b : Rc) : meetR a b = nz (rawI a b) := rfl
theorem raw_empty {r : Rc} (h : emptyB r = true) (c : Rc) : emptyB (rawI r c) = true := by
  simp only [emptyB, Bool.or_eq_true, decide_eq_true_eq] at h ⊢
  rcases h with h | h
  · left
    show min r.x1 c.x1 ≤ max r.x0 c.x0
    omega
  · right
    show min r.y1 c.y1 ≤ max r.y0 c.y0
    omega
theorem raw_comm (a b : Rc) : rawI a b = rawI b a := by
  unfold rawI
  rw [Int.max_comm a.x0, Int.max_comm a.y0, Int.min_comm a.x1, Int.min_comm a.y1]
theorem raw_assoc (a b c : Rc) : rawI (rawI a b) c = rawI a (rawI b c) := by
  simp only [rawI, Int.max_assoc, Int.min_assoc]
theorem nz_left (r c : Rc) : nz (rawI (nz r) c) = nz (rawI r c) := by
  cases h : emptyB r
  · rw [show nz r = r by simp [nz, h]]
  · have h0 : nz r = ⟨0, 0, 0, 0⟩ := by simp [nz, h]
    rw [h0]
    have h1 : emptyB (rawI ⟨0, 0, 0, 0⟩ c) = true := raw_empty (by rfl) c
    simp [nz, h1, raw_empty h c]
theorem meet_assoc (a b c : Rc) : meetR (meetR a b) c = meetR a (meetR b c) := by
  rw [meet_raw a b, meet_raw b c, meet_raw, meet_raw, nz_left, raw_assoc, raw_comm a (nz _), nz_left, raw_comm a]
theorem meet_self (a : Rc) : sameB (meetR a a) a = true := by
  rcases meet_cases a a with ⟨h, p⟩ | ⟨h, p⟩ <;> rw [h]
  · simp [sameB, eqB]
  · simp [sameB, emptyB]
    right
    omega
theorem in_meet (a b : Rc) (x y : Int) : inB (meetR a b) x y = (inB a x y && inB b x y) := by
  rcases meet_cases a b with ⟨h, p⟩ | ⟨h, p⟩ <;> rw [h] <;> rw [Bool.eq_iff_iff] <;> simp [inB] <;> omega
theorem in_empty {r : Rc} (h : emptyB r = true) (x y : Int) : inB r x y = false := by
  simp [emptyB] at h
  cases hi : inB r x y
  · rfl
  · simp [inB] at hi
    omega
theorem minus_cases (a b : Rc) : (emptyB a = true ∧ minusL a b = []) ∨ (emptyB a = false ∧ emptyB (meetR a b) = true ∧ minusL a b = [a]) ∨
    (emptyB a = false ∧ emptyB (meetR a b) = false ∧ minusL a b = (partsL a (meetR a b)).filter (fun r => !emptyB r)) := by
  cases h1 : emptyB a
  · cases h2 : emptyB (meetR a b)
    · exact .inr (.inr ⟨rfl, rfl, by simp [minusL, h1, h2]⟩)
    · exact .inr (.inl ⟨rfl, rfl, by simp [minusL, h1, h2]⟩)
  · exact .inl ⟨rfl, by simp [minusL, h1]⟩
theorem minus_meet (a b : Rc) : minusL (meetR a b) a = [] := by
  rcases minus_cases (meetR a b) a with ⟨_, h⟩ | ⟨h1, h2, _⟩ | ⟨h1, h2, h⟩
  · exact h
  · exfalso
    rcases meet_cases a b with ⟨k, p⟩ | ⟨k, p⟩ <;> rw [k] at h1 h2
    · rcases meet_cases ⟨max a.x0 b.x0, max a.y0 b.y0, min a.x1 b.x1, min a.y1 b.y1⟩ a with ⟨q, r⟩ | ⟨q, r⟩ <;> rw [q] at h2 <;> simp [emptyB] at * <;> omega
    · simp [emptyB] at h1
  · rw [h]
    rcases meet_cases a b with ⟨k, p⟩ | ⟨k, p⟩ <;> rw [k] at h1 h2 ⊢
    · rcases meet_cases ⟨max a.x0 b.x0, max a.y0 b.y0, min a.x1 b.x1, min a.y1 b.y1⟩ a with ⟨q, r⟩ | ⟨q, r⟩ <;> rw [q] at h2 ⊢
      · simp [partsL, emptyB] at *
      · simp [emptyB] at h2
    · simp [emptyB] at h1
end Go.Proofs.Ytkbfcmlchmgmnaa
