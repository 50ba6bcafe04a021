/- Plain facts: each point of a rectangle is in the other one or in just one of what is left; areas add up: of no program. -/
import Derived.Test.YtkbfcmlchmgmnaaGeomS
namespace Go.Proofs.Ytkbfcmlchmgmnaa
open Go.RowKit
set_option linter.unusedVariables false
def cntL (l : List Rc) (x y : Int) : Nat := l.countP (fun r => inB r x y)
theorem cnt_take {L : List Rc} {k : Nat} {r : Rc} (h : L[k]? = some r) (x y : Int) : cntL (L.take (k + 1)) x y = cntL (L.take k) x y + (if inB r x y then 1 else 0) := by
  unfold cntL
  rw [List.take_add_one, h, List.countP_append]
  simp [List.countP_cons]
theorem cnt_le (L : List Rc) (k : Nat) (x y : Int) : cntL (L.take k) x y ≤ k :=
  Nat.le_trans List.countP_le_length (by simp; omega)
theorem cnt_filter (l : List Rc) (x y : Int) : cntL (l.filter (fun r => !emptyB r)) x y = cntL l x y := by
  induction l with
  | nil => rfl
  | cons r l ih =>
    unfold cntL at ih ⊢
    cases h : emptyB r
    · simp [h, List.countP_cons, ih]
    · simp [h, ih, in_empty h]
theorem cnt_parts (a m : Rc) (x y : Int) (h0 : a.x0 ≤ m.x0) (h1 : m.x0 < m.x1) (h2 : m.x1 ≤ a.x1) (h3 : a.y0 ≤ m.y0) (h4 : m.y0 < m.y1) (h5 : m.y1 ≤ a.y1) :
    cntL (partsL a m) x y = if inB a x y && !inB m x y then 1 else 0 := by
  simp only [cntL, partsL, List.countP_cons, List.countP_nil, inB, Bool.and_eq_true, Bool.not_eq_true', Bool.and_eq_false_iff, decide_eq_true_eq, decide_eq_false_iff_not]
  repeat' split
  all_goals omega
theorem minus_count (a b : Rc) (x y : Int) : cntL (minusL a b) x y = if inB a x y && !inB b x y then 1 else 0 := by
  have hi := in_meet a b x y
  rcases minus_cases a b with ⟨h1, h⟩ | ⟨h1, h2, h⟩ | ⟨h1, h2, h⟩ <;> rw [h]
  · simp [cntL, in_empty h1]
  · rw [in_empty h2] at hi
    cases ha : inB a x y <;> cases hb : inB b x y <;> simp [ha, hb] at hi ⊢ <;> simp [cntL, ha]
  · rw [cnt_filter]
    rcases meet_cases a b with ⟨k, p⟩ | ⟨k, p⟩
    · rw [k] at hi ⊢
      rw [cnt_parts _ _ _ _ (by simp; omega) (by simp; omega) (by simp; omega) (by simp; omega) (by simp; omega) (by simp; omega), hi]
      cases ha : inB a x y <;> cases hb : inB b x y <;> simp
    · rw [k] at h2
      simp [emptyB] at h2
theorem minus_full {a b r : Rc} {k : Nat} (h : (minusL a b)[k]? = some r) : emptyB r = false := by
  have hm := List.mem_of_getElem? h
  rcases minus_cases a b with ⟨h1, e⟩ | ⟨h1, h2, e⟩ | ⟨h1, h2, e⟩ <;> rw [e] at hm
  · simp at hm
  · simp at hm; rw [hm]; exact h1
  · simpa using (List.mem_filter.1 hm).2
/-- how many of the numbers from p to q are on the map -/
def cl (p q : Int) : Int := max 0 (min q 64 - max p 0)
theorem area_cl (r : Rc) : areaI r = cl r.x0 r.x1 * cl r.y0 r.y1 := by
  unfold areaI
  simp only
  rcases meet_cases r ⟨0, 0, 64, 64⟩ with ⟨k, p⟩ | ⟨k, p⟩ <;> rw [k]
  · have e1 : cl r.x0 r.x1 = min r.x1 64 - max r.x0 0 := by unfold cl; simp at p; omega
    have e2 : cl r.y0 r.y1 = min r.y1 64 - max r.y0 0 := by unfold cl; simp at p; omega
    rw [e1, e2]
  · simp only at p
    rcases p with p | p
    · have e : cl r.x0 r.x1 = 0 := by unfold cl; omega
      rw [e]; simp
    · have e : cl r.y0 r.y1 = 0 := by unfold cl; omega
      rw [e]; simp
theorem cl_bounds (p q : Int) : 0 ≤ cl p q ∧ cl p q ≤ 64 := by unfold cl; omega
theorem area_bounds (r : Rc) : 0 ≤ areaI r ∧ areaI r ≤ 4096 := by
  rw [area_cl]
  have h1 := cl_bounds r.x0 r.x1
  have h2 := cl_bounds r.y0 r.y1
  exact ⟨Int.mul_nonneg h1.1 h2.1, Int.mul_le_mul h1.2 h2.2 h2.1 (by omega)⟩
theorem area_empty {r : Rc} (h : emptyB r = true) : areaI r = 0 := by
  rw [area_cl]
  simp only [emptyB, Bool.or_eq_true, decide_eq_true_eq] at h
  rcases h with h | h
  · have e : cl r.x0 r.x1 = 0 := by unfold cl; omega
    rw [e]; simp
  · have e : cl r.y0 r.y1 = 0 := by unfold cl; omega
    rw [e]; simp
def sumA (l : List Rc) : Int := (l.map areaI).sum
theorem sumA_filter (l : List Rc) : sumA (l.filter (fun r => !emptyB r)) = sumA l := by
  induction l with
  | nil => rfl
  | cons r l ih =>
    unfold sumA at ih ⊢
    cases h : emptyB r
    · simp [h, ih]
    · simp [h, ih, area_empty h]
theorem sumA_take {L : List Rc} {k : Nat} {r : Rc} (h : L[k]? = some r) : sumA (L.take (k + 1)) = sumA (L.take k) + areaI r := by
  unfold sumA
  rw [List.take_add_one, h, List.map_append, List.sum_append]
  simp
theorem sumA_bounds (L : List Rc) : 0 ≤ sumA L ∧ sumA L ≤ 4096 * L.length := by
  induction L with
  | nil => simp [sumA]
  | cons r l ih =>
    have := area_bounds r
    simp only [sumA, List.map_cons, List.sum_cons, List.length_cons] at ih ⊢
    omega
theorem cl_split {p q r s : Int} (h1 : p ≤ q) (h2 : q ≤ r) (h3 : r ≤ s) : cl p q + cl q r + cl r s = cl p s := by unfold cl; omega
theorem area_minus (a b : Rc) : areaI (meetR a b) + sumA (minusL a b) = areaI a := by
  rcases minus_cases a b with ⟨h1, h⟩ | ⟨h1, h2, h⟩ | ⟨h1, h2, h⟩ <;> rw [h]
  · have e : emptyB (meetR a b) = true := by
      rw [meet_raw]
      unfold nz
      split
      · rfl
      · rename_i hn
        exact absurd (raw_empty h1 b) hn
    simp [sumA, area_empty h1, area_empty e]
  · simp [sumA, area_empty h2]
  · rw [sumA_filter]
    rcases meet_cases a b with ⟨k, p⟩ | ⟨k, p⟩
    · rw [k]
      obtain ⟨m0, e0⟩ : ∃ m, max a.x0 b.x0 = m := ⟨_, rfl⟩
      obtain ⟨m1, e1⟩ : ∃ m, max a.y0 b.y0 = m := ⟨_, rfl⟩
      obtain ⟨m2, e2⟩ : ∃ m, min a.x1 b.x1 = m := ⟨_, rfl⟩
      obtain ⟨m3, e3⟩ : ∃ m, min a.y1 b.y1 = m := ⟨_, rfl⟩
      rw [e0, e1, e2, e3] at p ⊢
      have sx := cl_split (show a.x0 ≤ m0 by omega) (show m0 ≤ m2 by omega) (show m2 ≤ a.x1 by omega)
      have sy := cl_split (show a.y0 ≤ m1 by omega) (show m1 ≤ m3 by omega) (show m3 ≤ a.y1 by omega)
      simp only [sumA, partsL, List.map_cons, List.map_nil, List.sum_cons, List.sum_nil, area_cl]
      rw [← sy, Int.mul_add, Int.mul_add]
      have e : cl a.x0 a.x1 * cl m1 m3 = cl a.x0 m0 * cl m1 m3 + cl m0 m2 * cl m1 m3 + cl m2 a.x1 * cl m1 m3 := by rw [← sx, Int.add_mul, Int.add_mul]
      omega
    · rw [k] at h2
      simp [emptyB] at h2
theorem emptyB_iff (r : Rc) : emptyB r = true ↔ (r.x1 ≤ r.x0 ∨ r.y1 ≤ r.y0) := by simp [emptyB]
theorem empty_meet (p q : Rc) : emptyB (meetR p q) = emptyB (rawI p q) := by
  rw [meet_raw]
  unfold nz
  cases h : emptyB (rawI p q)
  · simp [h]
  · simp [emptyB]
theorem meet_inside {r a : Rc} (h : emptyB r = false) (h0 : a.x0 ≤ r.x0) (h1 : a.y0 ≤ r.y0) (h2 : r.x1 ≤ a.x1) (h3 : r.y1 ≤ a.y1) : sameB (meetR r a) r = true := by
  apply sameB_of
  rw [meet_raw]
  have e : rawI r a = r := by
    unfold rawI
    rw [Int.max_eq_left h0, Int.max_eq_left h1, Int.min_eq_left h2, Int.min_eq_left h3]
  rw [e]
  simp [nz, h]
theorem minus_apart (a b : Rc) : (minusL a b).Pairwise (fun p q => emptyB (meetR q p) = true) := by
  rcases minus_cases a b with ⟨h1, h⟩ | ⟨h1, h2, h⟩ | ⟨h1, h2, h⟩ <;> rw [h]
  · exact List.Pairwise.nil
  · exact List.pairwise_singleton _ _
  · apply List.Pairwise.filter
    simp only [partsL, empty_meet, List.pairwise_cons, List.mem_cons, List.not_mem_nil, or_false, forall_eq_or_imp, forall_eq]
    rcases meet_cases a b with ⟨k, p⟩ | ⟨k, p⟩
    · rw [k]
      simp only [emptyB_iff, rawI]
      obtain ⟨m0, e0⟩ : ∃ m, max a.x0 b.x0 = m := ⟨_, rfl⟩
      obtain ⟨m1, e1⟩ : ∃ m, max a.y0 b.y0 = m := ⟨_, rfl⟩
      obtain ⟨m2, e2⟩ : ∃ m, min a.x1 b.x1 = m := ⟨_, rfl⟩
      obtain ⟨m3, e3⟩ : ∃ m, min a.y1 b.y1 = m := ⟨_, rfl⟩
      rw [e0, e1, e2, e3] at p ⊢
      refine ⟨⟨?_, ?_, ?_⟩, ⟨?_, ?_⟩, ?_, ?_⟩ <;> first | omega | simp
    · rw [k] at h2
      simp [emptyB] at h2
theorem minus_part {a b r : Rc} (hm : r ∈ minusL a b) : emptyB (meetR r b) = true ∧ sameB (meetR r a) r = true := by
  rcases minus_cases a b with ⟨h1, e⟩ | ⟨h1, h2, e⟩ | ⟨h1, h2, e⟩ <;> rw [e] at hm
  · simp at hm
  · simp at hm
    subst hm
    exact ⟨h2, meet_self _⟩
  · have hf : emptyB r = false := by simpa using (List.mem_filter.1 hm).2
    have hm := (List.mem_filter.1 hm).1
    rcases meet_cases a b with ⟨k, p⟩ | ⟨k, p⟩
    · rw [k] at hm
      rw [empty_meet]
      simp only [partsL, List.mem_cons, List.not_mem_nil, or_false] at hm
      rcases hm with rfl | rfl | rfl | rfl <;> refine ⟨?_, meet_inside hf (by simp; try omega) (by simp; try omega) (by simp; try omega) (by simp; try omega)⟩ <;> simp only [emptyB_iff, rawI] <;> omega
    · rw [k] at h2
      simp [emptyB] at h2
end Go.Proofs.Ytkbfcmlchmgmnaa
