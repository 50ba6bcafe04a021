/- Plain facts on the grid: neighbours, steps, whole, counts. -/
import Derived.Test.YtildhbkcpehobaaDoorCellsP
namespace Go.Proofs.YtildhbkcpehobaaDoor
open Go.RowKit
theorem inB_iff (r : Rc) (x y : Int) : inB r x y = true ↔ (r.x0 ≤ x ∧ x < r.x1 ∧ r.y0 ≤ y ∧ y < r.y1) := by simp [inB, and_assoc]
theorem emptyB_not (r : Rc) : emptyB r = false ↔ (r.x0 < r.x1 ∧ r.y0 < r.y1) := by simp [emptyB]
theorem isC_lt (n : Nat) : isC (n : Int) = decide (n < 16) := by
  by_cases h : n < 16
  · rw [isC_of h]; simp [h]
  · simp [isC]; omega
theorem near_symm (a b : Nat) : nearB a b = nearB b a := by simp only [nearB, Bool.and_comm]
theorem bes_symm (a b : Int) : besB a b = besB b a := by
  simp only [besB, besN, near_symm (cx a.toNat), near_symm (cy a.toNat), Bool.and_comm (isC a)]
  rw [show (a == b) = (b == a) from Bool.beq_comm]
def nbN (x k : Nat) : Nat := ((List.range k).filter fun c : Nat => besB (x : Int) (c : Int)).length
theorem nb_all : ∀ x, x < 16 → nbN x 16 = 3 ∨ nbN x 16 = 5 ∨ nbN x 16 = 8 := by decide +kernel
theorem nb_add {x k : Nat} (h : besB (x : Int) (k : Int) = true) : nbN x (k + 1) = nbN x k + 1 := by simp [nbN, List.range_succ, h]
theorem nb_skip {x k : Nat} (h : besB (x : Int) (k : Int) = false) : nbN x (k + 1) = nbN x k := by simp [nbN, List.range_succ, h]
theorem nb_le (x k : Nat) : nbN x k ≤ k := by
  have := List.length_filter_le (fun c : Nat => besB (x : Int) (c : Int)) (List.range k)
  simpa [nbN] using this
theorem step_all : ∀ a, a < 4 → ∀ b, b < 4 → ∀ c, c < 4 → ∀ d, d < 4 → (!nearB a c || !nearB b d || wvN a b == wvN c d || besB (wvN a b : Nat) (wvN c d : Nat)) = true := by decide +kernel
theorem step_near {x y z u : Int} (h : onB x y = true) (h' : onB z u = true) (h1 : x ≤ z + 1) (h2 : z ≤ x + 1) (h3 : y ≤ u + 1) (h4 : u ≤ y + 1) : ofN x y = ofN z u ∨ besB (ofN x y : Nat) (ofN z u : Nat) = true := by
  have k := (onB_iff _ _).1 h
  have k' := (onB_iff _ _).1 h'
  simp only [ofN, h, h', if_true]
  have e1 : nearB (x / 16).toNat (z / 16).toNat = true := by simp [nearB]; omega
  have e2 : nearB (y / 16).toNat (u / 16).toNat = true := by simp [nearB]; omega
  have := step_all (x / 16).toNat (by omega) (y / 16).toNat (by omega) (z / 16).toNat (by omega) (u / 16).toNat (by omega)
  rw [e1, e2] at this
  simpa using this
theorem ofN_lt (x y : Int) : ofN x y < 16 := by
  unfold ofN
  split
  · rename_i h
    have k := (onB_iff _ _).1 h
    exact wvN_lt _ (by omega) _ (by omega)
  · decide
theorem in_cell {x y : Int} {c : Nat} (hc : c < 16) : inB (cellN c) x y = (onB x y && decide (c = ofN x y)) := by
  have l1 := cx_lt c
  have l2 := cy_lt c
  rw [Bool.eq_iff_iff]
  rw [inB_iff, Bool.and_eq_true, decide_eq_true_eq]
  simp only [cellN]
  constructor
  · rintro ⟨h1, h2, h3, h4⟩
    have ho : onB x y = true := (onB_iff _ _).2 (by omega)
    refine ⟨ho, ?_⟩
    simp only [ofN, ho, if_true]
    rw [show (x / 16).toNat = cx c by omega, show (y / 16).toNat = cy c by omega, wvN_cx c hc]
  · rintro ⟨ho, rfl⟩
    have k := (onB_iff _ _).1 ho
    have e := cx_wvN (x / 16).toNat (by omega) (y / 16).toNat (by omega)
    simp only [ofN, ho, if_true]
    rw [e.1, e.2]
    omega
def ctN (x y : Int) (k : Nat) : Nat := if onB x y && decide (ofN x y < k) then 1 else 0
theorem ct_in {x y : Int} {k : Nat} (hk : k < 16) (h : inB (cellN k) x y = true) : ctN x y (k + 1) = ctN x y k + 1 ∧ k = ofN x y := by
  rw [in_cell hk] at h
  simp only [Bool.and_eq_true, decide_eq_true_eq] at h
  simp [ctN, h.1, ← h.2]
theorem ct_out {x y : Int} {k : Nat} (hk : k < 16) (h : inB (cellN k) x y = false) : ctN x y (k + 1) = ctN x y k := by
  rw [in_cell hk] at h
  cases ho : onB x y
  · simp [ctN, ho]
  · rw [ho] at h
    simp at h
    simp only [ctN, ho, Bool.true_and]
    rw [show decide (ofN x y < k + 1) = decide (ofN x y < k) from decide_eq_decide.2 (by omega)]
theorem ct_le (x y : Int) (k : Nat) : ctN x y k ≤ 1 := by unfold ctN; split <;> omega
theorem ct_all (x y : Int) : ctN x y 16 = if onB x y then 1 else 0 := by simp [ctN, ofN_lt]
theorem hasB_iff (r : Rc) (c : Nat) : hasB r c = true ↔ (max ((cx c : Nat) * 16 : Int) r.x0 < min (((cx c : Nat) + 1) * 16 : Int) r.x1 ∧ max ((cy c : Nat) * 16 : Int) r.y0 < min (((cy c : Nat) + 1) * 16 : Int) r.y1) := by
  have e : hasB r c = !emptyB ⟨max (cellN c).x0 r.x0, max (cellN c).y0 r.y0, min (cellN c).x1 r.x1, min (cellN c).y1 r.y1⟩ := by
    cases h : emptyB ⟨max (cellN c).x0 r.x0, max (cellN c).y0 r.y0, min (cellN c).x1 r.x1, min (cellN c).y1 r.y1⟩
    · simp only [hasB, meetR, h]; simp [h]
    · simp only [hasB, meetR, h]; rfl
  rw [e]
  rw [Bool.not_eq_true', emptyB_not]
  simp only [cellN]
theorem has_in {r : Rc} {x y : Int} (ho : onB x y = true) (h : inB r x y = true) : ofN x y ∈ coverL r 16 := by
  have hc := ofN_lt x y
  have hi : inB (cellN (ofN x y)) x y = true := by rw [in_cell hc, ho]; simp
  simp only [coverL, List.mem_filter, List.mem_range, hasB_iff]
  rw [inB_iff] at h hi
  simp only [cellN] at h hi
  refine ⟨hc, ?_, ?_⟩ <;> omega
def hasL (L : List Nat) (c k : Nat) : Bool := (L.take k).contains c
theorem hasL_step {L : List Nat} {c k d : Nat} (h : L[k]? = some d) : hasL L c (k + 1) = (hasL L c k || (d == c)) := by
  unfold hasL
  rw [List.take_add_one, h]
  simp
  by_cases h : d = c
  · simp [h]
  · have h' : ¬ c = d := fun e => h e.symm
    simp [h, h']
theorem hasL_all {L : List Nat} {c : Nat} : hasL L c L.length = decide (c ∈ L) := by
  simp [hasL]
def boxL (a b c d : Nat) : List Nat := (List.range 16).filter fun k => decide (a ≤ cx k ∧ cx k ≤ b ∧ c ≤ cy k ∧ cy k ≤ d)
theorem box_all : ∀ a, a < 4 → ∀ b, b < 4 → ∀ c, c < 4 → ∀ d, d < 4 → (decide (b < a) || decide (d < c) || (boxL a b c d).length == (b - a + 1) * (d - c + 1)) = true := by decide +kernel
theorem cover_box {x0 y0 x1 y1 : Int} (h0 : 0 ≤ x0) (h1 : x0 < x1) (h2 : x1 ≤ 64) (g0 : 0 ≤ y0) (g1 : y0 < y1) (g2 : y1 ≤ 64) : coverL ⟨x0, y0, x1, y1⟩ 16 = boxL (x0 / 16).toNat ((x1 - 1) / 16).toNat (y0 / 16).toNat ((y1 - 1) / 16).toNat := by
  unfold coverL boxL
  refine List.filter_congr fun c _ => ?_
  rw [Bool.eq_iff_iff, hasB_iff]
  simp only [decide_eq_true_eq]
  omega
theorem cover_count {x0 y0 x1 y1 : Int} (h0 : 0 ≤ x0) (h1 : x0 < x1) (h2 : x1 ≤ 64) (g0 : 0 ≤ y0) (g1 : y0 < y1) (g2 : y1 ≤ 64) : ((coverL ⟨x0, y0, x1, y1⟩ 16).length : Int) = ((x1 - 1) / 16 - x0 / 16 + 1) * ((y1 - 1) / 16 - y0 / 16 + 1) := by
  have h := box_all (x0 / 16).toNat (by omega) ((x1 - 1) / 16).toNat (by omega) (y0 / 16).toNat (by omega) ((y1 - 1) / 16).toNat (by omega)
  rw [show decide (((x1 - 1) / 16).toNat < (x0 / 16).toNat) = false from decide_eq_false (by omega), show decide (((y1 - 1) / 16).toNat < (y0 / 16).toNat) = false from decide_eq_false (by omega)] at h
  rw [cover_box h0 h1 h2 g0 g1 g2, show (boxL (x0 / 16).toNat ((x1 - 1) / 16).toNat (y0 / 16).toNat ((y1 - 1) / 16).toNat).length = _ by simpa using h, Int.natCast_mul]
  congr 1 <;> omega
theorem cover_none (x : Int) : coverL ⟨x, 0, x, 64⟩ 16 = [] := by
  unfold coverL
  refine List.filter_eq_nil_iff.2 fun c _ h => ?_
  rw [hasB_iff] at h
  simp only at h
  omega
theorem cover_rises (r : Rc) (n : Nat) {i : Nat} {c d : Nat} (h : (coverL r n)[i]? = some c) (h' : (coverL r n)[i + 1]? = some d) : c < d := by
  have hp : (coverL r n).Pairwise (· < ·) := List.Pairwise.filter _ List.pairwise_lt_range
  have := List.pairwise_iff_getElem.1 hp
  obtain ⟨a, ha⟩ := List.getElem?_eq_some_iff.1 h
  obtain ⟨b, hb⟩ := List.getElem?_eq_some_iff.1 h'
  rw [← ha, ← hb]
  exact this i (i + 1) a b (by omega)
end Go.Proofs.YtildhbkcpehobaaDoor
