/- Sums over owners, plain: of their epochs; of how many cells each server has. -/
import Derived.Test.YtnlhlmihhgihbaaOwQ
namespace Go.Proofs.Ytnlhlmihhgihbaa
open Go.RowKit
set_option linter.unusedVariables false
/-- the epochs' sum, of the first k -/
def sumT (L : List Ow) (k : Nat) : Int := ((L.take k).map Ow.e).sum
theorem sumT_0 (L : List Ow) : sumT L 0 = 0 := by simp [sumT]
theorem sumT_succ {L : List Ow} {k : Nat} {o : Ow} (h : L[k]? = some o) : sumT L (k + 1) = sumT L k + o.e := by
  unfold sumT
  rw [List.take_add_one, h, List.map_append, List.sum_append]
  simp
theorem sum_set {L : List Ow} {k : Nat} {o p : Ow} (h : L[k]? = some o) : ((L.set k p).map Ow.e).sum = (L.map Ow.e).sum - o.e + p.e := by
  induction L generalizing k with
  | nil => simp at h
  | cons b L ih =>
    cases k with
    | zero =>
      simp only [List.getElem?_cons_zero, Option.some.injEq] at h
      subst h
      simp only [List.set_cons_zero, List.map_cons, List.sum_cons]
      omega
    | succ k =>
      have := ih (k := k) (by simpa using h)
      simp only [List.set_cons_succ, List.map_cons, List.sum_cons]
      omega
theorem sumT_16 {L : List Ow} (h : L.length = 16) : sumT L 16 = (L.map Ow.e).sum := by
  unfold sumT
  rw [List.take_of_length_le (by omega)]
theorem sumT_hand {L : List Ow} (hl : L.length = 16) {k : Nat} {o : Ow} (h : L[k]? = some o) (u : Int) : sumT (L.set k ⟨u, o.e + 1⟩) 16 = sumT L 16 + 1 := by
  rw [sumT_16 (by rw [List.length_set]; exact hl), sumT_16 hl, sum_set h]
  show _ - o.e + (o.e + 1) = _
  omega
theorem sumT_le {n B : Int} {L : List Ow} (h : okE n B L) (hl : L.length = 16) (hB : 0 ≤ B) : ∀ k, k ≤ 16 → 0 ≤ sumT L k ∧ sumT L k ≤ (k : Int) * B := by
  intro k
  induction k with
  | zero => intro _; rw [sumT_0]; simp
  | succ k ih =>
    intro hk
    obtain ⟨o, ho⟩ := get_some L k (by omega)
    obtain ⟨-, h2, h3⟩ := h k o ho
    obtain ⟨i1, i2⟩ := ih (by omega)
    rw [sumT_succ ho]
    have e : ((k + 1 : Nat) : Int) * B = (k : Int) * B + B := by rw [show ((k + 1 : Nat) : Int) = (k : Int) + 1 by simp, Int.add_mul, Int.one_mul]
    rw [e]
    omega
/-- how many cells the first j servers have -/
def kS (L : List Ow) : Nat → Nat
  | 0 => 0
  | j + 1 => kS L j + (cellsN L (j : Int)).length
theorem filter_parts {α : Type} (s : α → Int) (j : Int) (R : List α) : (R.filter fun c => decide (s c < j + 1)).length = (R.filter fun c => decide (s c < j)).length + (R.filter fun c => decide (s c = j)).length := by
  induction R with
  | nil => rfl
  | cons a R ih =>
    by_cases h1 : s a < j
    · have h2 : s a < j + 1 := by omega
      have h3 : ¬ s a = j := by omega
      rw [List.filter_cons_of_pos (by simpa using h2), List.filter_cons_of_pos (by simpa using h1), List.filter_cons_of_neg (by simpa using h3)]
      simp only [List.length_cons]
      omega
    · by_cases h3 : s a = j
      · have h2 : s a < j + 1 := by omega
        rw [List.filter_cons_of_pos (by simpa using h2), List.filter_cons_of_neg (by simpa using h1), List.filter_cons_of_pos (by simpa using h3)]
        simp only [List.length_cons]
        omega
      · have h2 : ¬ s a < j + 1 := by omega
        rw [List.filter_cons_of_neg (by simpa using h2), List.filter_cons_of_neg (by simpa using h1), List.filter_cons_of_neg (by simpa using h3)]
        exact ih
theorem kS_count (L : List Ow) (h : ∀ c : Nat, c < 16 → 0 ≤ (atO L (c : Int)).s) (j : Nat) : kS L j = ((List.range 16).filter fun c : Nat => decide ((atO L (c : Int)).s < (j : Int))).length := by
  induction j with
  | zero =>
    symm
    show _ = 0
    rw [List.length_eq_zero_iff, List.filter_eq_nil_iff]
    intro c hc
    have := h c (by simpa using hc)
    simp
    omega
  | succ j ih =>
    show kS L j + _ = _
    rw [ih, show ((j + 1 : Nat) : Int) = (j : Int) + 1 by simp, filter_parts (fun c : Nat => (atO L (c : Int)).s) (j : Int) (List.range 16)]
    rfl
theorem kS_le {L : List Ow} (h : ∀ c : Nat, c < 16 → 0 ≤ (atO L (c : Int)).s) (j : Nat) : kS L j ≤ 16 := by
  rw [kS_count L h j]
  have := List.length_filter_le (fun c : Nat => decide ((atO L (c : Int)).s < (j : Int))) (List.range 16)
  simpa using this
theorem kS_all {n B : Int} {L : List Ow} (h : okE n B L) (hl : L.length = 16) {j : Nat} (hj : n = (j : Int)) : kS L j = 16 := by
  have hs : ∀ c : Nat, c < 16 → 0 ≤ (atO L (c : Int)).s ∧ (atO L (c : Int)).s < n := fun c hc => by
    obtain ⟨o, ho⟩ := get_some L c (by omega)
    have := (h c o ho).1
    rw [at_nat ho]
    unfold isSrv at this
    simp at this
    exact this
  rw [kS_count L (fun c hc => (hs c hc).1) j, List.filter_eq_self.2]
  · simp
  · intro c hc
    have := (hs c (by simpa using hc)).2
    simp
    omega
theorem okE_pos {n B : Int} {L : List Ow} (h : okE n B L) (hl : L.length = 16) : ∀ c : Nat, c < 16 → 0 ≤ (atO L (c : Int)).s := fun c hc => by
  obtain ⟨o, ho⟩ := get_some L c (by omega)
  have := (h c o ho).1
  rw [at_nat ho]
  unfold isSrv at this
  simp at this
  exact this.1
/-- what a hand does, for each cell -/
theorem hand_cells {n B : Int} {L : List Ow} (h : okE n B L) (hl : L.length = 16) (hb : B ≤ 1000) {c f u : Int} (he : handE n L c f u = 0) :
    ∃ (k : Nat) (e : Int), c = (k : Int) ∧ k < 16 ∧ L[k]? = some ⟨f, e⟩ ∧ 0 ≤ e ∧ e ≤ B ∧ handL n L c f u = L.set k ⟨u, e + 1⟩ := by
  obtain ⟨k, o, h1, hk, ho, h3, -, -, h6⟩ := hand_done he hl
  obtain ⟨-, g2, g3⟩ := h k o ho
  refine ⟨k, o.e, h1, hk, ?_, g2, g3, ?_⟩
  · rw [ho, ← h3]
  · rw [h6, show wrap64 (o.e + 1) = o.e + 1 by unfold wrap64; omega]
end Go.Proofs.Ytnlhlmihhgihbaa
