/- Plain facts on reading a delta in the reference's steps. -/
import Derived.Test.YtkklchobiiajgaaFldS
namespace Go.Proofs.Ytkklchobiiajgaa
open Go.RowKit
set_option linter.unusedVariables false
theorem pairR_1 {l : List UInt8} {n i x : Nat} (h : get l = (n, i, x)) (hx : ¬ x = 0) : pairR l = (0, 0, 0, x) := by
  unfold pairR; rw [h]; simp only; rw [if_pos (by simpa using hx)]
theorem pairR_2 {l : List UInt8} {n i n' i' x' : Nat} (h : get l = (n, i, 0)) (h' : get (l.drop i) = (n', i', x')) (hx : ¬ x' = 0) : pairR l = (0, 0, 0, x') := by
  unfold pairR; rw [h]; simp only; rw [h']; simp only; rw [if_neg (by simp), if_pos (by simpa using hx)]
theorem pairR_3 {l : List UInt8} {n i n' i' : Nat} (h : get l = (n, i, 0)) (h' : get (l.drop i) = (n', i', 0)) : pairR l = (n, n', i + i', 0) := by
  unfold pairR; rw [h]; simp only; rw [h']; simp only; rw [if_neg (by simp), if_neg (by simp)]
theorem headR_1 {l : List UInt8} {a b k x : Nat} (h : pairR l = (a, b, k, x)) (hx : ¬ x = 0) : headR l = (zD, 0, x) := by
  unfold headR; rw [h]; simp only; rw [if_pos (by simpa using hx)]
theorem headR_2 {l : List UInt8} {a b k : Nat} (h : pairR l = (a, b, k, 0)) (hx : 1000000 < a ∨ b = 0 ∨ 31 < b) : headR l = (zD, 0, 11) := by
  unfold headR; rw [h]; simp only; rw [if_neg (by simp), if_pos hx]
theorem headR_3 {l : List UInt8} {a b k : Nat} (h : pairR l = (a, b, k, 0)) (h1 : a ≤ 1000000) (h2 : 1 ≤ b) (h3 : b ≤ 31) : headR l = (⟨a, b, 0, 0, zF, zF, zF, zF⟩, k, 0) := by
  unfold headR; rw [h]; simp only; rw [if_neg (by simp), if_neg (by omega)]
theorem fieldR_1 {l u : List UInt8} {i x : Nat} (h : texts l 12 = (u, i, x)) (hx : ¬ x = 0) : fieldR l = (zF, 0, x) := by
  unfold fieldR; rw [h]; simp only; rw [if_pos (by simpa using hx)]
theorem fieldR_2 {l u : List UInt8} {i : Nat} (h : texts l 12 = (u, i, 0)) (hu : ¬ u = []) : fieldR l = (⟨0, ⟨u.toArray⟩⟩, i, 0) := by
  unfold fieldR; rw [h]; simp only; rw [if_neg (by simp), if_pos (by simpa using hu)]
theorem fieldR_3 {l : List UInt8} {i n k x : Nat} (h : texts l 12 = ([], i, 0)) (hg : get (l.drop i) = (n, k, x)) (hx : ¬ x = 0) : fieldR l = (zF, 0, x) := by
  unfold fieldR; rw [h]; simp only; rw [hg]; simp only; rw [if_neg (by simp), if_neg (by simp), if_pos (by simpa using hx)]
theorem fieldR_4 {l : List UInt8} {i n k : Nat} (h : texts l 12 = ([], i, 0)) (hg : get (l.drop i) = (n, k, 0)) : fieldR l = (⟨zag n, ⟨#[]⟩⟩, i + k, 0) := by
  unfold fieldR; rw [h]; simp only; rw [hg]; simp only; rw [if_neg (by simp), if_neg (by simp), if_neg (by simp)]
theorem set_far (D : Dl) (b : Nat) (f : Fl) (j : Nat) (hb : b < j) (hj : j < 4) : (D.set b f).f j = D.f j := by
  obtain ⟨id, m, x, y, f0, f1, f2, f3⟩ := D
  match b, j with
  | 0, 1 => rfl
  | 0, 2 => rfl
  | 0, 3 => rfl
  | 1, 2 => rfl
  | 1, 3 => rfl
  | 2, 3 => rfl
  | 0, j + 4 => omega
  | 1, j + 4 => omega
  | 2, j + 4 => omega
  | b + 3, j => omega
theorem readS_z (l : List UInt8) : ∀ (b : Nat) (D : Dl) (z e : Nat), readS l b = (D, z, e) → ∀ j, b ≤ j + 1 → j < 4 → D.f j = zF
  | 0, D, z, e, h, j, hj, hj4 => by
    have h : headR l = (D, z, e) := h
    rcases hg : pairR l with ⟨a, b, i, x⟩
    have hz : zD.f j = zF := by
      match j with
      | 0 => rfl
      | 1 => rfl
      | 2 => rfl
      | j + 3 => rfl
    by_cases hx : x = 0
    · subst hx
      by_cases hb : 1000000 < a ∨ b = 0 ∨ 31 < b
      · rw [headR_2 hg hb] at h; simp only [Prod.mk.injEq] at h; obtain ⟨rfl, _⟩ := h; exact hz
      · rw [headR_3 hg (by omega) (by omega) (by omega)] at h; simp only [Prod.mk.injEq] at h; obtain ⟨rfl, _⟩ := h
        match j with
        | 0 => rfl
        | 1 => rfl
        | 2 => rfl
        | j + 3 => rfl
    · rw [headR_1 hg hx] at h; simp only [Prod.mk.injEq] at h; obtain ⟨rfl, _⟩ := h; exact hz
  | b + 1, D, z, e, h, j, hj, hj4 => by
    rcases hp : readS l b with ⟨D', z', e'⟩
    have ih := readS_z l b D' z' e' hp
    by_cases he : e' = 0
    · subst he
      cases hr : D'.m.testBit b
      · rw [readS_skip hp hr] at h
        simp only [Prod.mk.injEq] at h; obtain ⟨rfl, _⟩ := h; exact ih j (by omega) hj4
      · cases b with
        | zero =>
          rcases hq : pairR (l.drop z') with ⟨x, y, k, e2⟩
          rw [readS_pt hp hr hq] at h
          simp only [Prod.mk.injEq] at h; obtain ⟨rfl, _⟩ := h
          have := ih j (by omega) hj4
          match j with
          | 0 => exact this
          | 1 => exact this
          | 2 => exact this
          | j + 3 => exact this
        | succ b =>
          rcases hq : fieldR (l.drop z') with ⟨f, k, e2⟩
          rw [readS_fl hp hr hq] at h
          simp only [Prod.mk.injEq] at h; obtain ⟨rfl, _⟩ := h
          rw [set_far D' b f j (by omega) hj4]
          exact ih j (by omega) hj4
    · have := readS_err hp he (b + 1) (by omega)
      rw [this] at h
      simp only [Prod.mk.injEq] at h; obtain ⟨rfl, _⟩ := h; exact ih j (by omega) hj4
def Dl.at (D : Dl) (x y : Int) : Dl := { D with x := x, y := y }
def Alt (D : Dl) (x y : Int) : Prop := (x = D.x ∧ y = D.y) ∨ (onB x y = false ∧ onB D.x D.y = false)
theorem alt_isD {D : Dl} {x y : Int} (h : Alt D x y) : isD (D.at x y) = isD D ∧ (isD D = true → D.at x y = D) := by
  rcases h with ⟨rfl, rfl⟩ | ⟨h1, h2⟩
  · exact ⟨rfl, fun _ => rfl⟩
  · have e1 : isD (D.at x y) = false := by
      unfold isD
      rw [show onB (D.at x y).x (D.at x y).y = false from h1]; simp
    have e2 : isD D = false := by unfold isD; rw [h2]; simp
    rw [e1, e2]
    exact ⟨rfl, fun h => by cases h⟩
theorem alt_pt (D : Dl) (x y : Nat) : Alt { D with x := ((min x 64 : Nat) : Int), y := ((min y 64 : Nat) : Int) } ((min x 1048577 : Nat) : Int) ((min y 1048577 : Nat) : Int) := by
  by_cases h : x < 64 ∧ y < 64
  · left
    constructor
    · show ((min x 1048577 : Nat) : Int) = ((min x 64 : Nat) : Int); omega
    · show ((min y 1048577 : Nat) : Int) = ((min y 64 : Nat) : Int); omega
  · right
    constructor
    · cases hc : onB ((min x 1048577 : Nat) : Int) ((min y 1048577 : Nat) : Int)
      · rfl
      · simp [onB, inB] at hc; omega
    · show onB ((min x 64 : Nat) : Int) ((min y 64 : Nat) : Int) = false
      cases hc : onB ((min x 64 : Nat) : Int) ((min y 64 : Nat) : Int)
      · rfl
      · simp [onB, inB] at hc; omega
theorem at_f (D : Dl) (x y : Int) (k : Nat) : (D.at x y).f k = D.f k := by
  match k with
  | 0 => rfl
  | 1 => rfl
  | 2 => rfl
  | k + 3 => rfl
theorem set_alt {D : Dl} {x y : Int} (h : Alt D x y) (k : Nat) (f : Fl) : Alt (D.set k f) x y := by
  match k with
  | 0 => exact h
  | 1 => exact h
  | 2 => exact h
  | k + 3 => exact h
end Go.Proofs.Ytkklchobiiajgaa
