/- Plain facts on reading a delta: its steps, their bounds. -/
import Derived.Test.YtkklchobiiajgaaFldR
namespace Go.Proofs.Ytkklchobiiajgaa
open Go.RowKit
set_option linter.unusedVariables false
theorem readS_err {l : List UInt8} {D : Dl} {z e b : Nat} (h : readS l b = (D, z, e)) (he : ¬ e = 0) : ∀ c, b ≤ c → readS l c = (D, z, e) := by
  intro c hc
  induction c with
  | zero => obtain rfl : b = 0 := by omega
            exact h
  | succ c ih =>
    by_cases hbc : b = c + 1
    · rw [← hbc]; exact h
    · have := ih (by omega)
      rw [readS, this]
      simp only
      rw [if_pos (by simpa using he)]
theorem read_err {l : List UInt8} {D : Dl} {z e b : Nat} (h : readS l b = (D, z, e)) (he : ¬ e = 0) (hb : b ≤ 5) : read l = (zD, 0, e) := by
  have := readS_err h he 5 hb
  unfold read
  rw [this]
  simp only
  rw [if_pos (by simpa using he)]
theorem read_bad {l : List UInt8} {D : Dl} {z : Nat} (h : readS l 5 = (D, z, 0)) (hd : isD D = false) : read l = (zD, 0, 11) := by
  unfold read
  rw [h]
  simp only
  rw [if_neg (by simp), if_pos hd]
theorem read_good {l : List UInt8} {D : Dl} {z : Nat} (h : readS l 5 = (D, z, 0)) (hd : isD D = true) : read l = (D, z, 0) := by
  unfold read
  rw [h]
  simp only
  rw [if_neg (by simp), if_neg (by simp [hd])]
theorem readS_skip {l : List UInt8} {D : Dl} {z b : Nat} (h : readS l b = (D, z, 0)) (hr : D.m.testBit b = false) : readS l (b + 1) = (D, z, 0) := by
  rw [readS, h]
  simp only
  rw [if_neg (by simp), if_pos hr]
theorem readS_pt {l : List UInt8} {D : Dl} {z x y k e : Nat} (h : readS l 0 = (D, z, 0)) (hr : D.m.testBit 0 = true) (hp : pairR (l.drop z) = (x, y, k, e)) : readS l 1 = ({ D with x := ((min x 64 : Nat) : Int), y := ((min y 64 : Nat) : Int) }, z + k, e) := by
  rw [readS, h]
  simp only
  rw [if_neg (by simp), if_neg (by simp [hr]), if_pos trivial, hp]
theorem readS_fl {l : List UInt8} {D : Dl} {z b k e : Nat} {f : Fl} (h : readS l (b + 1) = (D, z, 0)) (hr : D.m.testBit (b + 1) = true) (hp : fieldR (l.drop z) = (f, k, e)) : readS l (b + 1 + 1) = (D.set b f, z + k, e) := by
  rw [readS, h]
  simp only
  rw [if_neg (by simp), if_neg (by simp [hr]), if_neg (by omega), hp]
  rfl
def fitS (f : Fl) : Prop := f.s.size ≤ 12 ∧ isF f = true
theorem set_f {D : Dl} {b : Nat} {f : Fl} (hD : ∀ k, fitS (D.f k)) (hf : fitS f) : ∀ k, fitS ((D.set b f).f k) := by
  intro k
  obtain ⟨id, m, x, y, f0, f1, f2, f3⟩ := D
  have h0 : fitS f0 := hD 0
  have h1 : fitS f1 := hD 1
  have h2 : fitS f2 := hD 2
  have h3 : fitS f3 := hD 3
  match b, k with
  | 0, 0 => exact hf
  | 0, 1 => exact h1
  | 0, 2 => exact h2
  | 0, k + 3 => exact h3
  | 1, 0 => exact h0
  | 1, 1 => exact hf
  | 1, 2 => exact h2
  | 1, k + 3 => exact h3
  | 2, 0 => exact h0
  | 2, 1 => exact h1
  | 2, 2 => exact hf
  | 2, k + 3 => exact h3
  | b + 3, 0 => exact h0
  | b + 3, 1 => exact h1
  | b + 3, 2 => exact h2
  | b + 3, k + 3 => exact hf
theorem set_m (D : Dl) (b : Nat) (f : Fl) : (D.set b f).m = D.m := by
  match b with
  | 0 => rfl
  | 1 => rfl
  | 2 => rfl
  | b + 3 => rfl
theorem zD_f : ∀ k, fitS (zD.f k) := by
  intro k
  match k with
  | 0 => exact ⟨by decide, by decide⟩
  | 1 => exact ⟨by decide, by decide⟩
  | 2 => exact ⟨by decide, by decide⟩
  | k + 3 => exact (⟨by decide, by decide⟩ : fitS zF)
theorem headR_ok {l : List UInt8} {D : Dl} {z e : Nat} (h : headR l = (D, z, e)) : z ≤ l.length ∧ D.m ≤ 31 ∧ (∀ k, fitS (D.f k)) ∧ (e = 0 ∨ e = 10 ∨ e = 11 ∨ e = 13) := by
  rcases hg : pairR l with ⟨a, b, i, x⟩
  obtain ⟨h1, h2, h3, h4, h5, h6⟩ := pairR_ok hg
  unfold headR at h
  rw [hg] at h
  simp only at h
  split at h
  · simp only [Prod.mk.injEq] at h; obtain ⟨rfl, rfl, rfl⟩ := h; exact ⟨by omega, by decide, zD_f, by omega⟩
  · split at h
    · simp only [Prod.mk.injEq] at h; obtain ⟨rfl, rfl, rfl⟩ := h; exact ⟨by omega, by decide, zD_f, by omega⟩
    · simp only [Prod.mk.injEq] at h; obtain ⟨rfl, rfl, rfl⟩ := h
      exact ⟨by omega, by show b ≤ 31; omega, fun k => by have := zD_f k; match k with | 0 => exact this | 1 => exact this | 2 => exact this | k + 3 => exact this, by omega⟩
theorem readS_ok (l : List UInt8) : ∀ (b : Nat) (D : Dl) (z e : Nat), readS l b = (D, z, e) → z ≤ l.length ∧ D.m ≤ 31 ∧ (∀ k, fitS (D.f k)) ∧ (e = 0 ∨ e = 10 ∨ e = 11 ∨ e = 13)
  | 0, D, z, e, h => headR_ok h
  | b + 1, D, z, e, h => by
    rcases hp : readS l b with ⟨D', z', e'⟩
    obtain ⟨i1, i2, i3, i4⟩ := readS_ok l b D' z' e' hp
    by_cases he : e' = 0
    · subst he
      cases hr : D'.m.testBit b
      · rw [readS_skip hp hr] at h
        simp only [Prod.mk.injEq] at h; obtain ⟨rfl, rfl, rfl⟩ := h; exact ⟨i1, i2, i3, i4⟩
      · cases b with
        | zero =>
          rcases hq : pairR (l.drop z') with ⟨x, y, k, e2⟩
          obtain ⟨h1, h2, h3, h4, h5, h6⟩ := pairR_ok hq
          rw [List.length_drop] at h3
          rw [readS_pt hp hr hq] at h
          simp only [Prod.mk.injEq] at h; obtain ⟨rfl, rfl, rfl⟩ := h
          exact ⟨by omega, i2, i3, by omega⟩
        | succ b =>
          rcases hq : fieldR (l.drop z') with ⟨f, k, e2⟩
          obtain ⟨h1, h2, h3, h4, h5, h6⟩ := fieldR_ok hq
          rw [List.length_drop] at h2
          rw [readS_fl hp hr hq] at h
          simp only [Prod.mk.injEq] at h; obtain ⟨rfl, rfl, rfl⟩ := h
          exact ⟨by omega, by rw [set_m]; exact i2, set_f i3 ⟨h1, h5⟩, by omega⟩
    · have := readS_err hp he (b + 1) (by omega)
      rw [this] at h
      simp only [Prod.mk.injEq] at h; obtain ⟨rfl, rfl, rfl⟩ := h; exact ⟨i1, i2, i3, i4⟩
end Go.Proofs.Ytkklchobiiajgaa
