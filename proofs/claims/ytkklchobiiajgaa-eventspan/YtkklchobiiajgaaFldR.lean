/- Plain facts on deltas as bytes, of no program: what is told, what is read; bounds. -/
import Derived.Test.YtkklchobiiajgaaFldP
namespace Go.Proofs.Ytkklchobiiajgaa
open Go.RowKit
set_option linter.unusedVariables false
def told (f : Fl) : List UInt8 := text f.s.data.toList ++ (if f.s.data.toList = [] then put (zig f.n) else [])
def bytesK (d : Dl) : Nat → List UInt8
  | 0 => put d.id.toNat ++ put d.m ++ (if d.m.testBit 0 then put d.x.toNat ++ put d.y.toNat else [])
  | k + 1 => bytesK d k ++ (if d.m.testBit (k + 1) then told (d.f k) else [])
def pairR (l : List UInt8) : Nat × Nat × Nat × Nat :=
  if (get l).2.2 ≠ 0 then (0, 0, 0, (get l).2.2)
  else if (get (l.drop (get l).2.1)).2.2 ≠ 0 then (0, 0, 0, (get (l.drop (get l).2.1)).2.2)
  else ((get l).1, (get (l.drop (get l).2.1)).1, (get l).2.1 + (get (l.drop (get l).2.1)).2.1, 0)
def headR (l : List UInt8) : Dl × Nat × Nat :=
  if (pairR l).2.2.2 ≠ 0 then (zD, 0, (pairR l).2.2.2)
  else if 1000000 < (pairR l).1 ∨ (pairR l).2.1 = 0 ∨ 31 < (pairR l).2.1 then (zD, 0, 11)
  else (⟨(pairR l).1, (pairR l).2.1, 0, 0, zF, zF, zF, zF⟩, (pairR l).2.2.1, 0)
def fieldR (l : List UInt8) : Fl × Nat × Nat :=
  if (texts l 12).2.2 ≠ 0 then (zF, 0, (texts l 12).2.2)
  else if (texts l 12).1 ≠ [] then (⟨0, ⟨(texts l 12).1.toArray⟩⟩, (texts l 12).2.1, 0)
  else if (get (l.drop (texts l 12).2.1)).2.2 ≠ 0 then (zF, 0, (get (l.drop (texts l 12).2.1)).2.2)
  else (⟨zag (get (l.drop (texts l 12).2.1)).1, ⟨#[]⟩⟩, (texts l 12).2.1 + (get (l.drop (texts l 12).2.1)).2.1, 0)
def readS (s : List UInt8) : Nat → Dl × Nat × Nat
  | 0 => headR s
  | b + 1 =>
    if (readS s b).2.2 ≠ 0 then readS s b
    else if (readS s b).1.m.testBit b = false then readS s b
    else if b = 0 then
      ({ (readS s b).1 with x := ((min (pairR (s.drop (readS s b).2.1)).1 64 : Nat) : Int), y := ((min (pairR (s.drop (readS s b).2.1)).2.1 64 : Nat) : Int) }, (readS s b).2.1 + (pairR (s.drop (readS s b).2.1)).2.2.1, (pairR (s.drop (readS s b).2.1)).2.2.2)
    else ((readS s b).1.set (b - 1) (fieldR (s.drop (readS s b).2.1)).1, (readS s b).2.1 + (fieldR (s.drop (readS s b).2.1)).2.1, (fieldR (s.drop (readS s b).2.1)).2.2)
def read (s : List UInt8) : Dl × Nat × Nat :=
  if (readS s 5).2.2 ≠ 0 then (zD, 0, (readS s 5).2.2) else if isD (readS s 5).1 = false then (zD, 0, 11) else readS s 5
theorem cut_data (s : ByteArray) (k : Nat) : (s.extract k s.size).data.toList = s.data.toList.drop k := by
  obtain ⟨⟨l⟩⟩ := s
  exact extract_tail l k
theorem texts_ok {l u : List UInt8} {k e : Nat} (h : texts l 12 = (u, k, e)) : u.length ≤ 12 ∧ k ≤ l.length ∧ k ≤ 22 ∧ (e = 0 ∨ e = 10 ∨ e = 11 ∨ e = 13) ∧ (e ≠ 0 → u = [] ∧ k = 0) := by
  rcases hg : get l with ⟨n, i, x⟩
  obtain ⟨h1, h2, h3, h4, h5⟩ := get_ok hg
  unfold texts at h
  rw [hg] at h
  simp only at h
  by_cases hx : x = 0
  · rw [if_neg (by simpa using hx)] at h
    by_cases hn : max (12 : Int) 0 < (n : Int)
    · rw [if_pos hn] at h
      simp only [Prod.mk.injEq] at h
      obtain ⟨rfl, rfl, rfl⟩ := h
      simp
    · rw [if_neg hn] at h
      by_cases hl : l.length - i < n
      · rw [if_pos hl] at h
        simp only [Prod.mk.injEq] at h
        obtain ⟨rfl, rfl, rfl⟩ := h
        simp
      · rw [if_neg hl] at h
        simp only [Prod.mk.injEq] at h
        obtain ⟨rfl, rfl, rfl⟩ := h
        refine ⟨?_, by omega, by omega, Or.inl rfl, fun h => absurd rfl h⟩
        simp only [List.length_take, List.length_drop]
        omega
  · rw [if_pos (by simpa using hx)] at h
    simp only [Prod.mk.injEq] at h
    obtain ⟨rfl, rfl, rfl⟩ := h
    simp
    omega
theorem pairR_ok {l : List UInt8} {a b k e : Nat} (h : pairR l = (a, b, k, e)) : a ≤ 18446744073709551615 ∧ b ≤ 18446744073709551615 ∧ k ≤ l.length ∧ k ≤ 20 ∧ (e = 0 ∨ e = 10 ∨ e = 11) ∧ (e ≠ 0 → a = 0 ∧ b = 0 ∧ k = 0) := by
  rcases hg : get l with ⟨n, i, x⟩
  obtain ⟨h1, h2, h3, h4, h5⟩ := get_ok hg
  rcases hg' : get (l.drop i) with ⟨n', i', x'⟩
  obtain ⟨h1', h2', h3', h4', h5'⟩ := get_ok hg'
  rw [List.length_drop] at h2'
  unfold pairR at h
  rw [hg] at h
  simp only at h
  rw [hg'] at h
  simp only at h
  split at h
  · simp only [Prod.mk.injEq] at h; obtain ⟨rfl, rfl, rfl, rfl⟩ := h; simp; omega
  · split at h
    · simp only [Prod.mk.injEq] at h; obtain ⟨rfl, rfl, rfl, rfl⟩ := h; simp; omega
    · simp only [Prod.mk.injEq] at h; obtain ⟨rfl, rfl, rfl, rfl⟩ := h; simp; omega
theorem fieldR_ok {l : List UInt8} {f : Fl} {k e : Nat} (h : fieldR l = (f, k, e)) : f.s.size ≤ 12 ∧ k ≤ l.length ∧ k ≤ 32 ∧ (e = 0 ∨ e = 10 ∨ e = 11 ∨ e = 13) ∧ isF f = true ∧ (e ≠ 0 → f = zF ∧ k = 0) := by
  rcases ht : texts l 12 with ⟨u, i, x⟩
  obtain ⟨t1, t2, t3, t4, t5⟩ := texts_ok ht
  rcases hg : get (l.drop i) with ⟨n, i', x'⟩
  obtain ⟨h1, h2, h3, h4, h5⟩ := get_ok hg
  rw [List.length_drop] at h2
  unfold fieldR at h
  rw [ht] at h
  simp only at h
  rw [hg] at h
  simp only at h
  have z1 : (zF.s.size ≤ 12) := by decide
  have z2 : isF zF = true := by decide
  split at h
  · simp only [Prod.mk.injEq] at h; obtain ⟨rfl, rfl, rfl⟩ := h; exact ⟨z1, by omega, by omega, t4, z2, fun _ => ⟨rfl, rfl⟩⟩
  · split at h
    · simp only [Prod.mk.injEq] at h; obtain ⟨rfl, rfl, rfl⟩ := h
      have t1' : ByteArray.size ⟨u.toArray⟩ ≤ 12 := t1
      exact ⟨t1, by omega, by omega, Or.inl rfl, by simp [isF, t1'], fun h => absurd rfl h⟩
    · split at h
      · simp only [Prod.mk.injEq] at h; obtain ⟨rfl, rfl, rfl⟩ := h; exact ⟨z1, by omega, by omega, by omega, z2, fun _ => ⟨rfl, rfl⟩⟩
      · simp only [Prod.mk.injEq] at h; obtain ⟨rfl, rfl, rfl⟩ := h
        exact ⟨by simp [ByteArray.size], by omega, by omega, Or.inl rfl, by simp [isF, ByteArray.size, ByteArray.toList_eq], fun h => absurd rfl h⟩
theorem told_len {f : Fl} (h : f.s.size ≤ 12) : (told f).length ≤ 32 := by
  have h1 := (put_length f.s.data.toList.length).2
  have h2 := (put_length (zig f.n)).2
  have h3 : f.s.data.toList.length ≤ 12 := h
  unfold told text
  split <;> simp only [List.length_append, List.length_nil] <;> omega
theorem bytesK_len {d : Dl} (h : ∀ k, (d.f k).s.size ≤ 12) : ∀ k, (bytesK d k).length ≤ 40 + 32 * k
  | 0 => by
    have h1 := (put_length d.id.toNat).2
    have h2 := (put_length d.m).2
    have h3 := (put_length d.x.toNat).2
    have h4 := (put_length d.y.toNat).2
    unfold bytesK
    split <;> simp only [List.length_append, List.length_nil] <;> omega
  | k + 1 => by
    have ih := bytesK_len h k
    have := told_len (h k)
    unfold bytesK
    split <;> simp only [List.length_append, List.length_nil] <;> omega
theorem bytesK_same {d : Dl} {k : Nat} {L : List UInt8} (h : bytesK d k = L) (hr : d.m.testBit (k + 1) = false) : bytesK d (k + 1) = L := by
  rw [bytesK, hr, h]; simp
theorem bytesK_next {d : Dl} {k : Nat} {L : List UInt8} (h : bytesK d k = L) (hr : d.m.testBit (k + 1) = true) : bytesK d (k + 1) = L ++ told (d.f k) := by
  rw [bytesK, hr, h]; simp
theorem isD_small {d : Dl} (h : isD d = true) : 0 ≤ d.id ∧ d.id ≤ 1000000 ∧ 1 ≤ d.m ∧ d.m ≤ 31 ∧ 0 ≤ d.x ∧ d.x < 64 ∧ 0 ≤ d.y ∧ d.y < 64 ∧ (∀ k, (d.f k).s.size ≤ 12) ∧ (∀ k, isF (d.f k) = true) := by
  unfold isD at h
  simp only [Bool.and_eq_true, decide_eq_true_eq, onB, inB, List.all_eq_true, List.mem_range] at h
  obtain ⟨⟨⟨⟨⟨⟨h1, h2⟩, h3⟩, h4⟩, ⟨⟨h5, h6⟩, h7⟩, h8⟩, h9⟩, h10⟩ := h
  have hF : ∀ k, isF (d.f k) = true := fun k => by
    rcases Nat.lt_or_ge k 4 with hk | hk
    · exact (h10 k hk).1
    · have : d.f k = d.f 3 := by
        obtain ⟨j, rfl⟩ : ∃ j, k = j + 4 := ⟨k - 4, by omega⟩
        rfl
      rw [this]; exact (h10 3 (by omega)).1
  refine ⟨h1, h2, h3, h4, h5, h6, h7, h8, fun k => ?_, hF⟩
  have := hF k
  unfold isF at this
  simp only [Bool.and_eq_true, decide_eq_true_eq] at this
  exact this.2
end Go.Proofs.Ytkklchobiiajgaa
