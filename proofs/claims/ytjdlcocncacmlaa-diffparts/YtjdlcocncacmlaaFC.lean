/- Plain facts on deltas as bytes, of no program: what is told, what is read; bounds. Contracts of the parts of Read of the package fields: pair, head, point, field; of the reference's number. Contracts of told and Bytes, of the package fields and of the reference: a delta as bytes. Plain facts on reading a delta: its steps, their bounds. Contracts of Read and of Bytes' refusal, of the package fields. Plain facts on reading a delta in the reference's steps. Contract of the reference's Read. What a field, a thing, a delta is that comes in: its numbers fit, its texts are not too long for the machine. -/
import Derived.Test.YtjdlcocncacmlaaFA
import Derived.Test.YtjdlcocncacmlaaFldI
import Derived.Test.YtjdlcocncacmlaaFldD
import Derived.WalkMore
import Derived.Deep.Cut
import Derived.ChangeOld
import Derived.OpenShut
import Derived.ShutString
namespace Go.Proofs.Ytjdlcocncacmlaa
section
open Go.RowKit
set_option linter.unusedVariables false
def told (f : Fl) : List UInt8 := text f.s.data.toList ++ (if f.s.data.toList = [] then put (zig f.n) else [])
def bytesK (d : Dl) : Nat → List UInt8
  | 0 => put d.id.toNat ++ put d.m ++ (if d.m.testBit 0 then put d.x.toNat ++ put d.y.toNat else [])
  | k + 1 => bytesK d k ++ (if d.m.testBit (k + 1) then told (d.f k) else [])
def pairR (l : List UInt8) : Nat × Nat × Nat × Nat :=
  if (get l).2.2 ≠ 0 then (0, 0, 0, (get l).2.2)
  else if (get (l.drop (get l).2.1)).2.2 ≠ 0 then (0, 0, 0, (get (l.drop (get l).2.1)).2.2)
  else ((get l).1, (get (l.drop (get l).2.1)).1, (get l).2.1 + (get (l.drop (get l).2.1)).2.1, 0)
def headR (l : List UInt8) : Dl × Nat × Nat :=
  if (pairR l).2.2.2 ≠ 0 then (zD, 0, (pairR l).2.2.2)
  else if 1000000 < (pairR l).1 ∨ (pairR l).2.1 = 0 ∨ 31 < (pairR l).2.1 then (zD, 0, 11)
  else (⟨(pairR l).1, (pairR l).2.1, 0, 0, zF, zF, zF, zF⟩, (pairR l).2.2.1, 0)
def fieldR (l : List UInt8) : Fl × Nat × Nat :=
  if (texts l 12).2.2 ≠ 0 then (zF, 0, (texts l 12).2.2)
  else if (texts l 12).1 ≠ [] then (⟨0, ⟨(texts l 12).1.toArray⟩⟩, (texts l 12).2.1, 0)
  else if (get (l.drop (texts l 12).2.1)).2.2 ≠ 0 then (zF, 0, (get (l.drop (texts l 12).2.1)).2.2)
  else (⟨zag (get (l.drop (texts l 12).2.1)).1, ⟨#[]⟩⟩, (texts l 12).2.1 + (get (l.drop (texts l 12).2.1)).2.1, 0)
def readS (s : List UInt8) : Nat → Dl × Nat × Nat
  | 0 => headR s
  | b + 1 =>
    if (readS s b).2.2 ≠ 0 then readS s b
    else if (readS s b).1.m.testBit b = false then readS s b
    else if b = 0 then
      ({ (readS s b).1 with x := ((min (pairR (s.drop (readS s b).2.1)).1 64 : Nat) : Int), y := ((min (pairR (s.drop (readS s b).2.1)).2.1 64 : Nat) : Int) }, (readS s b).2.1 + (pairR (s.drop (readS s b).2.1)).2.2.1, (pairR (s.drop (readS s b).2.1)).2.2.2)
    else ((readS s b).1.set (b - 1) (fieldR (s.drop (readS s b).2.1)).1, (readS s b).2.1 + (fieldR (s.drop (readS s b).2.1)).2.1, (fieldR (s.drop (readS s b).2.1)).2.2)
def read (s : List UInt8) : Dl × Nat × Nat :=
  if (readS s 5).2.2 ≠ 0 then (zD, 0, (readS s 5).2.2) else if isD (readS s 5).1 = false then (zD, 0, 11) else readS s 5
theorem cut_data (s : ByteArray) (k : Nat) : (s.extract k s.size).data.toList = s.data.toList.drop k := by
  obtain ⟨⟨l⟩⟩ := s
  exact extract_tail l k
theorem texts_ok {l u : List UInt8} {k e : Nat} (h : texts l 12 = (u, k, e)) : u.length ≤ 12 ∧ k ≤ l.length ∧ k ≤ 22 ∧ (e = 0 ∨ e = 10 ∨ e = 11 ∨ e = 13) ∧ (e ≠ 0 → u = [] ∧ k = 0) := by
  rcases hg : get l with ⟨n, i, x⟩
  obtain ⟨h1, h2, h3, h4, h5⟩ := get_ok hg
  unfold texts at h
  rw [hg] at h
  simp only at h
  by_cases hx : x = 0
  · rw [if_neg (by simpa using hx)] at h
    by_cases hn : max (12 : Int) 0 < (n : Int)
    · rw [if_pos hn] at h
      simp only [Prod.mk.injEq] at h
      obtain ⟨rfl, rfl, rfl⟩ := h
      simp
    · rw [if_neg hn] at h
      by_cases hl : l.length - i < n
      · rw [if_pos hl] at h
        simp only [Prod.mk.injEq] at h
        obtain ⟨rfl, rfl, rfl⟩ := h
        simp
      · rw [if_neg hl] at h
        simp only [Prod.mk.injEq] at h
        obtain ⟨rfl, rfl, rfl⟩ := h
        refine ⟨?_, by omega, by omega, Or.inl rfl, fun h => absurd rfl h⟩
        simp only [List.length_take, List.length_drop]
        omega
  · rw [if_pos (by simpa using hx)] at h
    simp only [Prod.mk.injEq] at h
    obtain ⟨rfl, rfl, rfl⟩ := h
    simp
    omega
theorem pairR_ok {l : List UInt8} {a b k e : Nat} (h : pairR l = (a, b, k, e)) : a ≤ 18446744073709551615 ∧ b ≤ 18446744073709551615 ∧ k ≤ l.length ∧ k ≤ 20 ∧ (e = 0 ∨ e = 10 ∨ e = 11) ∧ (e ≠ 0 → a = 0 ∧ b = 0 ∧ k = 0) := by
  rcases hg : get l with ⟨n, i, x⟩
  obtain ⟨h1, h2, h3, h4, h5⟩ := get_ok hg
  rcases hg' : get (l.drop i) with ⟨n', i', x'⟩
  obtain ⟨h1', h2', h3', h4', h5'⟩ := get_ok hg'
  rw [List.length_drop] at h2'
  unfold pairR at h
  rw [hg] at h
  simp only at h
  rw [hg'] at h
  simp only at h
  split at h
  · simp only [Prod.mk.injEq] at h; obtain ⟨rfl, rfl, rfl, rfl⟩ := h; simp; omega
  · split at h
    · simp only [Prod.mk.injEq] at h; obtain ⟨rfl, rfl, rfl, rfl⟩ := h; simp; omega
    · simp only [Prod.mk.injEq] at h; obtain ⟨rfl, rfl, rfl, rfl⟩ := h; simp; omega
theorem fieldR_ok {l : List UInt8} {f : Fl} {k e : Nat} (h : fieldR l = (f, k, e)) : f.s.size ≤ 12 ∧ k ≤ l.length ∧ k ≤ 32 ∧ (e = 0 ∨ e = 10 ∨ e = 11 ∨ e = 13) ∧ isF f = true ∧ (e ≠ 0 → f = zF ∧ k = 0) := by
  rcases ht : texts l 12 with ⟨u, i, x⟩
  obtain ⟨t1, t2, t3, t4, t5⟩ := texts_ok ht
  rcases hg : get (l.drop i) with ⟨n, i', x'⟩
  obtain ⟨h1, h2, h3, h4, h5⟩ := get_ok hg
  rw [List.length_drop] at h2
  unfold fieldR at h
  rw [ht] at h
  simp only at h
  rw [hg] at h
  simp only at h
  have z1 : (zF.s.size ≤ 12) := by decide
  have z2 : isF zF = true := by decide
  split at h
  · simp only [Prod.mk.injEq] at h; obtain ⟨rfl, rfl, rfl⟩ := h; exact ⟨z1, by omega, by omega, t4, z2, fun _ => ⟨rfl, rfl⟩⟩
  · split at h
    · simp only [Prod.mk.injEq] at h; obtain ⟨rfl, rfl, rfl⟩ := h
      have t1' : ByteArray.size ⟨u.toArray⟩ ≤ 12 := t1
      exact ⟨t1, by omega, by omega, Or.inl rfl, by simp [isF, t1'], fun h => absurd rfl h⟩
    · split at h
      · simp only [Prod.mk.injEq] at h; obtain ⟨rfl, rfl, rfl⟩ := h; exact ⟨z1, by omega, by omega, by omega, z2, fun _ => ⟨rfl, rfl⟩⟩
      · simp only [Prod.mk.injEq] at h; obtain ⟨rfl, rfl, rfl⟩ := h
        exact ⟨by simp [ByteArray.size], by omega, by omega, Or.inl rfl, by simp [isF, ByteArray.size, ByteArray.toList_eq], fun h => absurd rfl h⟩
theorem told_len {f : Fl} (h : f.s.size ≤ 12) : (told f).length ≤ 32 := by
  have h1 := (put_length f.s.data.toList.length).2
  have h2 := (put_length (zig f.n)).2
  have h3 : f.s.data.toList.length ≤ 12 := h
  unfold told text
  split <;> simp only [List.length_append, List.length_nil] <;> omega
theorem bytesK_len {d : Dl} (h : ∀ k, (d.f k).s.size ≤ 12) : ∀ k, (bytesK d k).length ≤ 40 + 32 * k
  | 0 => by
    have h1 := (put_length d.id.toNat).2
    have h2 := (put_length d.m).2
    have h3 := (put_length d.x.toNat).2
    have h4 := (put_length d.y.toNat).2
    unfold bytesK
    split <;> simp only [List.length_append, List.length_nil] <;> omega
  | k + 1 => by
    have ih := bytesK_len h k
    have := told_len (h k)
    unfold bytesK
    split <;> simp only [List.length_append, List.length_nil] <;> omega
theorem bytesK_same {d : Dl} {k : Nat} {L : List UInt8} (h : bytesK d k = L) (hr : d.m.testBit (k + 1) = false) : bytesK d (k + 1) = L := by
  rw [bytesK, hr, h]; simp
theorem bytesK_next {d : Dl} {k : Nat} {L : List UInt8} (h : bytesK d k = L) (hr : d.m.testBit (k + 1) = true) : bytesK d (k + 1) = L ++ told (d.f k) := by
  rw [bytesK, hr, h]; simp
theorem isD_small {d : Dl} (h : isD d = true) : 0 ≤ d.id ∧ d.id ≤ 1000000 ∧ 1 ≤ d.m ∧ d.m ≤ 31 ∧ 0 ≤ d.x ∧ d.x < 64 ∧ 0 ≤ d.y ∧ d.y < 64 ∧ (∀ k, (d.f k).s.size ≤ 12) ∧ (∀ k, isF (d.f k) = true) := by
  unfold isD at h
  simp only [Bool.and_eq_true, decide_eq_true_eq, onB, inB, List.all_eq_true, List.mem_range] at h
  obtain ⟨⟨⟨⟨⟨⟨h1, h2⟩, h3⟩, h4⟩, ⟨⟨h5, h6⟩, h7⟩, h8⟩, h9⟩, h10⟩ := h
  have hF : ∀ k, isF (d.f k) = true := fun k => by
    rcases Nat.lt_or_ge k 4 with hk | hk
    · exact (h10 k hk).1
    · have : d.f k = d.f 3 := by
        obtain ⟨j, rfl⟩ : ∃ j, k = j + 4 := ⟨k - 4, by omega⟩
        rfl
      rw [this]; exact (h10 3 (by omega)).1
  refine ⟨h1, h2, h3, h4, h5, h6, h7, h8, fun k => ?_, hF⟩
  have := hF k
  unfold isF at this
  simp only [Bool.and_eq_true, decide_eq_true_eq] at this
  exact this.2
end
section
open Go.RowKit
set_option linter.unusedVariables false
theorem hid {p : Prop} (h : p) : Hid p := h
theorem fin4 {a b c d a' b' c' d' : Int} (h1 : a = a') (h2 : b = b') (h3 : c = c') (h4 : d = d') : Ending.returned (.tuple #[.int .u64 a, .int .u64 b, .int .i64 c, .int .i64 d]) = .returned (.tuple #[.int .u64 a', .int .u64 b', .int .i64 c', .int .i64 d']) := by rw [h1, h2, h3, h4]
theorem text_empty {u : List UInt8} (h : u = []) : (⟨u.toArray⟩ : ByteArray).toList = [] := by rw [h, ByteArray.toList_eq]
theorem text_some {u : List UInt8} (h : ¬ u = []) : (⟨u.toArray⟩ : ByteArray).toList.isEmpty = false := by rw [ByteArray.toList_eq]; simpa using h
end
section
open Go.RowKit
set_option linter.unusedVariables false
theorem calls_val {f : Nat} {args : Array Value} {w : World} {v v' : Value} (h : Calls Try.prog f args w fun e w' => e = .returned v ∧ Below w.heap.size w w') (hv : v = v') : Calls Try.prog f args w fun e w' => e = .returned v' ∧ Below w.heap.size w w' := by
  rw [← hv]; exact h
def fitF (f : Fl) : Prop := f.s.size ≤ 1000000 ∧ -9223372036854775808 ≤ f.n ∧ f.n ≤ 9223372036854775807
theorem grown_cells {W : World} {g : Nat} {cs : Array Value} {t : TypeId} (h : W.heap[g]? = some (.cells cs t (0, 0))) : ∀ i d os, (Sort.grow (redrawn W d) os).cell? ⟨g, i, none⟩ = cs[i]? := fun i d os =>
  Go.Joins.cell_of_block (var_on (below_regrown W d os) h (at_lt h)) i
theorem app3 (A B C : List UInt8) : (⟨A.toArray⟩ : ByteArray) ++ (⟨B.toArray⟩ ++ ⟨C.toArray⟩) = ⟨(A ++ (B ++ C)).toArray⟩ := by rw [ByteArray.mk_append_mk, ByteArray.mk_append_mk]
theorem app3' (A B C : List UInt8) : (⟨A.toArray⟩ : ByteArray) ++ ⟨B.toArray⟩ ++ ⟨C.toArray⟩ = ⟨(A ++ (B ++ C)).toArray⟩ := by rw [ByteArray.mk_append_mk, ByteArray.mk_append_mk, List.append_assoc]
theorem bytes0 {d : Dl} {L0 L1 A : List UInt8} (h0 : put d.id.toNat = L0) (h1 : put (d.m : Int).toNat = L1) (hA : L0 ++ L1 = A) (hq : d.m.testBit 0 = false) : bytesK d 0 = A := by
  rw [bytesK, hq, h0, ← hA, ← h1]; simp
theorem bytes1 {d : Dl} {L0 L1 A X Y B : List UInt8} (h0 : put d.id.toNat = L0) (h1 : put (d.m : Int).toNat = L1) (hA : L0 ++ L1 = A) (hx : put d.x.toNat = X) (hy : put d.y.toNat = Y) (hB : A ++ (X ++ Y) = B) (hq : d.m.testBit 0 = true) : bytesK d 0 = B := by
  rw [bytesK, hq, h0, hx, hy, ← hB, ← hA, ← h1]; simp
end
section
open Go.RowKit
set_option linter.unusedVariables false
theorem readS_err {l : List UInt8} {D : Dl} {z e b : Nat} (h : readS l b = (D, z, e)) (he : ¬ e = 0) : ∀ c, b ≤ c → readS l c = (D, z, e) := by
  intro c hc
  induction c with
  | zero => obtain rfl : b = 0 := by omega
            exact h
  | succ c ih =>
    by_cases hbc : b = c + 1
    · rw [← hbc]; exact h
    · have := ih (by omega)
      rw [readS, this]
      simp only
      rw [if_pos (by simpa using he)]
theorem read_err {l : List UInt8} {D : Dl} {z e b : Nat} (h : readS l b = (D, z, e)) (he : ¬ e = 0) (hb : b ≤ 5) : read l = (zD, 0, e) := by
  have := readS_err h he 5 hb
  unfold read
  rw [this]
  simp only
  rw [if_pos (by simpa using he)]
theorem read_bad {l : List UInt8} {D : Dl} {z : Nat} (h : readS l 5 = (D, z, 0)) (hd : isD D = false) : read l = (zD, 0, 11) := by
  unfold read
  rw [h]
  simp only
  rw [if_neg (by simp), if_pos hd]
theorem read_good {l : List UInt8} {D : Dl} {z : Nat} (h : readS l 5 = (D, z, 0)) (hd : isD D = true) : read l = (D, z, 0) := by
  unfold read
  rw [h]
  simp only
  rw [if_neg (by simp), if_neg (by simp [hd])]
theorem readS_skip {l : List UInt8} {D : Dl} {z b : Nat} (h : readS l b = (D, z, 0)) (hr : D.m.testBit b = false) : readS l (b + 1) = (D, z, 0) := by
  rw [readS, h]
  simp only
  rw [if_neg (by simp), if_pos hr]
theorem readS_pt {l : List UInt8} {D : Dl} {z x y k e : Nat} (h : readS l 0 = (D, z, 0)) (hr : D.m.testBit 0 = true) (hp : pairR (l.drop z) = (x, y, k, e)) : readS l 1 = ({ D with x := ((min x 64 : Nat) : Int), y := ((min y 64 : Nat) : Int) }, z + k, e) := by
  rw [readS, h]
  simp only
  rw [if_neg (by simp), if_neg (by simp [hr]), if_pos trivial, hp]
theorem readS_fl {l : List UInt8} {D : Dl} {z b k e : Nat} {f : Fl} (h : readS l (b + 1) = (D, z, 0)) (hr : D.m.testBit (b + 1) = true) (hp : fieldR (l.drop z) = (f, k, e)) : readS l (b + 1 + 1) = (D.set b f, z + k, e) := by
  rw [readS, h]
  simp only
  rw [if_neg (by simp), if_neg (by simp [hr]), if_neg (by omega), hp]
  rfl
def fitS (f : Fl) : Prop := f.s.size ≤ 12 ∧ isF f = true
theorem set_f {D : Dl} {b : Nat} {f : Fl} (hD : ∀ k, fitS (D.f k)) (hf : fitS f) : ∀ k, fitS ((D.set b f).f k) := by
  intro k
  obtain ⟨id, m, x, y, f0, f1, f2, f3⟩ := D
  have h0 : fitS f0 := hD 0
  have h1 : fitS f1 := hD 1
  have h2 : fitS f2 := hD 2
  have h3 : fitS f3 := hD 3
  match b, k with
  | 0, 0 => exact hf
  | 0, 1 => exact h1
  | 0, 2 => exact h2
  | 0, k + 3 => exact h3
  | 1, 0 => exact h0
  | 1, 1 => exact hf
  | 1, 2 => exact h2
  | 1, k + 3 => exact h3
  | 2, 0 => exact h0
  | 2, 1 => exact h1
  | 2, 2 => exact hf
  | 2, k + 3 => exact h3
  | b + 3, 0 => exact h0
  | b + 3, 1 => exact h1
  | b + 3, 2 => exact h2
  | b + 3, k + 3 => exact hf
theorem set_m (D : Dl) (b : Nat) (f : Fl) : (D.set b f).m = D.m := by
  match b with
  | 0 => rfl
  | 1 => rfl
  | 2 => rfl
  | b + 3 => rfl
theorem zD_f : ∀ k, fitS (zD.f k) := by
  intro k
  match k with
  | 0 => exact ⟨by decide, by decide⟩
  | 1 => exact ⟨by decide, by decide⟩
  | 2 => exact ⟨by decide, by decide⟩
  | k + 3 => exact (⟨by decide, by decide⟩ : fitS zF)
theorem headR_ok {l : List UInt8} {D : Dl} {z e : Nat} (h : headR l = (D, z, e)) : z ≤ l.length ∧ D.m ≤ 31 ∧ (∀ k, fitS (D.f k)) ∧ (e = 0 ∨ e = 10 ∨ e = 11 ∨ e = 13) := by
  rcases hg : pairR l with ⟨a, b, i, x⟩
  obtain ⟨h1, h2, h3, h4, h5, h6⟩ := pairR_ok hg
  unfold headR at h
  rw [hg] at h
  simp only at h
  split at h
  · simp only [Prod.mk.injEq] at h; obtain ⟨rfl, rfl, rfl⟩ := h; exact ⟨by omega, by decide, zD_f, by omega⟩
  · split at h
    · simp only [Prod.mk.injEq] at h; obtain ⟨rfl, rfl, rfl⟩ := h; exact ⟨by omega, by decide, zD_f, by omega⟩
    · simp only [Prod.mk.injEq] at h; obtain ⟨rfl, rfl, rfl⟩ := h
      exact ⟨by omega, by show b ≤ 31; omega, fun k => by have := zD_f k; match k with | 0 => exact this | 1 => exact this | 2 => exact this | k + 3 => exact this, by omega⟩
theorem readS_ok (l : List UInt8) : ∀ (b : Nat) (D : Dl) (z e : Nat), readS l b = (D, z, e) → z ≤ l.length ∧ D.m ≤ 31 ∧ (∀ k, fitS (D.f k)) ∧ (e = 0 ∨ e = 10 ∨ e = 11 ∨ e = 13)
  | 0, D, z, e, h => headR_ok h
  | b + 1, D, z, e, h => by
    rcases hp : readS l b with ⟨D', z', e'⟩
    obtain ⟨i1, i2, i3, i4⟩ := readS_ok l b D' z' e' hp
    by_cases he : e' = 0
    · subst he
      cases hr : D'.m.testBit b
      · rw [readS_skip hp hr] at h
        simp only [Prod.mk.injEq] at h; obtain ⟨rfl, rfl, rfl⟩ := h; exact ⟨i1, i2, i3, i4⟩
      · cases b with
        | zero =>
          rcases hq : pairR (l.drop z') with ⟨x, y, k, e2⟩
          obtain ⟨h1, h2, h3, h4, h5, h6⟩ := pairR_ok hq
          rw [List.length_drop] at h3
          rw [readS_pt hp hr hq] at h
          simp only [Prod.mk.injEq] at h; obtain ⟨rfl, rfl, rfl⟩ := h
          exact ⟨by omega, i2, i3, by omega⟩
        | succ b =>
          rcases hq : fieldR (l.drop z') with ⟨f, k, e2⟩
          obtain ⟨h1, h2, h3, h4, h5, h6⟩ := fieldR_ok hq
          rw [List.length_drop] at h2
          rw [readS_fl hp hr hq] at h
          simp only [Prod.mk.injEq] at h; obtain ⟨rfl, rfl, rfl⟩ := h
          exact ⟨by omega, by rw [set_m]; exact i2, set_f i3 ⟨h1, h5⟩, by omega⟩
    · have := readS_err hp he (b + 1) (by omega)
      rw [this] at h
      simp only [Prod.mk.injEq] at h; obtain ⟨rfl, rfl, rfl⟩ := h; exact ⟨i1, i2, i3, i4⟩
end
section
open Go.RowKit
set_option linter.unusedVariables false
theorem fin3d {D D' : Dl} {b c b' c' : Int} (h1 : D = D') (h2 : b = b') (h3 : c = c') : Ending.returned (.tuple #[D.v, .int .i64 b, .int .i64 c]) = .returned (.tuple #[D'.v, .int .i64 b', .int .i64 c']) := by rw [h1, h2, h3]
theorem fin3e {D : Dl} {z e : Nat} {r : Dl × Nat × Nat} (h : r = (D, z, e)) : Ending.returned (.tuple #[D.v, .int .i64 z, .int .i64 e]) = .returned (.tuple #[r.1.v, .int .i64 r.2.1, .int .i64 r.2.2]) := by rw [h]
end
section
open Go.RowKit
set_option linter.unusedVariables false
theorem pairR_1 {l : List UInt8} {n i x : Nat} (h : get l = (n, i, x)) (hx : ¬ x = 0) : pairR l = (0, 0, 0, x) := by
  unfold pairR; rw [h]; simp only; rw [if_pos (by simpa using hx)]
theorem pairR_2 {l : List UInt8} {n i n' i' x' : Nat} (h : get l = (n, i, 0)) (h' : get (l.drop i) = (n', i', x')) (hx : ¬ x' = 0) : pairR l = (0, 0, 0, x') := by
  unfold pairR; rw [h]; simp only; rw [h']; simp only; rw [if_neg (by simp), if_pos (by simpa using hx)]
theorem pairR_3 {l : List UInt8} {n i n' i' : Nat} (h : get l = (n, i, 0)) (h' : get (l.drop i) = (n', i', 0)) : pairR l = (n, n', i + i', 0) := by
  unfold pairR; rw [h]; simp only; rw [h']; simp only; rw [if_neg (by simp), if_neg (by simp)]
theorem headR_1 {l : List UInt8} {a b k x : Nat} (h : pairR l = (a, b, k, x)) (hx : ¬ x = 0) : headR l = (zD, 0, x) := by
  unfold headR; rw [h]; simp only; rw [if_pos (by simpa using hx)]
theorem headR_2 {l : List UInt8} {a b k : Nat} (h : pairR l = (a, b, k, 0)) (hx : 1000000 < a ∨ b = 0 ∨ 31 < b) : headR l = (zD, 0, 11) := by
  unfold headR; rw [h]; simp only; rw [if_neg (by simp), if_pos hx]
theorem headR_3 {l : List UInt8} {a b k : Nat} (h : pairR l = (a, b, k, 0)) (h1 : a ≤ 1000000) (h2 : 1 ≤ b) (h3 : b ≤ 31) : headR l = (⟨a, b, 0, 0, zF, zF, zF, zF⟩, k, 0) := by
  unfold headR; rw [h]; simp only; rw [if_neg (by simp), if_neg (by omega)]
theorem fieldR_1 {l u : List UInt8} {i x : Nat} (h : texts l 12 = (u, i, x)) (hx : ¬ x = 0) : fieldR l = (zF, 0, x) := by
  unfold fieldR; rw [h]; simp only; rw [if_pos (by simpa using hx)]
theorem fieldR_2 {l u : List UInt8} {i : Nat} (h : texts l 12 = (u, i, 0)) (hu : ¬ u = []) : fieldR l = (⟨0, ⟨u.toArray⟩⟩, i, 0) := by
  unfold fieldR; rw [h]; simp only; rw [if_neg (by simp), if_pos (by simpa using hu)]
theorem fieldR_3 {l : List UInt8} {i n k x : Nat} (h : texts l 12 = ([], i, 0)) (hg : get (l.drop i) = (n, k, x)) (hx : ¬ x = 0) : fieldR l = (zF, 0, x) := by
  unfold fieldR; rw [h]; simp only; rw [hg]; simp only; rw [if_neg (by simp), if_neg (by simp), if_pos (by simpa using hx)]
theorem fieldR_4 {l : List UInt8} {i n k : Nat} (h : texts l 12 = ([], i, 0)) (hg : get (l.drop i) = (n, k, 0)) : fieldR l = (⟨zag n, ⟨#[]⟩⟩, i + k, 0) := by
  unfold fieldR; rw [h]; simp only; rw [hg]; simp only; rw [if_neg (by simp), if_neg (by simp), if_neg (by simp)]
theorem set_far (D : Dl) (b : Nat) (f : Fl) (j : Nat) (hb : b < j) (hj : j < 4) : (D.set b f).f j = D.f j := by
  obtain ⟨id, m, x, y, f0, f1, f2, f3⟩ := D
  match b, j with
  | 0, 1 => rfl
  | 0, 2 => rfl
  | 0, 3 => rfl
  | 1, 2 => rfl
  | 1, 3 => rfl
  | 2, 3 => rfl
  | 0, j + 4 => omega
  | 1, j + 4 => omega
  | 2, j + 4 => omega
  | b + 3, j => omega
theorem readS_z (l : List UInt8) : ∀ (b : Nat) (D : Dl) (z e : Nat), readS l b = (D, z, e) → ∀ j, b ≤ j + 1 → j < 4 → D.f j = zF
  | 0, D, z, e, h, j, hj, hj4 => by
    have h : headR l = (D, z, e) := h
    rcases hg : pairR l with ⟨a, b, i, x⟩
    have hz : zD.f j = zF := by
      match j with
      | 0 => rfl
      | 1 => rfl
      | 2 => rfl
      | j + 3 => rfl
    by_cases hx : x = 0
    · subst hx
      by_cases hb : 1000000 < a ∨ b = 0 ∨ 31 < b
      · rw [headR_2 hg hb] at h; simp only [Prod.mk.injEq] at h; obtain ⟨rfl, _⟩ := h; exact hz
      · rw [headR_3 hg (by omega) (by omega) (by omega)] at h; simp only [Prod.mk.injEq] at h; obtain ⟨rfl, _⟩ := h
        match j with
        | 0 => rfl
        | 1 => rfl
        | 2 => rfl
        | j + 3 => rfl
    · rw [headR_1 hg hx] at h; simp only [Prod.mk.injEq] at h; obtain ⟨rfl, _⟩ := h; exact hz
  | b + 1, D, z, e, h, j, hj, hj4 => by
    rcases hp : readS l b with ⟨D', z', e'⟩
    have ih := readS_z l b D' z' e' hp
    by_cases he : e' = 0
    · subst he
      cases hr : D'.m.testBit b
      · rw [readS_skip hp hr] at h
        simp only [Prod.mk.injEq] at h; obtain ⟨rfl, _⟩ := h; exact ih j (by omega) hj4
      · cases b with
        | zero =>
          rcases hq : pairR (l.drop z') with ⟨x, y, k, e2⟩
          rw [readS_pt hp hr hq] at h
          simp only [Prod.mk.injEq] at h; obtain ⟨rfl, _⟩ := h
          have := ih j (by omega) hj4
          match j with
          | 0 => exact this
          | 1 => exact this
          | 2 => exact this
          | j + 3 => exact this
        | succ b =>
          rcases hq : fieldR (l.drop z') with ⟨f, k, e2⟩
          rw [readS_fl hp hr hq] at h
          simp only [Prod.mk.injEq] at h; obtain ⟨rfl, _⟩ := h
          rw [set_far D' b f j (by omega) hj4]
          exact ih j (by omega) hj4
    · have := readS_err hp he (b + 1) (by omega)
      rw [this] at h
      simp only [Prod.mk.injEq] at h; obtain ⟨rfl, _⟩ := h; exact ih j (by omega) hj4
def Dl.at (D : Dl) (x y : Int) : Dl := { D with x := x, y := y }
def Alt (D : Dl) (x y : Int) : Prop := (x = D.x ∧ y = D.y) ∨ (onB x y = false ∧ onB D.x D.y = false)
theorem alt_isD {D : Dl} {x y : Int} (h : Alt D x y) : isD (D.at x y) = isD D ∧ (isD D = true → D.at x y = D) := by
  rcases h with ⟨rfl, rfl⟩ | ⟨h1, h2⟩
  · exact ⟨rfl, fun _ => rfl⟩
  · have e1 : isD (D.at x y) = false := by
      unfold isD
      rw [show onB (D.at x y).x (D.at x y).y = false from h1]; simp
    have e2 : isD D = false := by unfold isD; rw [h2]; simp
    rw [e1, e2]
    exact ⟨rfl, fun h => by cases h⟩
theorem alt_pt (D : Dl) (x y : Nat) : Alt { D with x := ((min x 64 : Nat) : Int), y := ((min y 64 : Nat) : Int) } ((min x 1048577 : Nat) : Int) ((min y 1048577 : Nat) : Int) := by
  by_cases h : x < 64 ∧ y < 64
  · left
    constructor
    · show ((min x 1048577 : Nat) : Int) = ((min x 64 : Nat) : Int); omega
    · show ((min y 1048577 : Nat) : Int) = ((min y 64 : Nat) : Int); omega
  · right
    constructor
    · cases hc : onB ((min x 1048577 : Nat) : Int) ((min y 1048577 : Nat) : Int)
      · rfl
      · simp [onB, inB] at hc; omega
    · show onB ((min x 64 : Nat) : Int) ((min y 64 : Nat) : Int) = false
      cases hc : onB ((min x 64 : Nat) : Int) ((min y 64 : Nat) : Int)
      · rfl
      · simp [onB, inB] at hc; omega
theorem at_f (D : Dl) (x y : Int) (k : Nat) : (D.at x y).f k = D.f k := by
  match k with
  | 0 => rfl
  | 1 => rfl
  | 2 => rfl
  | k + 3 => rfl
theorem set_alt {D : Dl} {x y : Int} (h : Alt D x y) (k : Nat) (f : Fl) : Alt (D.set k f) x y := by
  match k with
  | 0 => exact h
  | 1 => exact h
  | 2 => exact h
  | k + 3 => exact h
end
section
open Go.RowKit
set_option linter.unusedVariables false
theorem fieldR_at {l : List UInt8} {z i : Nat} {r : Nat × Nat × Nat} (h : get (l.drop (z + i)) = r) : get ((l.drop z).drop i) = r := by rw [List.drop_drop]; exact h
end
section
open Go.RowKit Go.ChangeShapes Go.WideShapes Go.Deep Go.Joins
set_option linter.unusedVariables false
set_option maxRecDepth 100000
def inF (f : Fl) : Prop := f.s.size ≤ maxLen ∧ -9223372036854775808 ≤ f.n ∧ f.n ≤ 9223372036854775807
def inT (t : Th) : Prop := inF t.f0 ∧ inF t.f1 ∧ inF t.f2 ∧ inF t.f3
def inD (d : Dl) : Prop := d.m < 256 ∧ inF d.f0 ∧ inF d.f1 ∧ inF d.f2 ∧ inF d.f3
theorem array11 {α : Type} {cs : Array α} (h : cs.size = 11) : ∃ c0 c1 c2 c3 c4 c5 c6 c7 c8 c9 c10, cs = #[c0, c1, c2, c3, c4, c5, c6, c7, c8, c9, c10] := by
  obtain ⟨l⟩ := cs
  match l, h with
  | [c0, c1, c2, c3, c4, c5, c6, c7, c8, c9, c10], _ => exact ⟨c0, c1, c2, c3, c4, c5, c6, c7, c8, c9, c10, rfl⟩
theorem array12 {α : Type} {cs : Array α} (h : cs.size = 12) : ∃ c0 c1 c2 c3 c4 c5 c6 c7 c8 c9 c10 c11, cs = #[c0, c1, c2, c3, c4, c5, c6, c7, c8, c9, c10, c11] := by
  obtain ⟨l⟩ := cs
  match l, h with
  | [c0, c1, c2, c3, c4, c5, c6, c7, c8, c9, c10, c11], _ => exact ⟨c0, c1, c2, c3, c4, c5, c6, c7, c8, c9, c10, c11, rfl⟩
theorem cellsOf3 : Try.prog.cellsOf 3 = 1 := by kernel_rfl
theorem cellsOf2 : Try.prog.cellsOf 2 = 1 := by kernel_rfl
theorem cellsOf5 : Try.prog.cellsOf 5 = 1 := by kernel_rfl
theorem cellsOf9 : Try.prog.cellsOf 9 = 1 := by kernel_rfl
theorem cellsOf23 : Try.prog.cellsOf 35 = 2 := by kernel_rfl
theorem cellsOf25 : Try.prog.cellsOf 37 = 2 := by kernel_rfl
theorem cellsOf26 : Try.prog.cellsOf 38 = 8 := by kernel_rfl
theorem cellsOf28 : Try.prog.cellsOf 40 = 11 := by kernel_rfl
theorem cellsOf30 : Try.prog.cellsOf 42 = 12 := by kernel_rfl
section
variable {H : Type} {enc : TypeId × Value → H} {w : World} {base : Nat} {spare : Nat → Bool} {held : Bool} {r : Reach} {b0 : Nat} {v : Value} {d : DataW H} {p : List MemPlace}
theorem i64_bounds {n : Int} (h : (Lit.int .i64 n).wf = true) : -9223372036854775808 ≤ n ∧ n ≤ 9223372036854775807 := by
  simp [Lit.wf, IntKind.min, IntKind.max, IntKind.signed, IntKind.bits] at h
  omega
theorem u8_bounds {n : Int} (h : (Lit.int .u8 n).wf = true) : 0 ≤ n ∧ n < 256 := by
  simp [Lit.wf, IntKind.min, IntKind.max, IntKind.signed, IntKind.bits] at h
  omega
theorem trod_fl {fuel : Nat} {c0 c1 : Value} {x : DataW H × List MemPlace} (h : DataW.trod enc Try.prog w base spare held fuel 37 [c0, c1] = some x) : ∃ f : Fl, c0 = .int .i64 f.n ∧ c1 = .string f.s ∧ inF f := by
  obtain ⟨y0, y1, n, _, _, h0, h1⟩ := trod_struct2 Try.underlying37 h
  simp only [cellsOf2, cellsOf9, List.drop_zero, List.take_succ_cons, List.take_zero, List.drop_succ_cons] at h0 h1
  obtain ⟨a, e0, _, w0⟩ := DataW.trod_int Try.underlying2 h0
  obtain ⟨s, e1, _, w1⟩ := DataW.trod_string Try.underlying9 h1
  simp only [List.cons.injEq, and_true] at e0 e1
  exact ⟨⟨a, s⟩, e0, e1, w1, i64_bounds w0⟩
theorem trod_pt {fuel : Nat} {c0 c1 : Value} {x : DataW H × List MemPlace} (h : DataW.trod enc Try.prog w base spare held fuel 35 [c0, c1] = some x) : ∃ a b : Int, c0 = .int .i64 a ∧ c1 = .int .i64 b := by
  obtain ⟨y0, y1, n, _, _, h0, h1⟩ := trod_struct2 Try.underlying35 h
  simp only [cellsOf3, List.drop_zero, List.take_succ_cons, List.take_zero, List.drop_succ_cons] at h0 h1
  obtain ⟨a, e0, _, w0⟩ := DataW.trod_int Try.underlying3 h0
  obtain ⟨b, e1, _, w1⟩ := DataW.trod_int Try.underlying3 h1
  simp only [List.cons.injEq, and_true] at e0 e1
  exact ⟨a, b, e0, e1⟩
theorem trod_fs {fuel : Nat} {c0 c1 c2 c3 c4 c5 c6 c7 : Value} {x : DataW H × List MemPlace} (h : DataW.trod enc Try.prog w base spare held fuel 38 [c0, c1, c2, c3, c4, c5, c6, c7] = some x) :
    ∃ f0 f1 f2 f3 : Fl, c0 = .int .i64 f0.n ∧ c1 = .string f0.s ∧ c2 = .int .i64 f1.n ∧ c3 = .string f1.s ∧ c4 = .int .i64 f2.n ∧ c5 = .string f2.s ∧ c6 = .int .i64 f3.n ∧ c7 = .string f3.s ∧ inF f0 ∧ inF f1 ∧ inF f2 ∧ inF f3 := by
  obtain ⟨xs, m, _, _, _, hl, hf⟩ := DataW.trod_array Try.underlying38 h
  match xs, hl with
  | [y0, y1, y2, y3], _ =>
    have h0 := hf 0 (by omega)
    have h1 := hf 1 (by omega)
    have h2 := hf 2 (by omega)
    have h3 := hf 3 (by omega)
    simp [cellsOf25] at h0 h1 h2 h3
    obtain ⟨f0, a0, b0, i0⟩ := trod_fl h0
    obtain ⟨f1, a1, b1, i1⟩ := trod_fl h1
    obtain ⟨f2, a2, b2, i2⟩ := trod_fl h2
    obtain ⟨f3, a3, b3, i3⟩ := trod_fl h3
    exact ⟨f0, f1, f2, f3, a0, b0, a1, b1, a2, b2, a3, b3, i0, i1, i2, i3⟩
theorem open_fl (hv : Value.okWide Try.prog w r b0 37 v) (h : DataW.Trod enc Try.prog w base spare held 37 v d p) : ∃ f : Fl, v = f.v ∧ inF f := by
  obtain ⟨cs, rfl, hsz⟩ := okWide_struct Try.underlying37 hv
  obtain ⟨c0, c1, rfl⟩ := array2 (hsz.trans cellsOf25)
  obtain ⟨fuel, hf⟩ := h
  obtain ⟨f, rfl, rfl, hi⟩ := trod_fl (by simpa [Value.cells] using hf)
  exact ⟨f, rfl, hi⟩
theorem open_th (hv : Value.okWide Try.prog w r b0 40 v) (h : DataW.Trod enc Try.prog w base spare held 40 v d p) : ∃ t : Th, v = t.v ∧ inT t := by
  obtain ⟨cs, rfl, hsz⟩ := okWide_struct Try.underlying40 hv
  obtain ⟨c0, c1, c2, c3, c4, c5, c6, c7, c8, c9, c10, rfl⟩ := array11 (hsz.trans cellsOf28)
  obtain ⟨fuel, hf⟩ := h
  obtain ⟨y0, y1, y2, n, _, _, h0, h1, h2⟩ := trod_struct3 Try.underlying40 hf
  simp [Value.cells, cellsOf3, cellsOf23, cellsOf26] at h0 h1 h2
  obtain ⟨id, e0, _, _⟩ := DataW.trod_int Try.underlying3 h0
  obtain ⟨x, y, rfl, rfl⟩ := trod_pt h1
  obtain ⟨f0, f1, f2, f3, rfl, rfl, rfl, rfl, rfl, rfl, rfl, rfl, i0, i1, i2, i3⟩ := trod_fs h2
  simp only [List.cons.injEq, and_true] at e0
  subst e0
  exact ⟨⟨id, x, y, f0, f1, f2, f3⟩, rfl, i0, i1, i2, i3⟩
theorem open_dl (hv : Value.okWide Try.prog w r b0 42 v) (h : DataW.Trod enc Try.prog w base spare held 42 v d p) : ∃ t : Dl, v = t.v ∧ inD t := by
  obtain ⟨cs, rfl, hsz⟩ := okWide_struct Try.underlying42 hv
  obtain ⟨c0, c1, c2, c3, c4, c5, c6, c7, c8, c9, c10, c11, rfl⟩ := array12 (hsz.trans cellsOf30)
  obtain ⟨fuel, hf⟩ := h
  obtain ⟨y0, y1, y2, y3, n, _, _, h0, h1, h2, h3⟩ := trod_struct4 Try.underlying42 hf
  simp [Value.cells, cellsOf3, cellsOf5, cellsOf23, cellsOf26] at h0 h1 h2 h3
  obtain ⟨id, e0, _, _⟩ := DataW.trod_int Try.underlying3 h0
  obtain ⟨m, e1, _, w1⟩ := DataW.trod_int Try.underlying5 h1
  obtain ⟨x, y, rfl, rfl⟩ := trod_pt h2
  obtain ⟨f0, f1, f2, f3, rfl, rfl, rfl, rfl, rfl, rfl, rfl, rfl, i0, i1, i2, i3⟩ := trod_fs h3
  simp only [List.cons.injEq, and_true] at e0 e1
  subst e0 e1
  have hm := u8_bounds w1
  obtain ⟨k, rfl⟩ := Int.eq_ofNat_of_zero_le hm.1
  exact ⟨⟨id, k, x, y, f0, f1, f2, f3⟩, rfl, by show k < 256; omega, i0, i1, i2, i3⟩
end
end
end Go.Proofs.Ytjdlcocncacmlaa
