/- Things: plain; rows of things in memory. -/
import Derived.Test.YtpedngbjpbeanaaGreatDoorFK
import Derived.Test.YtpedngbjpbeanaaGreatDoorMB
import Derived.Deep.Slices
namespace Go.Proofs.YtpedngbjpbeanaaGreatDoor
section
open Go.RowKit
set_option linter.unusedVariables false
def isT (t : Th) : Bool := isTK t 4
def wholeD (t : Th) : Dl := ⟨t.id, 31, t.x, t.y, t.f0, t.f1, t.f2, t.f3⟩
def toT (d : Dl) : Th := ⟨d.id, d.x, d.y, d.f0, d.f1, d.f2, d.f3⟩
theorem isT_eq (t : Th) : isT t = (decide (0 ≤ t.id) && decide (t.id ≤ 1000000) && onB t.x t.y && isF t.f0 && isF t.f1 && isF t.f2 && isF t.f3) := rfl
theorem isT_whole (t : Th) : isD (wholeD t) = isT t := by
  rw [isD_eq, isT_eq]
  have t0 : Nat.testBit 31 0 = true := by decide
  have t1 : Nat.testBit 31 (0 + 1) = true := by decide
  have t2 : Nat.testBit 31 (1 + 1) = true := by decide
  have t3 : Nat.testBit 31 (2 + 1) = true := by decide
  have t4 : Nat.testBit 31 (3 + 1) = true := by decide
  simp only [wholeD, okf, Dl.f, t0, t1, t2, t3, t4, Bool.true_or, Bool.and_true]
  simp only [Bool.and_assoc]
  rfl
theorem whole_eq (d : Dl) : eqD d (wholeD (toT d)) = (d.m == 31) := by
  obtain ⟨a, m, x, y, f0, f1, f2, f3⟩ := d
  simp [eqD, wholeD, toT, eqF_self]
def thB (t : Th) : List UInt8 := bytesK (wholeD t) 4
def bytesT (t : Th) : List UInt8 × Nat := if isT t = true then (thB t, 0) else ([], 11)
def readT (l : List UInt8) : Th × Nat × Nat :=
  if (read l).2.2 ≠ 0 then (zT, 0, (read l).2.2) else if (read l).1.m ≠ 31 then (zT, 0, 11) else (toT (read l).1, (read l).2.1, 0)
def okT (L : List Th) (k : Nat) : Bool := isT (L.getD k zT) && (decide (k = 0) || decide ((L.getD (k - 1) zT).id < (L.getD k zT).id))
def good (L : List Th) : Bool := (List.range L.length).all (okT L)
def allT (L : List Th) : List UInt8 × Nat := if 200 < L.length then ([], 13) else if good L = true then (put L.length ++ L.flatMap thB, 0) else ([], 11)
theorem good_no {L : List Th} {k : Nat} (hk : k < L.length) (h : okT L k = false) : good L = false := by
  cases hg : good L
  · rfl
  · unfold good at hg
    rw [List.all_eq_true] at hg
    rw [hg k (List.mem_range.2 hk)] at h
    cases h
theorem good_yes {L : List Th} (h : ∀ k, k < L.length → okT L k = true) : good L = true := by
  unfold good
  rw [List.all_eq_true]
  exact fun k hk => h k (List.mem_range.1 hk)
theorem good_at {L : List Th} (h : good L = true) {k : Nat} (hk : k < L.length) : okT L k = true := by
  unfold good at h
  rw [List.all_eq_true] at h
  exact h k (List.mem_range.2 hk)
def risesB (L : List Th) (t : Th) : Bool := decide (L.length = 0) || decide ((L.getD (L.length - 1) zT).id < t.id)
/- what comes in fits -/
def fitT (t : Th) : Prop := fitF t.f0 ∧ fitF t.f1 ∧ fitF t.f2 ∧ fitF t.f3
theorem isT_small {t : Th} (h : isT t = true) : 0 ≤ t.id ∧ t.id ≤ 1000000 ∧ 0 ≤ t.x ∧ t.x < 64 ∧ 0 ≤ t.y ∧ t.y < 64 ∧ t.f0.s.size ≤ 12 ∧ t.f1.s.size ≤ 12 ∧ t.f2.s.size ≤ 12 ∧ t.f3.s.size ≤ 12 := by
  rw [← isT_whole] at h
  obtain ⟨h1, h2, h3, h4, h5, h6, h7, h8, h9, h10⟩ := isD_small h
  exact ⟨h1, h2, h5, h6, h7, h8, h9 0, h9 1, h9 2, h9 3⟩
theorem whole_f (t : Th) (k : Nat) : (wholeD t).f k = t.f k := by
  match k with
  | 0 => rfl
  | 1 => rfl
  | 2 => rfl
  | k + 3 => rfl
theorem th_f {p : Fl → Prop} {t : Th} (h : p t.f0 ∧ p t.f1 ∧ p t.f2 ∧ p t.f3) (k : Nat) : p (t.f k) := by
  match k with
  | 0 => exact h.1
  | 1 => exact h.2.1
  | 2 => exact h.2.2.1
  | k + 3 => exact h.2.2.2
theorem inT_n {t : Th} (h : inT t) (k : Nat) : -9223372036854775808 ≤ (t.f k).n ∧ (t.f k).n ≤ 9223372036854775807 := (th_f (p := inF) h k).2
theorem inT_s {t : Th} (h : inT t) (k : Nat) : (t.f k).s.size ≤ maxLen := (th_f (p := inF) h k).1
theorem thB_len {t : Th} (h : isT t = true) : (thB t).length ≤ 168 := by
  unfold thB
  exact bytesK_len (fun k => by rw [whole_f]; obtain ⟨_, _, _, _, _, _, a, b, c, d⟩ := isT_small h; exact th_f (p := fun f => f.s.size ≤ 12) ⟨a, b, c, d⟩ k) 4
theorem whole_fit {t : Th} (h : isT t = true) (hi : inT t) : ∀ k, fitF ((wholeD t).f k) := fun k => by
  rw [whole_f]
  obtain ⟨_, _, _, _, _, _, a, b, c, d⟩ := isT_small h
  have := th_f (p := fun f => f.s.size ≤ 12) ⟨a, b, c, d⟩ k
  exact ⟨by omega, inT_n hi k⟩
theorem readT_err {l : List UInt8} {D : Dl} {n e : Nat} (h : read l = (D, n, e)) (he : ¬ e = 0) : readT l = (zT, 0, e) := by
  unfold readT; rw [h]; simp only; rw [if_pos (by simpa using he)]
theorem readT_form {l : List UInt8} {D : Dl} {n : Nat} (h : read l = (D, n, 0)) (hm : ¬ D.m = 31) : readT l = (zT, 0, 11) := by
  unfold readT; rw [h]; simp only; rw [if_neg (by simp), if_pos (by simpa using hm)]
theorem readT_ok {l : List UInt8} {D : Dl} {n : Nat} (h : read l = (D, n, 0)) (hm : D.m = 31) : readT l = (toT D, n, 0) := by
  unfold readT; rw [h]; simp only; rw [if_neg (by simp), if_neg (by simpa using hm)]
theorem readT_back {t : Th} (h : isT t = true) (hi : inT t) (r : List UInt8) : readT (thB t ++ r) = (t, (thB t).length, 0) := by
  have := read_back (wholeD t) (by rw [isT_whole]; exact h) (fun k => by rw [whole_f]; exact inT_n hi k) r
  exact readT_ok this rfl
theorem read_fits (l : List UInt8) : (read l).2.1 ≤ l.length ∧ ((read l).2.2 = 0 → isD (read l).1 = true) ∧ (∀ k, fitS ((read l).1.f k)) ∧ (read l).1.m ≤ 31 ∧ ((read l).2.2 = 0 ∨ (read l).2.2 = 10 ∨ (read l).2.2 = 11 ∨ (read l).2.2 = 13) := by
  rcases hp : readS l 5 with ⟨D, z, e⟩
  obtain ⟨i1, i2, i3, i4⟩ := readS_ok l 5 D z e hp
  by_cases he : e = 0
  · subst he
    cases hd : isD D
    · rw [read_bad hp hd]; exact ⟨by simp, by simp, zD_f, (by decide : zD.m ≤ 31), by simp⟩
    · rw [read_good hp hd]; exact ⟨i1, fun _ => hd, i3, i2, Or.inl rfl⟩
  · rw [read_err hp he (by omega)]
    exact ⟨by simp, fun h => absurd h he, zD_f, (by decide : zD.m ≤ 31), i4⟩
theorem zag_wide {n : Nat} (h : n ≤ 18446744073709551615) : -9223372036854775808 ≤ zag n ∧ zag n ≤ 9223372036854775807 := zag_le n h
def wideF (f : Fl) : Prop := -9223372036854775808 ≤ f.n ∧ f.n ≤ 9223372036854775807
theorem zF_wide : wideF zF := ⟨by decide, by decide⟩
theorem fieldR_n (l : List UInt8) : -9223372036854775808 ≤ (fieldR l).1.n ∧ (fieldR l).1.n ≤ 9223372036854775807 := by
  unfold fieldR
  split
  · exact zF_wide
  · split
    · exact zF_wide
    · split
      · exact zF_wide
      · rcases hg : get (l.drop (texts l 12).2.1) with ⟨n, k, e⟩
        exact zag_wide (get_ok hg).1
theorem zD_wide (k : Nat) : wideF (zD.f k) := by
  match k with
  | 0 => exact zF_wide
  | 1 => exact zF_wide
  | 2 => exact zF_wide
  | k + 3 => exact zF_wide
theorem set_wide {D : Dl} {b : Nat} {f : Fl} (hD : ∀ k, wideF (D.f k)) (hf : wideF f) : ∀ k, wideF ((D.set b f).f k) := by
  intro k
  obtain ⟨id, m, x, y, f0, f1, f2, f3⟩ := D
  have h0 : wideF f0 := hD 0
  have h1 : wideF f1 := hD 1
  have h2 : wideF f2 := hD 2
  have h3 : wideF f3 := hD 3
  match b, k with
  | 0, 0 => exact hf
  | 0, 1 => exact h1
  | 0, 2 => exact h2
  | 0, k + 3 => exact h3
  | 1, 0 => exact h0
  | 1, 1 => exact hf
  | 1, 2 => exact h2
  | 1, k + 3 => exact h3
  | 2, 0 => exact h0
  | 2, 1 => exact h1
  | 2, 2 => exact hf
  | 2, k + 3 => exact h3
  | b + 3, 0 => exact h0
  | b + 3, 1 => exact h1
  | b + 3, 2 => exact h2
  | b + 3, k + 3 => exact hf
theorem headR_wide (l : List UInt8) (k : Nat) : wideF ((headR l).1.f k) := by
  unfold headR
  split
  · exact zD_wide k
  · split
    · exact zD_wide k
    · match k with
      | 0 => exact zF_wide
      | 1 => exact zF_wide
      | 2 => exact zF_wide
      | k + 3 => exact zF_wide
theorem readS_wide (l : List UInt8) : ∀ b k, wideF ((readS l b).1.f k)
  | 0, k => headR_wide l k
  | b + 1, k => by
    have ih := readS_wide l b
    rw [readS]
    split
    · exact ih k
    · split
      · exact ih k
      · split
        · have := ih k
          match k with
          | 0 => exact this
          | 1 => exact this
          | 2 => exact this
          | k + 3 => exact this
        · exact set_wide ih (fieldR_n _) k
theorem read_wide (l : List UInt8) (k : Nat) : wideF ((read l).1.f k) := by
  unfold read
  split
  · exact zD_wide k
  · split
    · exact zD_wide k
    · exact readS_wide l 5 k
theorem readT_fits {l : List UInt8} {t : Th} {n e : Nat} (h : readT l = (t, n, e)) : n ≤ l.length ∧ (e = 0 → isT t = true) ∧ inT t ∧ t.f0.s.size ≤ 12 ∧ t.f1.s.size ≤ 12 ∧ t.f2.s.size ≤ 12 ∧ t.f3.s.size ≤ 12 ∧ (e = 0 ∨ e = 10 ∨ e = 11 ∨ e = 13) ∧ (¬ e = 0 → t = zT ∧ n = 0) := by
  obtain ⟨i1, i2, i3, i4, i5⟩ := read_fits l
  have iw := read_wide l
  rcases hr : read l with ⟨D, m, x⟩
  rw [hr] at i1 i2 i3 i4 i5 iw
  have zin : inT zT := ⟨⟨by decide, by decide, by decide⟩, ⟨by decide, by decide, by decide⟩, ⟨by decide, by decide, by decide⟩, ⟨by decide, by decide, by decide⟩⟩
  by_cases hx : x = 0
  · subst hx
    by_cases hm : D.m = 31
    · rw [readT_ok hr hm] at h
      simp only [Prod.mk.injEq] at h
      obtain ⟨rfl, rfl, rfl⟩ := h
      have w : wholeD (toT D) = D := (eqD_iff.1 ((whole_eq D).trans (by simp [hm]))).symm
      have s0 : D.f0.s.size ≤ 12 := (i3 0).1
      have s1 : D.f1.s.size ≤ 12 := (i3 1).1
      have s2 : D.f2.s.size ≤ 12 := (i3 2).1
      have s3 : D.f3.s.size ≤ 12 := (i3 3).1
      have big : ∀ s : Nat, s ≤ 12 → s ≤ maxLen := fun s h => by unfold maxLen; omega
      exact ⟨i1, fun _ => by rw [← isT_whole, w]; exact i2 rfl, ⟨⟨big _ s0, iw 0⟩, ⟨big _ s1, iw 1⟩, ⟨big _ s2, iw 2⟩, ⟨big _ s3, iw 3⟩⟩, s0, s1, s2, s3, Or.inl rfl, fun h => absurd rfl h⟩
    · rw [readT_form hr hm] at h
      simp only [Prod.mk.injEq] at h
      obtain ⟨rfl, rfl, rfl⟩ := h
      exact ⟨by omega, fun h => by omega, zin, by decide, by decide, by decide, by decide, by omega, fun _ => ⟨rfl, rfl⟩⟩
  · rw [readT_err hr hx] at h
    simp only [Prod.mk.injEq] at h
    obtain ⟨rfl, rfl, rfl⟩ := h
    exact ⟨by omega, fun h => absurd h hx, zin, by decide, by decide, by decide, by decide, i5, fun _ => ⟨rfl, rfl⟩⟩
end
section
open Go.RowKit
set_option linter.unusedVariables false
def Th.cs (t : Th) : List Value := [.int .i64 t.id, .int .i64 t.x, .int .i64 t.y, .int .i64 t.f0.n, .string t.f0.s, .int .i64 t.f1.n, .string t.f1.s, .int .i64 t.f2.n, .string t.f2.s, .int .i64 t.f3.n, .string t.f3.s]
def flatT (l : List Th) : List Value := l.flatMap Th.cs
abbrev cellsT (W : World) (b o : Nat) (t : Th) : Prop :=
  W.cell? ⟨b, o, none⟩ = some (.int .i64 t.id) ∧ W.cell? ⟨b, o + 1, none⟩ = some (.int .i64 t.x) ∧ W.cell? ⟨b, o + 2, none⟩ = some (.int .i64 t.y) ∧ W.cell? ⟨b, o + 3, none⟩ = some (.int .i64 t.f0.n) ∧ W.cell? ⟨b, o + 4, none⟩ = some (.string t.f0.s) ∧ W.cell? ⟨b, o + 5, none⟩ = some (.int .i64 t.f1.n) ∧ W.cell? ⟨b, o + 6, none⟩ = some (.string t.f1.s) ∧ W.cell? ⟨b, o + 7, none⟩ = some (.int .i64 t.f2.n) ∧ W.cell? ⟨b, o + 8, none⟩ = some (.string t.f2.s) ∧ W.cell? ⟨b, o + 9, none⟩ = some (.int .i64 t.f3.n) ∧ W.cell? ⟨b, o + 10, none⟩ = some (.string t.f3.s)
/-- the row behind p, cell by cell; the empty row wants none -/
def RowT (W : World) (p : Option Addr) (L : List Th) : Prop := L = [] ∨ ∃ b off, p = some ⟨b, off, none⟩ ∧ ∀ k t, L[k]? = some t → cellsT W b (off + k * 11) t
theorem cellsT_later {w wr : World} {b o : Nat} {t : Th} (h : cellsT w b o t) (hb : Below w.heap.size w wr) : cellsT wr b o t := by
  obtain ⟨h0, h1, h2, h3, h4, h5, h6, h7, h8, h9, h10⟩ := h
  exact ⟨cell_later hb h0, cell_later hb h1, cell_later hb h2, cell_later hb h3, cell_later hb h4, cell_later hb h5, cell_later hb h6, cell_later hb h7, cell_later hb h8, cell_later hb h9, cell_later hb h10⟩
theorem RowT.later {w wr : World} {p : Option Addr} {L : List Th} (h : RowT w p L) (hb : Below w.heap.size w wr) : RowT wr p L := by
  rcases h with h | ⟨b, off, h, hc⟩
  · exact .inl h
  · exact .inr ⟨b, off, h, fun k t hk => cellsT_later (hc k t hk) hb⟩
theorem RowT.at {w : World} {p : Option Addr} {L : List Th} (h : RowT w p L) {k : Nat} {t : Th} (hk : L[k]? = some t) : ∃ b off, p = some ⟨b, off, none⟩ ∧ cellsT w b (off + k * 11) t := by
  rcases h with h | ⟨b, off, h, hc⟩
  · subst h; simp at hk
  · exact ⟨b, off, h, hc k t hk⟩
theorem RowT.take {w : World} {p : Option Addr} {L : List Th} (h : RowT w p L) (n : Nat) : RowT w p (L.take n) := by
  rcases h with h | ⟨b, off, h, hc⟩
  · left; rw [h]; simp
  · right
    refine ⟨b, off, h, fun k t hk => hc k t ?_⟩
    rw [List.getElem?_take] at hk
    split at hk
    · exact hk
    · cases hk
theorem flatT_length (l : List Th) : (flatT l).length = l.length * 11 := by
  induction l with
  | nil => rfl
  | cons r l ih => simp [flatT, Th.cs] at ih ⊢; omega
theorem flatT_append (l m : List Th) : flatT (l ++ m) = flatT l ++ flatT m := by simp [flatT]
theorem flatT_one (t : Th) : flatT [t] = t.cs := by simp [flatT]
theorem flatT_get (l : List Th) (k : Nat) (t : Th) (h : l[k]? = some t) (j : Nat) (hj : j < 11) : (flatT l)[k * 11 + j]? = t.cs[j]? := by
  induction l generalizing k with
  | nil => simp at h
  | cons a l ih =>
    have e : flatT (a :: l) = a.cs ++ flatT l := rfl
    have hl : ∀ t : Th, t.cs.length = 11 := fun t => rfl
    cases k with
    | zero =>
      simp at h
      subst h
      rw [e, Nat.zero_mul, Nat.zero_add, List.getElem?_append_left (by rw [hl]; exact hj)]
    | succ k =>
      have := ih k (by simpa using h)
      rw [e, List.getElem?_append_right (by rw [hl]; omega), hl, show (k + 1) * 11 + j - 11 = k * 11 + j by omega]
      exact this
theorem cellsT_of {W : World} {b o : Nat} {t : Th} (h : ∀ j, j < 11 → W.cell? ⟨b, o + j, none⟩ = t.cs[j]?) : cellsT W b o t :=
  ⟨h 0 (by omega), h 1 (by omega), h 2 (by omega), h 3 (by omega), h 4 (by omega), h 5 (by omega), h 6 (by omega), h 7 (by omega), h 8 (by omega), h 9 (by omega), h 10 (by omega)⟩
theorem row_own {W : World} {base n : Nat} {p : Option Addr} {cap : Nat} {L : List Th} (h : W.ownsRow base 50 11 (.slice p n cap) n (flatT L)) (hn : n = L.length) : RowT W p L := by
  subst hn
  by_cases h0 : L = []
  · exact .inl h0
  · right
    have hpos : 0 < L.length := List.length_pos_iff.2 h0
    rcases h.2 with ⟨h', h0⟩ | ⟨g, cap', cur, h', _⟩
    · omega
    · simp only [Value.slice.injEq] at h'
      obtain ⟨rfl, _, rfl⟩ := h'
      refine ⟨g, 0, rfl, fun k t hk => cellsT_of fun j hj => ?_⟩
      have hk' : k < L.length := (List.getElem?_eq_some_iff.1 hk).1
      rw [Nat.zero_add, h.cellAt (k * 11 + j) (by omega)]
      exact flatT_get L k t hk j hj
theorem owns_slice {W : World} {base : Nat} {e : TypeId} {size : Nat} {v : Value} {n : Nat} {xs : List Value} (h : W.ownsRow base e size v n xs) : ∃ p cap, v = .slice p n cap := by
  rcases h.2 with ⟨rfl, rfl⟩ | ⟨g, cap, cur, rfl, _⟩
  · exact ⟨_, _, rfl⟩
  · exact ⟨_, _, rfl⟩
theorem get_th (L : List Th) (k : Nat) (hk : k < L.length) : ∃ t, L[k]? = some t := ⟨L[k], by simp [hk]⟩
theorem getD_of {L : List Th} {k : Nat} {t : Th} (h : L[k]? = some t) : L.getD k zT = t := by simp [List.getD, h]
end
end Go.Proofs.YtpedngbjpbeanaaGreatDoor
