/- Plain facts on things and rows of things, of no program: who is one, their bytes, what is read; how rows lie in memory. Contracts of small functions of the package thing and of the reference: numbers and servers, Same, whole, Is. Rows of things in memory: what the caller handed in, and what a call made; the last one's number. Contracts over rows of things: the statements' fewThings; rises; the reference's SameAll. Contracts of Is, Bytes and All of the package thing, and of the reference's AllBytes. Contracts of All of the package thing and of the reference's AllBytes: all things' bytes one behind the other, or what is wrong. Contract of the reference's AllBytes: all things' bytes one behind the other, or what is wrong. Contracts of Read of the package thing and of the reference's ReadThing: the thing at the beginning of bytes, how many they are, or what is wrong. Plain facts on reading rows of things: step by step; what was written is read. Contracts of Some of the package thing and of the reference: the row of things at the beginning of bytes, in memory of its own, how many bytes they are, or what is wrong. What a row of things is that comes in: its things fit, it lies cell by cell. -/
import Derived.Test.YtjdlcocncacmlaaFK
import Derived.Test.YtjdlcocncacmlaaFC
import Derived.Deep.Slices
namespace Go.Proofs.Ytjdlcocncacmlaa
section
open Go.RowKit
set_option linter.unusedVariables false
def isT (t : Th) : Bool := isTK t 4
def wholeD (t : Th) : Dl := ⟨t.id, 31, t.x, t.y, t.f0, t.f1, t.f2, t.f3⟩
def toT (d : Dl) : Th := ⟨d.id, d.x, d.y, d.f0, d.f1, d.f2, d.f3⟩
theorem isT_eq (t : Th) : isT t = (decide (0 ≤ t.id) && decide (t.id ≤ 1000000) && onB t.x t.y && isF t.f0 && isF t.f1 && isF t.f2 && isF t.f3) := rfl
theorem isT_whole (t : Th) : isD (wholeD t) = isT t := by
  rw [isD_eq, isT_eq]
  have t0 : Nat.testBit 31 0 = true := by decide
  have t1 : Nat.testBit 31 (0 + 1) = true := by decide
  have t2 : Nat.testBit 31 (1 + 1) = true := by decide
  have t3 : Nat.testBit 31 (2 + 1) = true := by decide
  have t4 : Nat.testBit 31 (3 + 1) = true := by decide
  simp only [wholeD, okf, Dl.f, t0, t1, t2, t3, t4, Bool.true_or, Bool.and_true]
  simp only [Bool.and_assoc]
  rfl
theorem whole_eq (d : Dl) : eqD d (wholeD (toT d)) = (d.m == 31) := by
  obtain ⟨a, m, x, y, f0, f1, f2, f3⟩ := d
  simp [eqD, wholeD, toT, eqF_self]
def thB (t : Th) : List UInt8 := bytesK (wholeD t) 4
def bytesT (t : Th) : List UInt8 × Nat := if isT t = true then (thB t, 0) else ([], 11)
def readT (l : List UInt8) : Th × Nat × Nat :=
  if (read l).2.2 ≠ 0 then (zT, 0, (read l).2.2) else if (read l).1.m ≠ 31 then (zT, 0, 11) else (toT (read l).1, (read l).2.1, 0)
def okT (L : List Th) (k : Nat) : Bool := isT (L.getD k zT) && (decide (k = 0) || decide ((L.getD (k - 1) zT).id < (L.getD k zT).id))
def good (L : List Th) : Bool := (List.range L.length).all (okT L)
def allT (L : List Th) : List UInt8 × Nat := if 200 < L.length then ([], 13) else if good L = true then (put L.length ++ L.flatMap thB, 0) else ([], 11)
theorem good_no {L : List Th} {k : Nat} (hk : k < L.length) (h : okT L k = false) : good L = false := by
  cases hg : good L
  · rfl
  · unfold good at hg
    rw [List.all_eq_true] at hg
    rw [hg k (List.mem_range.2 hk)] at h
    cases h
theorem good_yes {L : List Th} (h : ∀ k, k < L.length → okT L k = true) : good L = true := by
  unfold good
  rw [List.all_eq_true]
  exact fun k hk => h k (List.mem_range.1 hk)
theorem good_at {L : List Th} (h : good L = true) {k : Nat} (hk : k < L.length) : okT L k = true := by
  unfold good at h
  rw [List.all_eq_true] at h
  exact h k (List.mem_range.2 hk)
def risesB (L : List Th) (t : Th) : Bool := decide (L.length = 0) || decide ((L.getD (L.length - 1) zT).id < t.id)
/- what comes in fits -/
def fitT (t : Th) : Prop := fitF t.f0 ∧ fitF t.f1 ∧ fitF t.f2 ∧ fitF t.f3
theorem isT_small {t : Th} (h : isT t = true) : 0 ≤ t.id ∧ t.id ≤ 1000000 ∧ 0 ≤ t.x ∧ t.x < 64 ∧ 0 ≤ t.y ∧ t.y < 64 ∧ t.f0.s.size ≤ 12 ∧ t.f1.s.size ≤ 12 ∧ t.f2.s.size ≤ 12 ∧ t.f3.s.size ≤ 12 := by
  rw [← isT_whole] at h
  obtain ⟨h1, h2, h3, h4, h5, h6, h7, h8, h9, h10⟩ := isD_small h
  exact ⟨h1, h2, h5, h6, h7, h8, h9 0, h9 1, h9 2, h9 3⟩
theorem whole_f (t : Th) (k : Nat) : (wholeD t).f k = t.f k := by
  match k with
  | 0 => rfl
  | 1 => rfl
  | 2 => rfl
  | k + 3 => rfl
theorem th_f {p : Fl → Prop} {t : Th} (h : p t.f0 ∧ p t.f1 ∧ p t.f2 ∧ p t.f3) (k : Nat) : p (t.f k) := by
  match k with
  | 0 => exact h.1
  | 1 => exact h.2.1
  | 2 => exact h.2.2.1
  | k + 3 => exact h.2.2.2
theorem inT_n {t : Th} (h : inT t) (k : Nat) : -9223372036854775808 ≤ (t.f k).n ∧ (t.f k).n ≤ 9223372036854775807 := (th_f (p := inF) h k).2
theorem inT_s {t : Th} (h : inT t) (k : Nat) : (t.f k).s.size ≤ maxLen := (th_f (p := inF) h k).1
theorem thB_len {t : Th} (h : isT t = true) : (thB t).length ≤ 168 := by
  unfold thB
  exact bytesK_len (fun k => by rw [whole_f]; obtain ⟨_, _, _, _, _, _, a, b, c, d⟩ := isT_small h; exact th_f (p := fun f => f.s.size ≤ 12) ⟨a, b, c, d⟩ k) 4
theorem whole_fit {t : Th} (h : isT t = true) (hi : inT t) : ∀ k, fitF ((wholeD t).f k) := fun k => by
  rw [whole_f]
  obtain ⟨_, _, _, _, _, _, a, b, c, d⟩ := isT_small h
  have := th_f (p := fun f => f.s.size ≤ 12) ⟨a, b, c, d⟩ k
  exact ⟨by omega, inT_n hi k⟩
theorem readT_err {l : List UInt8} {D : Dl} {n e : Nat} (h : read l = (D, n, e)) (he : ¬ e = 0) : readT l = (zT, 0, e) := by
  unfold readT; rw [h]; simp only; rw [if_pos (by simpa using he)]
theorem readT_form {l : List UInt8} {D : Dl} {n : Nat} (h : read l = (D, n, 0)) (hm : ¬ D.m = 31) : readT l = (zT, 0, 11) := by
  unfold readT; rw [h]; simp only; rw [if_neg (by simp), if_pos (by simpa using hm)]
theorem readT_ok {l : List UInt8} {D : Dl} {n : Nat} (h : read l = (D, n, 0)) (hm : D.m = 31) : readT l = (toT D, n, 0) := by
  unfold readT; rw [h]; simp only; rw [if_neg (by simp), if_neg (by simpa using hm)]
theorem readT_back {t : Th} (h : isT t = true) (hi : inT t) (r : List UInt8) : readT (thB t ++ r) = (t, (thB t).length, 0) := by
  have := read_back (wholeD t) (by rw [isT_whole]; exact h) (fun k => by rw [whole_f]; exact inT_n hi k) r
  exact readT_ok this rfl
theorem read_fits (l : List UInt8) : (read l).2.1 ≤ l.length ∧ ((read l).2.2 = 0 → isD (read l).1 = true) ∧ (∀ k, fitS ((read l).1.f k)) ∧ (read l).1.m ≤ 31 ∧ ((read l).2.2 = 0 ∨ (read l).2.2 = 10 ∨ (read l).2.2 = 11 ∨ (read l).2.2 = 13) := by
  rcases hp : readS l 5 with ⟨D, z, e⟩
  obtain ⟨i1, i2, i3, i4⟩ := readS_ok l 5 D z e hp
  by_cases he : e = 0
  · subst he
    cases hd : isD D
    · rw [read_bad hp hd]; exact ⟨by simp, by simp, zD_f, (by decide : zD.m ≤ 31), by simp⟩
    · rw [read_good hp hd]; exact ⟨i1, fun _ => hd, i3, i2, Or.inl rfl⟩
  · rw [read_err hp he (by omega)]
    exact ⟨by simp, fun h => absurd h he, zD_f, (by decide : zD.m ≤ 31), i4⟩
theorem zag_wide {n : Nat} (h : n ≤ 18446744073709551615) : -9223372036854775808 ≤ zag n ∧ zag n ≤ 9223372036854775807 := zag_le n h
def wideF (f : Fl) : Prop := -9223372036854775808 ≤ f.n ∧ f.n ≤ 9223372036854775807
theorem zF_wide : wideF zF := ⟨by decide, by decide⟩
theorem fieldR_n (l : List UInt8) : -9223372036854775808 ≤ (fieldR l).1.n ∧ (fieldR l).1.n ≤ 9223372036854775807 := by
  unfold fieldR
  split
  · exact zF_wide
  · split
    · exact zF_wide
    · split
      · exact zF_wide
      · rcases hg : get (l.drop (texts l 12).2.1) with ⟨n, k, e⟩
        exact zag_wide (get_ok hg).1
theorem zD_wide (k : Nat) : wideF (zD.f k) := by
  match k with
  | 0 => exact zF_wide
  | 1 => exact zF_wide
  | 2 => exact zF_wide
  | k + 3 => exact zF_wide
theorem set_wide {D : Dl} {b : Nat} {f : Fl} (hD : ∀ k, wideF (D.f k)) (hf : wideF f) : ∀ k, wideF ((D.set b f).f k) := by
  intro k
  obtain ⟨id, m, x, y, f0, f1, f2, f3⟩ := D
  have h0 : wideF f0 := hD 0
  have h1 : wideF f1 := hD 1
  have h2 : wideF f2 := hD 2
  have h3 : wideF f3 := hD 3
  match b, k with
  | 0, 0 => exact hf
  | 0, 1 => exact h1
  | 0, 2 => exact h2
  | 0, k + 3 => exact h3
  | 1, 0 => exact h0
  | 1, 1 => exact hf
  | 1, 2 => exact h2
  | 1, k + 3 => exact h3
  | 2, 0 => exact h0
  | 2, 1 => exact h1
  | 2, 2 => exact hf
  | 2, k + 3 => exact h3
  | b + 3, 0 => exact h0
  | b + 3, 1 => exact h1
  | b + 3, 2 => exact h2
  | b + 3, k + 3 => exact hf
theorem headR_wide (l : List UInt8) (k : Nat) : wideF ((headR l).1.f k) := by
  unfold headR
  split
  · exact zD_wide k
  · split
    · exact zD_wide k
    · match k with
      | 0 => exact zF_wide
      | 1 => exact zF_wide
      | 2 => exact zF_wide
      | k + 3 => exact zF_wide
theorem readS_wide (l : List UInt8) : ∀ b k, wideF ((readS l b).1.f k)
  | 0, k => headR_wide l k
  | b + 1, k => by
    have ih := readS_wide l b
    rw [readS]
    split
    · exact ih k
    · split
      · exact ih k
      · split
        · have := ih k
          match k with
          | 0 => exact this
          | 1 => exact this
          | 2 => exact this
          | k + 3 => exact this
        · exact set_wide ih (fieldR_n _) k
theorem read_wide (l : List UInt8) (k : Nat) : wideF ((read l).1.f k) := by
  unfold read
  split
  · exact zD_wide k
  · split
    · exact zD_wide k
    · exact readS_wide l 5 k
theorem readT_fits {l : List UInt8} {t : Th} {n e : Nat} (h : readT l = (t, n, e)) : n ≤ l.length ∧ (e = 0 → isT t = true) ∧ inT t ∧ t.f0.s.size ≤ 12 ∧ t.f1.s.size ≤ 12 ∧ t.f2.s.size ≤ 12 ∧ t.f3.s.size ≤ 12 ∧ (e = 0 ∨ e = 10 ∨ e = 11 ∨ e = 13) ∧ (¬ e = 0 → t = zT ∧ n = 0) := by
  obtain ⟨i1, i2, i3, i4, i5⟩ := read_fits l
  have iw := read_wide l
  rcases hr : read l with ⟨D, m, x⟩
  rw [hr] at i1 i2 i3 i4 i5 iw
  have zin : inT zT := ⟨⟨by decide, by decide, by decide⟩, ⟨by decide, by decide, by decide⟩, ⟨by decide, by decide, by decide⟩, ⟨by decide, by decide, by decide⟩⟩
  by_cases hx : x = 0
  · subst hx
    by_cases hm : D.m = 31
    · rw [readT_ok hr hm] at h
      simp only [Prod.mk.injEq] at h
      obtain ⟨rfl, rfl, rfl⟩ := h
      have w : wholeD (toT D) = D := (eqD_iff.1 ((whole_eq D).trans (by simp [hm]))).symm
      have s0 : D.f0.s.size ≤ 12 := (i3 0).1
      have s1 : D.f1.s.size ≤ 12 := (i3 1).1
      have s2 : D.f2.s.size ≤ 12 := (i3 2).1
      have s3 : D.f3.s.size ≤ 12 := (i3 3).1
      have big : ∀ s : Nat, s ≤ 12 → s ≤ maxLen := fun s h => by unfold maxLen; omega
      exact ⟨i1, fun _ => by rw [← isT_whole, w]; exact i2 rfl, ⟨⟨big _ s0, iw 0⟩, ⟨big _ s1, iw 1⟩, ⟨big _ s2, iw 2⟩, ⟨big _ s3, iw 3⟩⟩, s0, s1, s2, s3, Or.inl rfl, fun h => absurd rfl h⟩
    · rw [readT_form hr hm] at h
      simp only [Prod.mk.injEq] at h
      obtain ⟨rfl, rfl, rfl⟩ := h
      exact ⟨by omega, fun h => by omega, zin, by decide, by decide, by decide, by decide, by omega, fun _ => ⟨rfl, rfl⟩⟩
  · rw [readT_err hr hx] at h
    simp only [Prod.mk.injEq] at h
    obtain ⟨rfl, rfl, rfl⟩ := h
    exact ⟨by omega, fun h => absurd h hx, zin, by decide, by decide, by decide, by decide, i5, fun _ => ⟨rfl, rfl⟩⟩
end
section
open Go.RowKit
set_option linter.unusedVariables false
def heldI (n top : Int) : Int := min (max n 0) top
def serverI (id : Int) : Int := max id 0 % 4
def numberI (s n : Int) : Int := 4 * heldI n 200000 + heldI s 3
theorem heldI_le (n : Int) {top : Int} (ht : 0 ≤ top) : 0 ≤ heldI n top ∧ heldI n top ≤ top := by unfold heldI; omega
end
section
open Go.RowKit
set_option linter.unusedVariables false
def Th.cs (t : Th) : List Value := [.int .i64 t.id, .int .i64 t.x, .int .i64 t.y, .int .i64 t.f0.n, .string t.f0.s, .int .i64 t.f1.n, .string t.f1.s, .int .i64 t.f2.n, .string t.f2.s, .int .i64 t.f3.n, .string t.f3.s]
def flatT (l : List Th) : List Value := l.flatMap Th.cs
abbrev cellsT (W : World) (b o : Nat) (t : Th) : Prop :=
  W.cell? ⟨b, o, none⟩ = some (.int .i64 t.id) ∧ W.cell? ⟨b, o + 1, none⟩ = some (.int .i64 t.x) ∧ W.cell? ⟨b, o + 2, none⟩ = some (.int .i64 t.y) ∧ W.cell? ⟨b, o + 3, none⟩ = some (.int .i64 t.f0.n) ∧ W.cell? ⟨b, o + 4, none⟩ = some (.string t.f0.s) ∧ W.cell? ⟨b, o + 5, none⟩ = some (.int .i64 t.f1.n) ∧ W.cell? ⟨b, o + 6, none⟩ = some (.string t.f1.s) ∧ W.cell? ⟨b, o + 7, none⟩ = some (.int .i64 t.f2.n) ∧ W.cell? ⟨b, o + 8, none⟩ = some (.string t.f2.s) ∧ W.cell? ⟨b, o + 9, none⟩ = some (.int .i64 t.f3.n) ∧ W.cell? ⟨b, o + 10, none⟩ = some (.string t.f3.s)
/-- the row behind p, cell by cell; the empty row wants none -/
def RowT (W : World) (p : Option Addr) (L : List Th) : Prop := L = [] ∨ ∃ b off, p = some ⟨b, off, none⟩ ∧ ∀ k t, L[k]? = some t → cellsT W b (off + k * 11) t
theorem cellsT_later {w wr : World} {b o : Nat} {t : Th} (h : cellsT w b o t) (hb : Below w.heap.size w wr) : cellsT wr b o t := by
  obtain ⟨h0, h1, h2, h3, h4, h5, h6, h7, h8, h9, h10⟩ := h
  exact ⟨cell_later hb h0, cell_later hb h1, cell_later hb h2, cell_later hb h3, cell_later hb h4, cell_later hb h5, cell_later hb h6, cell_later hb h7, cell_later hb h8, cell_later hb h9, cell_later hb h10⟩
theorem RowT.later {w wr : World} {p : Option Addr} {L : List Th} (h : RowT w p L) (hb : Below w.heap.size w wr) : RowT wr p L := by
  rcases h with h | ⟨b, off, h, hc⟩
  · exact .inl h
  · exact .inr ⟨b, off, h, fun k t hk => cellsT_later (hc k t hk) hb⟩
theorem RowT.at {w : World} {p : Option Addr} {L : List Th} (h : RowT w p L) {k : Nat} {t : Th} (hk : L[k]? = some t) : ∃ b off, p = some ⟨b, off, none⟩ ∧ cellsT w b (off + k * 11) t := by
  rcases h with h | ⟨b, off, h, hc⟩
  · subst h; simp at hk
  · exact ⟨b, off, h, hc k t hk⟩
theorem RowT.take {w : World} {p : Option Addr} {L : List Th} (h : RowT w p L) (n : Nat) : RowT w p (L.take n) := by
  rcases h with h | ⟨b, off, h, hc⟩
  · left; rw [h]; simp
  · right
    refine ⟨b, off, h, fun k t hk => hc k t ?_⟩
    rw [List.getElem?_take] at hk
    split at hk
    · exact hk
    · cases hk
theorem flatT_length (l : List Th) : (flatT l).length = l.length * 11 := by
  induction l with
  | nil => rfl
  | cons r l ih => simp [flatT, Th.cs] at ih ⊢; omega
theorem flatT_append (l m : List Th) : flatT (l ++ m) = flatT l ++ flatT m := by simp [flatT]
theorem flatT_one (t : Th) : flatT [t] = t.cs := by simp [flatT]
theorem flatT_get (l : List Th) (k : Nat) (t : Th) (h : l[k]? = some t) (j : Nat) (hj : j < 11) : (flatT l)[k * 11 + j]? = t.cs[j]? := by
  induction l generalizing k with
  | nil => simp at h
  | cons a l ih =>
    have e : flatT (a :: l) = a.cs ++ flatT l := rfl
    have hl : ∀ t : Th, t.cs.length = 11 := fun t => rfl
    cases k with
    | zero =>
      simp at h
      subst h
      rw [e, Nat.zero_mul, Nat.zero_add, List.getElem?_append_left (by rw [hl]; exact hj)]
    | succ k =>
      have := ih k (by simpa using h)
      rw [e, List.getElem?_append_right (by rw [hl]; omega), hl, show (k + 1) * 11 + j - 11 = k * 11 + j by omega]
      exact this
theorem cellsT_of {W : World} {b o : Nat} {t : Th} (h : ∀ j, j < 11 → W.cell? ⟨b, o + j, none⟩ = t.cs[j]?) : cellsT W b o t :=
  ⟨h 0 (by omega), h 1 (by omega), h 2 (by omega), h 3 (by omega), h 4 (by omega), h 5 (by omega), h 6 (by omega), h 7 (by omega), h 8 (by omega), h 9 (by omega), h 10 (by omega)⟩
theorem row_own {W : World} {base n : Nat} {p : Option Addr} {cap : Nat} {L : List Th} (h : W.ownsRow base 40 11 (.slice p n cap) n (flatT L)) (hn : n = L.length) : RowT W p L := by
  subst hn
  by_cases h0 : L = []
  · exact .inl h0
  · right
    have hpos : 0 < L.length := List.length_pos_iff.2 h0
    rcases h.2 with ⟨h', h0⟩ | ⟨g, cap', cur, h', _⟩
    · omega
    · simp only [Value.slice.injEq] at h'
      obtain ⟨rfl, _, rfl⟩ := h'
      refine ⟨g, 0, rfl, fun k t hk => cellsT_of fun j hj => ?_⟩
      have hk' : k < L.length := (List.getElem?_eq_some_iff.1 hk).1
      rw [Nat.zero_add, h.cellAt (k * 11 + j) (by omega)]
      exact flatT_get L k t hk j hj
theorem owns_slice {W : World} {base : Nat} {e : TypeId} {size : Nat} {v : Value} {n : Nat} {xs : List Value} (h : W.ownsRow base e size v n xs) : ∃ p cap, v = .slice p n cap := by
  rcases h.2 with ⟨rfl, rfl⟩ | ⟨g, cap, cur, rfl, _⟩
  · exact ⟨_, _, rfl⟩
  · exact ⟨_, _, rfl⟩
theorem owns_on {base : Nat} {e : TypeId} {size : Nat} {v : Value} {n : Nat} {xs : List Value} {W W' : World} (h : W.ownsRow base e size v n xs) (hb : Below W.heap.size W W') : W'.ownsRow base e size v n xs :=
  h.kept (row := none) ⟨hb.os, hb.tape, hb.output, hb.size, fun k hk _ => hb.block k hk⟩ (by cases hv : v.ownBlock <;> simp)
theorem get_th (L : List Th) (k : Nat) (hk : k < L.length) : ∃ t, L[k]? = some t := ⟨L[k], by simp [hk]⟩
theorem getD_of {L : List Th} {k : Nat} {t : Th} (h : L[k]? = some t) : L.getD k zT = t := by simp [List.getD, h]
end
section
open Go.RowKit
set_option linter.unusedVariables false
def fewL (L : List Th) : Bool := L.all (fun t => few4 t.f) && decide (L.length ≤ 30)
theorem fewL_no {L : List Th} {k : Nat} {t : Th} (h : L[k]? = some t) (hf : few4 t.f = false) : fewL L = false := by
  have hm := List.mem_of_getElem? h
  have : L.all (fun t => few4 t.f) = false := by
    rw [List.all_eq_false]
    exact ⟨t, hm, by simp [hf]⟩
  unfold fewL
  rw [this]; rfl
theorem fewL_yes {L : List Th} (h : ∀ j t, j < L.length → L[j]? = some t → few4 t.f = true) : fewL L = decide ((L.length : Int) ≤ 30) := by
  have : L.all (fun t => few4 t.f) = true := by
    rw [List.all_eq_true]
    intro t ht
    obtain ⟨j, hj, rfl⟩ := List.getElem_of_mem ht
    exact h j _ hj (by simp [hj])
  unfold fewL
  rw [this, Bool.true_and]
  rw [Bool.eq_iff_iff]
  simp
  omega
theorem fewT_at {t : Th} {r : Bool} (h : few4 t.f = r) (w : World) (hi : inT t) : Calls Try.prog 20 #[t.v] w fun e w' => e = .returned (.bool r) ∧ Below w.heap.size w w' := by
  rw [← h]; exact few_thing w t hi
theorem few_things (w : World) (p : Option Addr) (cap : Nat) (L : List Th) (hr : RowT w p L) (hi : ∀ t ∈ L, inT t) (hm : L.length ≤ maxLen) :
    Calls Try.prog 9 #[.slice p L.length cap] w fun e w' => e = .returned (.bool (fewL L)) ∧ Below w.heap.size w w' := by
  obtain ⟨n, hn⟩ : ∃ n, Hid (L.length = n) := ⟨_, rfl⟩
  rw [hn.out] at hm ⊢
  have hm' : n ≤ 9223372036854775807 := by unfold maxLen at hm; omega
  go_enter Try.func9, Try.ntmps9
  go_wp2_with fail
  go_loopw [3] (fun i wr => ∃ k : Nat, k ≤ n ∧ i = .int .i64 k ∧ (∀ j t, j < k → L[j]? = some t → few4 t.f = true) ∧ Below w.heap.size w wr) (fun i _ => n - (intOf i).toNat)
  case atStart => exact ⟨0, by omega, rfl, fun j t hj => by omega, Below.refl _ _⟩
  case round =>
    obtain ⟨k, hk, rfl, hok, hb⟩ := hrel
    have HO := hid hok
    clear hok
    by_cases hlt : k < n
    · have hlt' : (k : Int) < (n : Int) := by omega
      obtain ⟨t, ht⟩ := get_th L k (by rw [hn.out]; exact hlt)
      obtain ⟨b, off, rfl, hc⟩ := (hr.later hb).at ht
      have HT := hid ht
      clear ht
      have hit := hi t (List.mem_of_getElem? HT.out)
      obtain ⟨q, hq⟩ : ∃ q, Hid (few4 t.f = q) := ⟨_, rfl⟩
      go_wp2_with fail
      refine (fewT_at hq.out _ hit).mono ?_
      rintro x w2 ⟨rfl, hb2⟩
      have hB := below_on hb hb2
      clear hb2 hb hc
      cases q
      · go_wp2_with fail
        go_ret; exact ⟨congrArg (fun x => Ending.returned (.bool x)) (fewL_no HT.out hq.out).symm, hB⟩
      · go_wp2_with fail
        go_roundw
        case rel =>
          refine ⟨k + 1, by omega, by go_num, fun j u hj hu => ?_, hB⟩
          by_cases e : j = k
          · subst e
            have := Option.some.inj (HT.out.symm.trans hu)
            subst this
            exact hq.out
          · exact HO.out j u (by omega) hu
        case measure => simp [intOf]; omega
    · obtain rfl : k = n := by omega
      have hlt' : ¬ (k : Int) < (k : Int) := by omega
      go_wp2_with fail
      go_ret
      exact ⟨congrArg (fun x => Ending.returned (.bool x)) (by rw [fewL_yes (fun j t hj => HO.out j t (by rw [← hn.out]; exact hj)), hn.out]), hb⟩
theorem risesB_one {L : List Th} {m : Nat} {u t : Th} (hL : L.length = m + 1) (hu : L[m]? = some u) : risesB L t = decide (u.id < t.id) := by
  unfold risesB
  rw [hL, show m + 1 - 1 = m by omega, getD_of hu]
  simp
def sameL (L M : List Th) : Bool := decide (L.length = M.length) && (List.range L.length).all (fun k => eqT (L.getD k zT) (M.getD k zT))
theorem sameL_self (L : List Th) : sameL L L = true := by simp [sameL, eqT_self]
theorem sameL_no {L M : List Th} {k : Nat} {t u : Th} (ht : L[k]? = some t) (hu : M[k]? = some u) (h : eqT t u = false) : sameL L M = false := by
  have hk : k < L.length := (List.getElem?_eq_some_iff.1 ht).1
  have : (List.range L.length).all (fun k => eqT (L.getD k zT) (M.getD k zT)) = false := by
    rw [List.all_eq_false]
    exact ⟨k, List.mem_range.2 hk, by rw [getD_of ht, getD_of hu, h]; simp⟩
  unfold sameL
  rw [this, Bool.and_false]
theorem sameL_yes {L M : List Th} (hl : L.length = M.length) (h : ∀ (k : Nat) (t u : Th), L[k]? = some t → M[k]? = some u → eqT t u = true) : sameL L M = true := by
  unfold sameL
  rw [Bool.and_eq_true, decide_eq_true_eq, List.all_eq_true]
  refine ⟨hl, fun k hk => ?_⟩
  have hk := List.mem_range.1 hk
  obtain ⟨t, ht⟩ := get_th L k hk
  obtain ⟨u, hu⟩ := get_th M k (by omega)
  rw [getD_of ht, getD_of hu]
  exact h k t u ht hu
set_option maxHeartbeats 1000000 in
theorem ref_sameAll (w : World) (p p' : Option Addr) (cap cap' : Nat) (L M : List Th) (hr : RowT w p L) (hr' : RowT w p' M) (hm : L.length ≤ maxLen) (hm' : M.length ≤ maxLen) :
    Calls Try.prog 14 #[.slice p L.length cap, .slice p' M.length cap'] w fun e w' => e = .returned (.bool (sameL L M)) ∧ Below w.heap.size w w' := by
  by_cases hl : L.length = M.length
  · obtain ⟨n, hn⟩ : ∃ n, Hid (M.length = n) := ⟨_, rfl⟩
    have hl' := hid hl
    rw [hl, hn.out]
    rw [hn.out] at hm'
    have hm2 : n ≤ 9223372036854775807 := by unfold maxLen at hm'; omega
    have hnn : ((n : Int) != (n : Int)) = false := by simp
    clear hl hm
    go_enter Try.func14, Try.ntmps14
    go_wp2_with fail
    go_loopw [5] (fun i wr => ∃ k : Nat, k ≤ n ∧ i = .int .i64 k ∧ (∀ (j : Nat) (t u : Th), j < k → L[j]? = some t → M[j]? = some u → eqT t u = true) ∧ Below w.heap.size w wr) (fun i _ => n - (intOf i).toNat)
    case atStart => exact ⟨0, by omega, rfl, fun j t u hj => by omega, Below.refl _ _⟩
    case round =>
      obtain ⟨k, hk, rfl, hok, hb⟩ := hrel
      have HO := hid hok
      clear hok
      by_cases hlt : k < n
      · have hlt' : (k : Int) < (n : Int) := by omega
        have hlt0 : (0 : Int) ≤ (k : Int) := by omega
        obtain ⟨t, ht⟩ := get_th L k (by rw [hl'.out, hn.out]; exact hlt)
        obtain ⟨u, hu⟩ := get_th M k (by rw [hn.out]; exact hlt)
        obtain ⟨b, off, rfl, _⟩ := (hr.later hb).at ht
        obtain ⟨b', off', rfl, _⟩ := (hr'.later hb).at hu
        have hc : ∀ d os, cellsT (Sort.grow (redrawn wr d) os) b (off + k * 11) t := fun d os => by
          obtain ⟨_, _, e, h⟩ := ((hr.later hb).later (below_regrown wr d os)).at ht
          simp only [Option.some.injEq, Addr.mk.injEq, and_true] at e
          obtain ⟨rfl, rfl⟩ := e
          exact h
        have hc' : ∀ d os, cellsT (Sort.grow (redrawn wr d) os) b' (off' + k * 11) u := fun d os => by
          obtain ⟨_, _, e, h⟩ := ((hr'.later hb).later (below_regrown wr d os)).at hu
          simp only [Option.some.injEq, Addr.mk.injEq, and_true] at e
          obtain ⟨rfl, rfl⟩ := e
          exact h
        have HT := hid ht
        have HU := hid hu
        clear ht hu
        obtain ⟨q, hq⟩ : ∃ q, Hid (eqT t u = q) := ⟨_, rfl⟩
        have hQ := equal_th_at hq.out
        have hfin : ∀ d os, Hid (Below w.heap.size w (Sort.grow (redrawn wr d) os)) := fun d os => below_on hb (below_regrown wr d os)
        clear hb
        go_wp2_with fail
        refine wp_region_quiet_below (by kernel_rfl) (by kernel_rfl) ?_
        repeat (first | go_big_quiet_skip | (go_big_quiet_want; go_big_quiet_op; first | go_big_quiet_on | go_big_quiet_call (fail)))
        refine wpQuiet_nil ?_
        intro _ hw'
        obtain ⟨⟨dq, osq⟩, hw''⟩ := hw'
        subst hw''
        have hB := hfin dq osq
        obtain ⟨W8, hW8⟩ : ∃ W8, Sort.grow (redrawn wr dq) osq = W8 := ⟨_, rfl⟩
        rw [hW8] at hB ⊢
        clear hW8 hc hc' hfin
        cases q
        · go_wp2_with fail
          go_ret; exact ⟨congrArg (fun x => Ending.returned (.bool x)) (sameL_no HT.out HU.out hq.out).symm, hB.out⟩
        · go_wp2_with fail
          go_roundw
          case rel =>
            refine ⟨k + 1, by omega, by go_num, fun j x y hj hx hy => ?_, hB.out⟩
            by_cases e : j = k
            · subst e
              have e1 := Option.some.inj (HT.out.symm.trans hx)
              have e2 := Option.some.inj (HU.out.symm.trans hy)
              subst e1 e2
              exact hq.out
            · exact HO.out j x y (by omega) hx hy
          case measure => simp [intOf]; omega
      · obtain rfl : k = n := by omega
        go_wp2_with fail
        go_ret
        exact ⟨congrArg (fun x => Ending.returned (.bool x)) (sameL_yes hl'.out (fun j t u ht hu => HO.out j t u (by rw [← hn.out, ← hl'.out]; exact (List.getElem?_eq_some_iff.1 ht).1) ht hu)).symm, hb⟩
  · have hne : ((L.length : Int) != (M.length : Int)) = true := by simp; omega
    have hf : Hid (sameL L M = false) := by show sameL L M = false; unfold sameL; rw [decide_eq_false hl, Bool.false_and]
    clear hl
    go_enter Try.func14, Try.ntmps14
    go_wp2_with fail
    go_ret; exact ⟨congrArg (fun x => Ending.returned (.bool x)) hf.out.symm, Below.refl _ _⟩
end
section
open Go.RowKit
set_option linter.unusedVariables false
theorem isT_no1 {t : Th} (h : ¬ (0 ≤ t.id ∧ t.id ≤ 1000000)) : isT t = false := by
  rw [isT_eq]
  cases hd : (decide (0 ≤ t.id) && decide (t.id ≤ 1000000))
  · simp
  · simp at hd; omega
theorem isT_no2 {t : Th} (h : onB t.x t.y = false) : isT t = false := by rw [isT_eq, h]; simp
theorem isT_no3 {t : Th} {k : Nat} (hk : k < 4) (h : isF (t.f k) = false) : isT t = false := by
  rw [isT_eq]
  obtain rfl | rfl | rfl | rfl : k = 0 ∨ k = 1 ∨ k = 2 ∨ k = 3 := by omega
  · rw [show isF t.f0 = false from h]; simp
  · rw [show isF t.f1 = false from h]; simp
  · rw [show isF t.f2 = false from h]; simp
  · rw [show isF t.f3 = false from h]; simp
theorem isT_yes {t : Th} (h : 0 ≤ t.id ∧ t.id ≤ 1000000) (h1 : onB t.x t.y = true) (h2 : ∀ j, j < 4 → isF (t.f j) = true) : isT t = true := by
  rw [isT_eq, h1, show isF t.f0 = true from h2 0 (by omega), show isF t.f1 = true from h2 1 (by omega), show isF t.f2 = true from h2 2 (by omega), show isF t.f3 = true from h2 3 (by omega)]
  simp [h]
theorem index_th (t : Th) (k : Nat) (hk : k < 4) (W : World) : (Instr.index 38 (.agg #[.int .i64 t.f0.n, .string t.f0.s, .int .i64 t.f1.n, .string t.f1.s, .int .i64 t.f2.n, .string t.f2.s, .int .i64 t.f3.n, .string t.f3.s]) (.int .i64 k)).run Try.prog W = .ok (t.f k).v W := by
  obtain rfl | rfl | rfl | rfl : k = 0 ∨ k = 1 ∨ k = 2 ∨ k = 3 := by omega
  · exact indexA_f0 W _ _ _ _ _ _ _ _
  · exact indexA_f1 W _ _ _ _ _ _ _ _
  · exact indexA_f2 W _ _ _ _ _ _ _ _
  · exact indexA_f3 W _ _ _ _ _ _ _ _
set_option maxHeartbeats 1000000 in
theorem thing_is (w : World) (t : Th) (hi : inT t) : Calls Try.prog 26 #[t.v] w fun e w' => e = .returned (.bool (isT t)) ∧ Below w.heap.size w w' := by
  obtain ⟨o, ho⟩ : ∃ o, Hid (onB t.x t.y = o) := ⟨_, rfl⟩
  have K0 : Hid ((w.alloc t.o).heap[w.heap.size]? = some t.o) := new_at _ _ _ rfl
  by_cases hA : 0 ≤ t.id ∧ t.id ≤ 1000000
  · obtain ⟨a1, a2⟩ := hA
    go_enter Try.func26, Try.ntmps26
    go_wp2_with fail
    refine (on_at ho.out _).mono ?_
    rintro x w1 ⟨rfl, hb1⟩
    have K1 := hid (var_on hb1 K0.out (at_lt K0.out))
    have hB := below_on (below1 w t.o) hb1
    have c1 := cells_at K1.out
    have l1 := at_lt K1.out
    clear hb1 K0
    cases o
    · go_wp2_with fail
      go_ret; exact ⟨congrArg (fun x => Ending.returned (.bool x)) ((isT_no2 ho.out).symm), hB⟩
    · go_wp2_with fail
      clear c1 l1
      go_loopw [21] (fun i wr => ∃ k : Nat, k ≤ 4 ∧ i = .int .i64 k ∧ (∀ j, j < k → isF (t.f j) = true) ∧ Below w.heap.size w wr) (fun i _ => 4 - (intOf i).toNat)
      case atStart => exact ⟨0, by omega, rfl, fun j hj => by omega, hB⟩
      case round =>
        clear hB K1
        obtain ⟨k, hk, rfl, hok, hb⟩ := hrel
        have HO := hid hok
        clear hok
        by_cases hlt : k < 4
        · have hlt' : (k : Int) < 4 := by omega
          have hI := index_th t k hlt
          obtain ⟨f, hf⟩ : ∃ f, Hid (t.f k = f) := ⟨_, rfl⟩
          rw [hf.out] at hI
          have hfs : f.s.size ≤ maxLen := by rw [← hf.out]; exact inT_s hi k
          obtain ⟨q, hq⟩ : ∃ q, Hid (isF f = q) := ⟨_, rfl⟩
          have hs := hb.size
          go_wp2_with fail
          refine (isF_at hq.out _ hfs).mono ?_
          rintro x w2 ⟨rfl, hb2⟩
          have hB2 := below_on (hb.alloc hs f.o) hb2
          clear hb2 hb
          cases q
          · go_wp2_with fail
            go_ret; exact ⟨congrArg (fun x => Ending.returned (.bool x)) ((isT_no3 hlt (by rw [hf.out]; exact hq.out)).symm), hB2⟩
          · go_wp2_with fail
            go_roundw
            case rel =>
              refine ⟨k + 1, by omega, by go_num, fun j hj => ?_, hB2⟩
              by_cases e : j = k
              · subst e; rw [hf.out]; exact hq.out
              · exact HO.out j (by omega)
            case measure => simp [intOf]; omega
        · obtain rfl : k = 4 := by omega
          go_wp2_with fail
          go_ret; exact ⟨congrArg (fun x => Ending.returned (.bool x)) ((isT_yes ⟨a1, a2⟩ ho.out HO.out).symm), hb⟩
  · have hF := hid (isT_no1 hA)
    rw [hF.out]
    go_enter Try.func26, Try.ntmps26
    go_wp2_with fail
    all_goals first
      | (exfalso; omega)
      | (go_ret; exact ⟨rfl, below1 _ _⟩)
theorem isT_at {t : Th} {q : Bool} (h : Hid (isT t = q)) (w : World) (hi : inT t) : Calls Try.prog 26 #[t.v] w fun e w' => e = .returned (.bool q) ∧ Below w.heap.size w w' := by
  rw [← h.out]; exact thing_is w t hi
theorem refT_at {t : Th} {q : Bool} (h : Hid (isT t = q)) (w : World) (hi : inT t) : Calls Try.prog 21 #[t.v] w fun e w' => e = .returned (.bool q) ∧ Below w.heap.size w w' := by
  rw [← h.out]; exact ref_isT w t hi
end
section
open Go.RowKit
set_option linter.unusedVariables false
theorem okT_eq {L : List Th} {k : Nat} {t : Th} (h : L[k]? = some t) : okT L k = (isT t && risesB (L.take k) t) := by
  have hk : k < L.length := (List.getElem?_eq_some_iff.1 h).1
  have hl : (L.take k).length = k := by simp; omega
  unfold okT risesB
  rw [getD_of h, hl]
  by_cases h0 : k = 0
  · subst h0; simp
  · obtain ⟨m, rfl⟩ : ∃ m, k = m + 1 := ⟨k - 1, by omega⟩
    have e : (L.take (m + 1)).getD (m + 1 - 1) zT = L.getD (m + 1 - 1) zT := by
      simp [List.getD]
    rw [e]
theorem allT_large {L : List Th} (h : 200 < L.length) : allT L = ([], 13) := by unfold allT; rw [if_pos h]
theorem allT_no {L : List Th} {k : Nat} (hl : L.length ≤ 200) (hk : k < L.length) (h : okT L k = false) : allT L = ([], 11) := by
  unfold allT; rw [if_neg (by omega), good_no hk h]; rfl
theorem allT_yes {L : List Th} (hl : L.length ≤ 200) (h : ∀ k, k < L.length → okT L k = true) : allT L = (put L.length ++ L.flatMap thB, 0) := by
  unfold allT; rw [if_neg (by omega), good_yes h]; rfl
theorem take_flat {L : List Th} {k : Nat} {t : Th} (h : L[k]? = some t) : (L.take (k + 1)).flatMap thB = (L.take k).flatMap thB ++ thB t := by
  have hk : k < L.length := (List.getElem?_eq_some_iff.1 h).1
  rw [flat_succ thB L k hk, (List.getElem?_eq_some_iff.1 h).2]
theorem bytesT_no {t : Th} (h : isT t = false) : bytesT t = ([], 11) := by unfold bytesT; rw [h]; rfl
theorem bytesT_yes {t : Th} (h : isT t = true) : bytesT t = (thB t, 0) := by unfold bytesT; rw [h]; rfl
end
section
open Go.RowKit
set_option linter.unusedVariables false
theorem RowT.cells {W : World} {b off : Nat} {L : List Th} (h : RowT W (some ⟨b, off, none⟩) L) {k : Nat} {t : Th} (hk : L[k]? = some t) : cellsT W b (off + k * 11) t := by
  obtain ⟨_, _, e, h⟩ := h.at hk
  simp only [Option.some.injEq, Addr.mk.injEq, and_true] at e
  obtain ⟨rfl, rfl⟩ := e
  exact h
theorem RowT.grown {W : World} {b off : Nat} {L : List Th} (h : RowT W (some ⟨b, off, none⟩) L) {k : Nat} {t : Th} (hk : L[k]? = some t) (d : Nat) (os : Array Obj) : cellsT (Sort.grow (redrawn W d) os) b (off + k * 11) t :=
  (h.later (below_regrown W d os)).cells hk
theorem rises_prev {L : List Th} {m : Nat} {u t : Th} (hu : L[m]? = some u) : risesB (L.take (m + 1)) t = decide (u.id < t.id) := by
  have hm : m < L.length := (List.getElem?_eq_some_iff.1 hu).1
  exact risesB_one (m := m) (by rw [List.length_take]; omega) (by rw [List.getElem?_take, if_pos (by omega)]; exact hu)
end
section
open Go.RowKit
set_option linter.unusedVariables false
theorem fin3t {T : Th} {z e : Nat} {r : Th × Nat × Nat} (h : r = (T, z, e)) : Ending.returned (.tuple #[T.v, .int .i64 z, .int .i64 e]) = .returned (.tuple #[r.1.v, .int .i64 r.2.1, .int .i64 r.2.2]) := by rw [h]
end
section
open Go.RowKit
set_option linter.unusedVariables false
def nextS (p : List Th × Nat × Nat) (r : Th × Nat × Nat) : List Th × Nat × Nat :=
  if p.2.2 ≠ 0 then p else if r.2.2 ≠ 0 then ([], 0, r.2.2) else if risesB p.1 r.1 = false then ([], 0, 11) else (p.1 ++ [r.1], p.2.1 + r.2.1, 0)
def runS (s : List UInt8) (z0 : Nat) : Nat → List Th × Nat × Nat
  | 0 => ([], z0, 0)
  | k + 1 => nextS (runS s z0 k) (readT (s.drop (runS s z0 k).2.1))
def headS (s : List UInt8) (g : Nat × Nat × Nat) : List Th × Nat × Nat :=
  if g.2.2 ≠ 0 then ([], 0, g.2.2) else if 200 < g.1 then ([], 0, 13) else runS s g.2.1 g.1
def someL (s : List UInt8) : List Th × Nat × Nat := headS s (get s)
theorem runS_succ {s : List UInt8} {z0 k : Nat} {M : List Th} {z e : Nat} (h : runS s z0 k = (M, z, e)) : runS s z0 (k + 1) = nextS (M, z, e) (readT (s.drop z)) := by rw [runS, h]
theorem nextS_err {M : List Th} {z e : Nat} (he : ¬ e = 0) (r : Th × Nat × Nat) : nextS (M, z, e) r = (M, z, e) := by
  unfold nextS; rw [if_pos (by simpa using he)]
theorem nextS_bad {M : List Th} {z m e : Nat} {t : Th} (he : ¬ e = 0) : nextS (M, z, 0) (t, m, e) = ([], 0, e) := by
  unfold nextS; rw [if_neg (by simp), if_pos (by simpa using he)]
theorem nextS_down {M : List Th} {z m : Nat} {t : Th} (hq : risesB M t = false) : nextS (M, z, 0) (t, m, 0) = ([], 0, 11) := by
  unfold nextS; rw [if_neg (by simp), if_neg (by simp), if_pos hq]
theorem nextS_on {M : List Th} {z m : Nat} {t : Th} (hq : risesB M t = true) : nextS (M, z, 0) (t, m, 0) = (M ++ [t], z + m, 0) := by
  unfold nextS; rw [if_neg (by simp), if_neg (by simp), if_neg (by simp [hq])]
theorem someS_err {s : List UInt8} {z0 k : Nat} {M : List Th} {z e : Nat} (h : runS s z0 k = (M, z, e)) (he : ¬ e = 0) : ∀ c, k ≤ c → runS s z0 c = (M, z, e) := by
  intro c hc
  induction c with
  | zero => obtain rfl : k = 0 := by omega
            exact h
  | succ c ih =>
    by_cases hbc : k = c + 1
    · rw [← hbc]; exact h
    · rw [runS_succ (ih (by omega)), nextS_err he]
theorem someS_bad {s : List UInt8} {z0 k : Nat} {M : List Th} {z m e : Nat} {t : Th} (h : runS s z0 k = (M, z, 0)) (hr : readT (s.drop z) = (t, m, e)) (he : ¬ e = 0) : runS s z0 (k + 1) = ([], 0, e) := by
  rw [runS_succ h, hr, nextS_bad he]
theorem someS_down {s : List UInt8} {z0 k : Nat} {M : List Th} {z m : Nat} {t : Th} (h : runS s z0 k = (M, z, 0)) (hr : readT (s.drop z) = (t, m, 0)) (hq : risesB M t = false) : runS s z0 (k + 1) = ([], 0, 11) := by
  rw [runS_succ h, hr, nextS_down hq]
theorem someS_next {s : List UInt8} {z0 k : Nat} {M : List Th} {z m : Nat} {t : Th} (h : runS s z0 k = (M, z, 0)) (hr : readT (s.drop z) = (t, m, 0)) (hq : risesB M t = true) : runS s z0 (k + 1) = (M ++ [t], z + m, 0) := by
  rw [runS_succ h, hr, nextS_on hq]
theorem headS_1 (s : List UInt8) {n z e : Nat} (he : ¬ e = 0) : headS s (n, z, e) = ([], 0, e) := by
  unfold headS; rw [if_pos (by simpa using he)]
theorem headS_2 (s : List UInt8) {n z : Nat} (hn : 200 < n) : headS s (n, z, 0) = ([], 0, 13) := by
  unfold headS; rw [if_neg (by simp), if_pos hn]
theorem headS_3 (s : List UInt8) {n z : Nat} (hn : n ≤ 200) : headS s (n, z, 0) = runS s z n := by
  unfold headS; rw [if_neg (by simp), if_neg (by simpa using hn)]
theorem someT_1 {s : List UInt8} {n z e : Nat} (h : get s = (n, z, e)) (he : ¬ e = 0) : someL s = ([], 0, e) := by
  unfold someL; rw [h, headS_1 s he]
theorem someT_2 {s : List UInt8} {n z : Nat} (h : get s = (n, z, 0)) (hn : 200 < n) : someL s = ([], 0, 13) := by
  unfold someL; rw [h, headS_2 s hn]
theorem someT_3 {s : List UInt8} {n z : Nat} (h : get s = (n, z, 0)) (hn : n ≤ 200) : someL s = runS s z n := by
  unfold someL; rw [h, headS_3 s hn]
theorem someT_bad {s : List UInt8} {n z0 k : Nat} {M : List Th} {z m e : Nat} {t : Th} (hg : get s = (n, z0, 0)) (hn : n ≤ 200) (hk : k < n) (h : runS s z0 k = (M, z, 0)) (hr : readT (s.drop z) = (t, m, e)) (he : ¬ e = 0) : someL s = ([], 0, e) := by
  rw [someT_3 hg hn]; exact someS_err (someS_bad h hr he) he n (by omega)
theorem someT_down {s : List UInt8} {n z0 k : Nat} {M : List Th} {z m : Nat} {t : Th} (hg : get s = (n, z0, 0)) (hn : n ≤ 200) (hk : k < n) (h : runS s z0 k = (M, z, 0)) (hr : readT (s.drop z) = (t, m, 0)) (hq : risesB M t = false) : someL s = ([], 0, 11) := by
  rw [someT_3 hg hn]; exact someS_err (someS_down h hr hq) (by decide) n (by omega)
theorem rises_take {L : List Th} {k : Nat} {t : Th} (h : L[k]? = some t) (hg : good L = true) : isT t = true ∧ risesB (L.take k) t = true := by
  have := good_at hg (List.getElem?_eq_some_iff.1 h).1
  rw [okT_eq h] at this
  simpa using this
theorem take_next {L : List Th} {k : Nat} {t : Th} (h : L[k]? = some t) : L.take (k + 1) = L.take k ++ [t] := by
  rw [List.take_add_one, h]; rfl
theorem drop_flat {L : List Th} {k : Nat} {t : Th} (h : L[k]? = some t) (P R : List UInt8) : (P ++ L.flatMap thB ++ R).drop (P ++ (L.take k).flatMap thB).length = thB t ++ ((L.drop (k + 1)).flatMap thB ++ R) := by
  have hk : k < L.length := (List.getElem?_eq_some_iff.1 h).1
  have e := flat_drop thB L k hk R
  rw [(List.getElem?_eq_some_iff.1 h).2] at e
  rw [List.length_append, List.append_assoc, List.drop_append, List.drop_eq_nil_of_le (by omega), List.nil_append]
  rw [show P.length + ((L.take k).flatMap thB).length - P.length = ((L.take k).flatMap thB).length by omega]
  exact e
theorem some_back {L : List Th} (hg : good L = true) (hi : ∀ t ∈ L, inT t) (hl : L.length ≤ 200) (R : List UInt8) : someL (put L.length ++ L.flatMap thB ++ R) = (L, (put L.length ++ L.flatMap thB).length, 0) := by
  have h0 := get_put L.length (by omega) (L.flatMap thB ++ R)
  rw [← List.append_assoc] at h0
  rw [someT_3 h0 hl]
  have step : ∀ k, k ≤ L.length → runS (put L.length ++ L.flatMap thB ++ R) (put L.length).length k = (L.take k, (put L.length ++ (L.take k).flatMap thB).length, 0) := by
    intro k
    induction k with
    | zero => intro _; simp [runS]
    | succ k ih =>
      intro hk
      obtain ⟨t, ht⟩ : ∃ t, L[k]? = some t := ⟨L[k], by simp⟩
      obtain ⟨h1, h2⟩ := rises_take ht hg
      have hr := readT_back h1 (hi t (List.mem_of_getElem? ht)) ((L.drop (k + 1)).flatMap thB ++ R)
      rw [← drop_flat ht (put L.length) R] at hr
      rw [someS_next (ih (by omega)) hr h2, take_next ht]
      simp [Nat.add_assoc]
  have := step L.length (Nat.le_refl _)
  rw [List.take_length] at this
  exact this
/- cut off it isn't read -/
theorem getF_take : ∀ (l : List UInt8) (i acc c : Nat) (n z : Nat), getF l i acc = (n, z, 0) → c + i < z → getF (l.take c) i acc = (0, 0, 10)
  | [], i, acc, c, n, z, h, hc => by simp [getF] at h
  | b :: r, i, acc, c, n, z, h, hc => by
    cases c with
    | zero => rfl
    | succ c =>
      simp only [List.take_succ_cons]
      simp only [getF] at h ⊢
      by_cases h1 : i = 9 ∧ 1 < b.toNat
      · rw [if_pos h1] at h; simp at h
      · rw [if_neg h1] at h ⊢
        by_cases h2 : 0 < i ∧ b.toNat = 0
        · rw [if_pos h2] at h; simp at h
        · rw [if_neg h2] at h ⊢
          by_cases h3 : b.toNat < 128
          · rw [if_pos h3] at h
            simp only [Prod.mk.injEq] at h
            omega
          · rw [if_neg h3] at h ⊢
            exact getF_take r (i + 1) _ c n z h (by omega)
theorem getF_size : ∀ (l : List UInt8) (i acc n z : Nat), getF l i acc = (n, z, 0) → i + 1 ≤ z
  | [], i, acc, n, z, h => by simp [getF] at h
  | b :: r, i, acc, n, z, h => by
    simp only [getF] at h
    by_cases h1 : i = 9 ∧ 1 < b.toNat
    · rw [if_pos h1] at h; simp at h
    · rw [if_neg h1] at h
      by_cases h2 : 0 < i ∧ b.toNat = 0
      · rw [if_pos h2] at h; simp at h
      · rw [if_neg h2] at h
        by_cases h3 : b.toNat < 128
        · rw [if_pos h3] at h
          simp only [Prod.mk.injEq] at h
          omega
        · rw [if_neg h3] at h
          have := getF_size r (i + 1) _ n z h
          omega
theorem getF_more : ∀ (l : List UInt8) (i acc c : Nat) (n z : Nat), getF l i acc = (n, z, 0) → z ≤ c + i → getF (l.take c) i acc = (n, z, 0)
  | [], i, acc, c, n, z, h, hc => by simp [getF] at h
  | b :: r, i, acc, c, n, z, h, hc => by
    cases c with
    | zero =>
      exfalso
      simp only [getF] at h
      by_cases h1 : i = 9 ∧ 1 < b.toNat
      · rw [if_pos h1] at h; simp at h
      · rw [if_neg h1] at h
        by_cases h2 : 0 < i ∧ b.toNat = 0
        · rw [if_pos h2] at h; simp at h
        · rw [if_neg h2] at h
          by_cases h3 : b.toNat < 128
          · rw [if_pos h3] at h
            simp only [Prod.mk.injEq] at h
            omega
          · rw [if_neg h3] at h
            have := getF_size r (i + 1) _ n z h
            omega
    | succ c =>
      simp only [List.take_succ_cons]
      simp only [getF] at h ⊢
      by_cases h1 : i = 9 ∧ 1 < b.toNat
      · rw [if_pos h1] at h; simp at h
      · rw [if_neg h1] at h ⊢
        by_cases h2 : 0 < i ∧ b.toNat = 0
        · rw [if_pos h2] at h; simp at h
        · rw [if_neg h2] at h ⊢
          by_cases h3 : b.toNat < 128
          · rw [if_pos h3] at h ⊢
            exact h
          · rw [if_neg h3] at h ⊢
            exact getF_more r (i + 1) _ c n z h (by omega)
end
section
open Go.RowKit
set_option linter.unusedVariables false
theorem Try.infoT : (Try.prog.info? 40).map (fun i => (i.zero, i.size, i.bytes)) = some (some zT.v, 11, 120) := by kernel_rfl
/-- what a call that reads a row of things answers -/
def RowsOf (w : World) (L : List Th) (z e : Nat) : Ending → World → Prop := fun x w' => ∃ v, x = .returned (.tuple #[v, .int .i64 z, .int .i64 e]) ∧ w'.ownsRow w.heap.size 40 11 v L.length (flatT L) ∧ Below w.heap.size w w'
theorem cs_one (t : Th) : ∀ u ∈ t.cs, u.oneCell' = true := by
  intro u hu
  simp only [Th.cs, List.mem_cons, List.not_mem_nil, or_false] at hu
  rcases hu with rfl | rfl | rfl | rfl | rfl | rfl | rfl | rfl | rfl | rfl | rfl <;> rfl
end
section
open Go.RowKit Go.ChangeShapes Go.WideShapes Go.Deep Go.Joins
set_option linter.unusedVariables false
set_option maxRecDepth 100000
section
variable {H : Type} {enc : TypeId × Value → H} {w : World} {base : Nat} {spare : Nat → Bool} {held : Bool} {r : Reach} {b0 : Nat} {v : Value} {d : DataW H} {p : List MemPlace}
theorem list11 {α : Type} {l : List α} (h : l.length = 11) : ∃ c0 c1 c2 c3 c4 c5 c6 c7 c8 c9 c10, l = [c0, c1, c2, c3, c4, c5, c6, c7, c8, c9, c10] := by
  match l, h with
  | [c0, c1, c2, c3, c4, c5, c6, c7, c8, c9, c10], _ => exact ⟨c0, c1, c2, c3, c4, c5, c6, c7, c8, c9, c10, rfl⟩
theorem trod_th {fuel : Nat} {cs : List Value} {x : DataW H × List MemPlace} (hl : cs.length = 11) (hf : DataW.trod enc Try.prog w base spare held fuel 40 cs = some x) : ∃ t : Th, cs = t.cs ∧ inT t := by
  obtain ⟨c0, c1, c2, c3, c4, c5, c6, c7, c8, c9, c10, rfl⟩ := list11 hl
  obtain ⟨y0, y1, y2, n, _, _, h0, h1, h2⟩ := trod_struct3 Try.underlying40 hf
  simp [cellsOf3, cellsOf23, cellsOf26] at h0 h1 h2
  obtain ⟨id, e0, _, _⟩ := DataW.trod_int Try.underlying3 h0
  obtain ⟨x, y, rfl, rfl⟩ := trod_pt h1
  obtain ⟨f0, f1, f2, f3, rfl, rfl, rfl, rfl, rfl, rfl, rfl, rfl, i0, i1, i2, i3⟩ := trod_fs h2
  simp only [List.cons.injEq, and_true] at e0
  subst e0
  exact ⟨⟨id, x, y, f0, f1, f2, f3⟩, rfl, i0, i1, i2, i3⟩
theorem open_ths (hv : Value.okWide Try.prog w r b0 22 v) (h : DataW.Trod enc Try.prog w base spare held 22 v d p) :
    ∃ (a : Option Addr) (cap : Nat) (L : List Th), v = .slice a L.length cap ∧ (∀ t ∈ L, inT t) ∧ RowT w a L ∧ L.length ≤ cap ∧ cap ≤ maxLen := by
  obtain ⟨a, len, cap, rfl⟩ := okWide_slice Try.underlying22 hv
  obtain ⟨fuel, hf⟩ := h
  rcases open_slice Try.underlying22 hf with ⟨hcs, _⟩ | ⟨a', len', cap', m, n, D, Pl, hcs, _, hl, hm, hmm, _, hx⟩
  · simp [Value.cells] at hcs
    obtain ⟨rfl, rfl, rfl⟩ := hcs
    exact ⟨none, 0, [], rfl, by simp, .inl rfl, by simp, by unfold maxLen; omega⟩
  · simp [Value.cells] at hcs
    obtain ⟨rfl, rfl, rfl⟩ := hcs
    have hlm : len ≤ m := by rw [hmm]; split <;> omega
    rw [cellsOf28] at hx
    obtain ⟨f, hF⟩ := @choose_lt Th ⟨zT⟩ len (fun i t => inT t ∧ ∀ j, j < 11 → w.cell? (a'.add (i * 11 + j)) = t.cs[j]?) (fun i hi => by
      obtain ⟨cs', h1, h2⟩ := hx i (by omega)
      obtain ⟨_, hlen, hcell⟩ := World.cells?_some h1
      obtain ⟨t, rfl, hin⟩ := trod_th hlen h2
      exact ⟨t, hin, fun j hj => by rw [← add_add]; exact hcell j hj⟩)
    refine ⟨some a', cap, (List.range len).map f, by simp, ?_, ?_, by simpa using hl, hm⟩
    · intro t ht
      simp only [List.mem_map, List.mem_range] at ht
      obtain ⟨i, hi, rfl⟩ := ht
      exact (hF i hi).1
    · by_cases h0 : len = 0
      · left; subst h0; rfl
      · right
        obtain ⟨b, off, spot⟩ := a'
        have hc := (hF 0 (by omega)).2 0 (by omega)
        have hspot : spot = none := by
          have := World.cell?_spot (v := .int .i64 (f 0).id) hc
          simpa [Addr.add] using this
        subst hspot
        refine ⟨b, off, rfl, fun k t hk => cellsT_of fun j hj => ?_⟩
        have hk' : k < len := by
          rcases Nat.lt_or_ge k len with h | h
          · exact h
          · rw [List.getElem?_eq_none (by simpa using h)] at hk; cases hk
        rw [List.getElem?_map, List.getElem?_range hk'] at hk
        simp only [Option.map_some, Option.some.injEq] at hk
        subst hk
        have e : (⟨b, off, none⟩ : Addr).add (k * 11 + j) = ⟨b, off + k * 11 + j, none⟩ := by unfold Addr.add; split <;> simp_all [Nat.add_assoc]
        rw [← e]
        exact (hF k hk').2 j hj
end
end
end Go.Proofs.Ytjdlcocncacmlaa
