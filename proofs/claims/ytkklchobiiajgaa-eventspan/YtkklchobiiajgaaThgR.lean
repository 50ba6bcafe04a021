/- Rows of things in memory: what the caller handed in, and what a call made; the last one's number. -/
import Derived.Test.YtkklchobiiajgaaThgP
import Derived.Deep.Slices
namespace Go.Proofs.Ytkklchobiiajgaa
open Go.RowKit
set_option linter.unusedVariables false
def Th.cs (t : Th) : List Value := [.int .i64 t.id, .int .i64 t.x, .int .i64 t.y, .int .i64 t.f0.n, .string t.f0.s, .int .i64 t.f1.n, .string t.f1.s, .int .i64 t.f2.n, .string t.f2.s, .int .i64 t.f3.n, .string t.f3.s]
def flatT (l : List Th) : List Value := l.flatMap Th.cs
abbrev cellsT (W : World) (b o : Nat) (t : Th) : Prop :=
  W.cell? ⟨b, o, none⟩ = some (.int .i64 t.id) ∧ W.cell? ⟨b, o + 1, none⟩ = some (.int .i64 t.x) ∧ W.cell? ⟨b, o + 2, none⟩ = some (.int .i64 t.y) ∧ W.cell? ⟨b, o + 3, none⟩ = some (.int .i64 t.f0.n) ∧ W.cell? ⟨b, o + 4, none⟩ = some (.string t.f0.s) ∧ W.cell? ⟨b, o + 5, none⟩ = some (.int .i64 t.f1.n) ∧ W.cell? ⟨b, o + 6, none⟩ = some (.string t.f1.s) ∧ W.cell? ⟨b, o + 7, none⟩ = some (.int .i64 t.f2.n) ∧ W.cell? ⟨b, o + 8, none⟩ = some (.string t.f2.s) ∧ W.cell? ⟨b, o + 9, none⟩ = some (.int .i64 t.f3.n) ∧ W.cell? ⟨b, o + 10, none⟩ = some (.string t.f3.s)
/-- the row behind p, cell by cell; the empty row wants none -/
def RowT (W : World) (p : Option Addr) (L : List Th) : Prop := L = [] ∨ ∃ b off, p = some ⟨b, off, none⟩ ∧ ∀ k t, L[k]? = some t → cellsT W b (off + k * 11) t
theorem cellsT_later {w wr : World} {b o : Nat} {t : Th} (h : cellsT w b o t) (hb : Below w.heap.size w wr) : cellsT wr b o t := by
  obtain ⟨h0, h1, h2, h3, h4, h5, h6, h7, h8, h9, h10⟩ := h
  exact ⟨cell_later hb h0, cell_later hb h1, cell_later hb h2, cell_later hb h3, cell_later hb h4, cell_later hb h5, cell_later hb h6, cell_later hb h7, cell_later hb h8, cell_later hb h9, cell_later hb h10⟩
theorem RowT.later {w wr : World} {p : Option Addr} {L : List Th} (h : RowT w p L) (hb : Below w.heap.size w wr) : RowT wr p L := by
  rcases h with h | ⟨b, off, h, hc⟩
  · exact .inl h
  · exact .inr ⟨b, off, h, fun k t hk => cellsT_later (hc k t hk) hb⟩
theorem RowT.at {w : World} {p : Option Addr} {L : List Th} (h : RowT w p L) {k : Nat} {t : Th} (hk : L[k]? = some t) : ∃ b off, p = some ⟨b, off, none⟩ ∧ cellsT w b (off + k * 11) t := by
  rcases h with h | ⟨b, off, h, hc⟩
  · subst h; simp at hk
  · exact ⟨b, off, h, hc k t hk⟩
theorem RowT.take {w : World} {p : Option Addr} {L : List Th} (h : RowT w p L) (n : Nat) : RowT w p (L.take n) := by
  rcases h with h | ⟨b, off, h, hc⟩
  · left; rw [h]; simp
  · right
    refine ⟨b, off, h, fun k t hk => hc k t ?_⟩
    rw [List.getElem?_take] at hk
    split at hk
    · exact hk
    · cases hk
theorem flatT_length (l : List Th) : (flatT l).length = l.length * 11 := by
  induction l with
  | nil => rfl
  | cons r l ih => simp [flatT, Th.cs] at ih ⊢; omega
theorem flatT_append (l m : List Th) : flatT (l ++ m) = flatT l ++ flatT m := by simp [flatT]
theorem flatT_one (t : Th) : flatT [t] = t.cs := by simp [flatT]
theorem flatT_get (l : List Th) (k : Nat) (t : Th) (h : l[k]? = some t) (j : Nat) (hj : j < 11) : (flatT l)[k * 11 + j]? = t.cs[j]? := by
  induction l generalizing k with
  | nil => simp at h
  | cons a l ih =>
    have e : flatT (a :: l) = a.cs ++ flatT l := rfl
    have hl : ∀ t : Th, t.cs.length = 11 := fun t => rfl
    cases k with
    | zero =>
      simp at h
      subst h
      rw [e, Nat.zero_mul, Nat.zero_add, List.getElem?_append_left (by rw [hl]; exact hj)]
    | succ k =>
      have := ih k (by simpa using h)
      rw [e, List.getElem?_append_right (by rw [hl]; omega), hl, show (k + 1) * 11 + j - 11 = k * 11 + j by omega]
      exact this
theorem cellsT_of {W : World} {b o : Nat} {t : Th} (h : ∀ j, j < 11 → W.cell? ⟨b, o + j, none⟩ = t.cs[j]?) : cellsT W b o t :=
  ⟨h 0 (by omega), h 1 (by omega), h 2 (by omega), h 3 (by omega), h 4 (by omega), h 5 (by omega), h 6 (by omega), h 7 (by omega), h 8 (by omega), h 9 (by omega), h 10 (by omega)⟩
theorem row_own {W : World} {base n : Nat} {p : Option Addr} {cap : Nat} {L : List Th} (h : W.ownsRow base 43 11 (.slice p n cap) n (flatT L)) (hn : n = L.length) : RowT W p L := by
  subst hn
  by_cases h0 : L = []
  · exact .inl h0
  · right
    have hpos : 0 < L.length := List.length_pos_iff.2 h0
    rcases h.2 with ⟨h', h0⟩ | ⟨g, cap', cur, h', _⟩
    · omega
    · simp only [Value.slice.injEq] at h'
      obtain ⟨rfl, _, rfl⟩ := h'
      refine ⟨g, 0, rfl, fun k t hk => cellsT_of fun j hj => ?_⟩
      have hk' : k < L.length := (List.getElem?_eq_some_iff.1 hk).1
      rw [Nat.zero_add, h.cellAt (k * 11 + j) (by omega)]
      exact flatT_get L k t hk j hj
theorem owns_slice {W : World} {base : Nat} {e : TypeId} {size : Nat} {v : Value} {n : Nat} {xs : List Value} (h : W.ownsRow base e size v n xs) : ∃ p cap, v = .slice p n cap := by
  rcases h.2 with ⟨rfl, rfl⟩ | ⟨g, cap, cur, rfl, _⟩
  · exact ⟨_, _, rfl⟩
  · exact ⟨_, _, rfl⟩
theorem owns_on {base : Nat} {e : TypeId} {size : Nat} {v : Value} {n : Nat} {xs : List Value} {W W' : World} (h : W.ownsRow base e size v n xs) (hb : Below W.heap.size W W') : W'.ownsRow base e size v n xs :=
  h.kept (row := none) ⟨hb.os, hb.tape, hb.output, hb.size, fun k hk _ => hb.block k hk⟩ (by cases hv : v.ownBlock <;> simp)
theorem get_th (L : List Th) (k : Nat) (hk : k < L.length) : ∃ t, L[k]? = some t := ⟨L[k], by simp [hk]⟩
theorem getD_of {L : List Th} {k : Nat} {t : Th} (h : L[k]? = some t) : L.getD k zT = t := by simp [List.getD, h]
end Go.Proofs.Ytkklchobiiajgaa
