/- Plain facts on rows of small structs in memory, on blocks: of no program. -/
import Derived.Test.YtpedngbjpbeanaaGreatDoorHB
import Derived.Test.YtpedngbjpbeanaaGreatDoorCH
import Derived.ProofKit
import Derived.Below
import Derived.Deep.QuietTactic
import Derived.BigQuiet
import Derived.Lib.SmallJoins
import Derived.Lib.MinMax
import Derived.Lib.QuietBelow
import Derived.Deep.RegionWith
import Derived.Deep.AppendLies
import Derived.Deep.CutBlock
namespace Go.Proofs.YtpedngbjpbeanaaGreatDoor
section
open Go.RowKit
set_option linter.unusedVariables false
theorem lt_of_at {W : World} {g : Nat} {p : Obj} (h : W.heap[g]? = some p) : g < W.heap.size := (Array.getElem?_eq_some_iff.1 h).1
/-- rows of whatever structs: the cells one behind the other -/
def flatG {α : Type} (cs : α → List Value) (l : List α) : List Value := l.flatMap cs
theorem flatG_length {α : Type} {cs : α → List Value} {z : Nat} (hz : ∀ a, (cs a).length = z) (l : List α) : (flatG cs l).length = l.length * z := by
  induction l with
  | nil => simp [flatG]
  | cons a l ih =>
    have : flatG cs (a :: l) = cs a ++ flatG cs l := rfl
    rw [this, List.length_append, hz, ih, List.length_cons, Nat.succ_mul]; omega
theorem flatG_append {α : Type} (cs : α → List Value) (l m : List α) : flatG cs (l ++ m) = flatG cs l ++ flatG cs m := by simp [flatG]
theorem flatG_one {α : Type} (cs : α → List Value) (a : α) : flatG cs [a] = cs a := by simp [flatG]
theorem flatG_get {α : Type} {cs : α → List Value} {z : Nat} (hz : ∀ a, (cs a).length = z) (l : List α) (k : Nat) (a : α) (h : l[k]? = some a) (j : Nat) (hj : j < z) : (flatG cs l)[k * z + j]? = (cs a)[j]? := by
  induction l generalizing k with
  | nil => simp at h
  | cons b l ih =>
    have e : flatG cs (b :: l) = cs b ++ flatG cs l := rfl
    cases k with
    | zero =>
      simp at h
      subst h
      rw [e, Nat.zero_mul, Nat.zero_add, List.getElem?_append_left (by rw [hz]; exact hj)]
    | succ k =>
      have := ih k (by simpa using h)
      have e2 : (k + 1) * z = k * z + z := Nat.succ_mul k z
      rw [e, List.getElem?_append_right (by rw [hz]; omega), hz, show (k + 1) * z + j - z = k * z + j by omega]
      exact this
theorem flatG_take {α : Type} {cs : α → List Value} {z : Nat} (hz : ∀ a, (cs a).length = z) (l : List α) (k : Nat) : (flatG cs l).take (k * z) = flatG cs (l.take k) := by
  induction l generalizing k with
  | nil => simp [flatG]
  | cons b l ih =>
    cases k with
    | zero => simp [flatG]
    | succ k =>
      have e : flatG cs (b :: l) = cs b ++ flatG cs l := rfl
      have e2 : (k + 1) * z = z + k * z := by rw [Nat.succ_mul]; omega
      rw [e, e2, List.take_append, hz, List.take_of_length_le (by rw [hz]; omega), show z + k * z - z = k * z by omega, ih]
      rfl
theorem flatG_drop {α : Type} {cs : α → List Value} {z : Nat} (hz : ∀ a, (cs a).length = z) (l : List α) (k : Nat) : (flatG cs l).drop (k * z) = flatG cs (l.drop k) := by
  induction l generalizing k with
  | nil => simp [flatG]
  | cons b l ih =>
    cases k with
    | zero => simp
    | succ k =>
      have e : flatG cs (b :: l) = cs b ++ flatG cs l := rfl
      have e2 : (k + 1) * z = z + k * z := by rw [Nat.succ_mul]; omega
      rw [e, e2, List.drop_append, hz, List.drop_of_length_le (by rw [hz]; omega), show z + k * z - z = k * z by omega, ih, List.nil_append]
      rfl
/-- the row behind p, cell by cell; the empty row wants none -/
def RowG {α : Type} (cs : α → List Value) (z : Nat) (W : World) (p : Option Addr) (L : List α) : Prop := L = [] ∨ ∃ b off, p = some ⟨b, off, none⟩ ∧ ∀ k a, L[k]? = some a → ∀ j u, (cs a)[j]? = some u → W.cell? ⟨b, off + k * z + j, none⟩ = some u
theorem RowG.later {α : Type} {cs : α → List Value} {z : Nat} {w wr : World} {p : Option Addr} {L : List α} (h : RowG cs z w p L) (hb : Below w.heap.size w wr) : RowG cs z wr p L := by
  rcases h with h | ⟨b, off, h, hc⟩
  · exact .inl h
  · exact .inr ⟨b, off, h, fun k t hk j u hu => cell_below hb (hc k t hk j u hu)⟩
theorem RowG.at {α : Type} {cs : α → List Value} {z : Nat} {w : World} {p : Option Addr} {L : List α} (h : RowG cs z w p L) {k : Nat} {a : α} (hk : L[k]? = some a) : ∃ b off, p = some ⟨b, off, none⟩ ∧ ∀ j u, (cs a)[j]? = some u → w.cell? ⟨b, off + k * z + j, none⟩ = some u := by
  rcases h with h | ⟨b, off, h, hc⟩
  · subst h; simp at hk
  · exact ⟨b, off, h, hc k a hk⟩
theorem row_ownG {α : Type} {cs : α → List Value} {z : Nat} (hz : ∀ a, (cs a).length = z) {W : World} {base n : Nat} {e : TypeId} {p : Option Addr} {cap : Nat} {L : List α} (h : W.ownsRow base e z (.slice p n cap) n (flatG cs L)) (hn : n = L.length) : RowG cs z W p L := by
  subst hn
  by_cases h0 : L = []
  · exact .inl h0
  · right
    have hpos : 0 < L.length := List.length_pos_iff.2 h0
    rcases h.2 with ⟨h', h0⟩ | ⟨g, cap', cur, h', _⟩
    · omega
    · simp only [Value.slice.injEq] at h'
      obtain ⟨rfl, _, rfl⟩ := h'
      refine ⟨g, 0, rfl, fun k t hk j u hu => ?_⟩
      have hk' : k < L.length := (List.getElem?_eq_some_iff.1 hk).1
      have hj : j < z := by rw [← hz t]; exact (List.getElem?_eq_some_iff.1 hu).1
      have hlt : k * z + j < L.length * z := by
        have : (k + 1) * z ≤ L.length * z := Nat.mul_le_mul_right z hk'
        rw [Nat.succ_mul] at this
        omega
      rw [Nat.zero_add, h.cellAt (k * z + j) hlt, flatG_get hz L k t hk j hj]
      exact hu
theorem get_some {α : Type} (L : List α) (k : Nat) (hk : k < L.length) : ∃ t, L[k]? = some t := ⟨L[k], by simp [hk]⟩
abbrev cells2 (W : World) (b o : Nat) (u0 u1 : Value) : Prop := W.cell? ⟨b, o, none⟩ = some u0 ∧ W.cell? ⟨b, o + 1, none⟩ = some u1
abbrev cells3 (W : World) (b o : Nat) (u0 u1 u2 : Value) : Prop := W.cell? ⟨b, o, none⟩ = some u0 ∧ W.cell? ⟨b, o + 1, none⟩ = some u1 ∧ W.cell? ⟨b, o + 2, none⟩ = some u2
/-- but for the blocks of X nothing that was there has turned -/
structure Off (X : List Nat) (w w' : World) : Prop where
  os : w'.os = w.os
  tape : w'.tape = w.tape
  output : w'.output = w.output
  size : w.heap.size ≤ w'.heap.size
  block : ∀ k, k < w.heap.size → k ∉ X → w'.heap[k]? = w.heap[k]?
theorem Off.trans {X Y : List Nat} {a b c : World} (h : Off X a b) (k : Off Y b c) (hy : ∀ y, y ∈ Y → y ∈ X ∨ a.heap.size ≤ y) : Off X a c :=
  ⟨k.os.trans h.os, k.tape.trans h.tape, k.output.trans h.output, Nat.le_trans h.size k.size, fun i hi hx => (k.block i (by have := h.size; omega) (fun hY => by rcases hy i hY with h' | h'; exact hx h'; omega)).trans (h.block i hi hx)⟩
theorem owns_read {base : Nat} {e : TypeId} {z : Nat} {g n cap : Nat} {xs : List Value} {w : World} (h : w.ownsRow base e z (.slice (some ⟨g, 0, none⟩) n cap) n xs) : ∀ j u, xs[j]? = some u → w.cell? ⟨g, j, none⟩ = some u := by
  intro j u hu
  rw [h.cellAt j (by have := (List.getElem?_eq_some_iff.1 hu).1; rw [h.1] at this; exact this)]
  exact hu
end
end Go.Proofs.YtpedngbjpbeanaaGreatDoor
