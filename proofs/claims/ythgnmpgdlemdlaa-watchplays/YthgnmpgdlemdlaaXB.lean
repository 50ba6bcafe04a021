/- Plain facts on blocks, worlds behind calls, rows of small structs in memory: of no program. -/
import Derived.Test.YthgnmpgdlemdlaaGeomP
import Derived.ProofKit
import Derived.Below
import Derived.Deep.QuietTactic
import Derived.BigQuiet
import Derived.Lib.SmallJoins
import Derived.Lib.MinMax
import Derived.Lib.QuietBelow
import Derived.Deep.RegionWith
import Derived.Deep.AppendLies
import Derived.Deep.CutBlock
namespace Go.Proofs.Ythgnmpgdlemdlaa
section
open Go.RowKit
set_option linter.unusedVariables false
theorem at_lt {W : World} {g : Nat} {p : Obj} (h : W.heap[g]? = some p) : g < W.heap.size := (Array.getElem?_eq_some_iff.1 h).1
theorem hid {p : Prop} (h : p) : Hid p := h
theorem below_drewN {B : Nat} {a w : World} (h : Below B a w) (n : Nat) : Below B a (w.drewN n) := by
  induction n with
  | zero => exact h
  | succ n ih => exact ih.drew
theorem cell_below {W w1 : World} {a : Addr} {v : Value} (hb : Below W.heap.size W w1) (h : W.cell? a = some v) : w1.cell? a = some v := by
  rw [hb.cell (World.block_lt_of_cell? W a h)]; exact h
theorem grown_cells {W : World} {g : Nat} {cs : Array Value} {t : TypeId} (h : W.heap[g]? = some (.cells cs t (0, 0))) : ∀ i d os, (Sort.grow (redrawn W d) os).cell? ⟨g, i, none⟩ = cs[i]? := fun i d os =>
  Go.Joins.cell_of_block (var_on (below_regrown W d os) h (at_lt h)) i
/-- but for the block g nothing that was there has turned -/
structure But (g : Nat) (w w' : World) : Prop where
  os : w'.os = w.os
  tape : w'.tape = w.tape
  output : w'.output = w.output
  size : w.heap.size ≤ w'.heap.size
  block : ∀ k, k < w.heap.size → k ≠ g → w'.heap[k]? = w.heap[k]?
theorem But.trans {g : Nat} {a b c : World} (h : But g a b) (k : But g b c) : But g a c :=
  ⟨k.os.trans h.os, k.tape.trans h.tape, k.output.trans h.output, Nat.le_trans h.size k.size, fun i hi hx => (k.block i (by have := h.size; omega) hx).trans (h.block i hi hx)⟩
theorem But.setCell {g : Nat} {w w' : World} (h : But g w w') (i : Nat) (v : Value) : But g w (w'.setCell ⟨g, i, none⟩ v) :=
  ⟨h.os, h.tape, h.output, by have := h.size; simpa using this, fun k hk hx => by rw [Below.heap_setCell _ _ _ _ hx]; exact h.block k hk hx⟩
theorem But.alloc {g : Nat} {w w' : World} (h : But g w w') (o : Obj) : But g w (w'.alloc o) :=
  ⟨h.os, h.tape, h.output, by have := h.size; simp; omega, fun k hk hx => by rw [heap_alloc, if_neg (by have := h.size; omega)]; exact h.block k hk hx⟩
theorem But.at {g b : Nat} {w w' : World} (h : But g w w') {o : Obj} (k : w.heap[b]? = some o) (hb : b ≠ g) : w'.heap[b]? = some o := by
  rw [h.block b (at_lt k) hb]; exact k
theorem new_at (W : World) (o : Obj) (g : Nat) (hg : g = W.heap.size) : (W.alloc o).heap[g]? = some o := by rw [heap_alloc, if_pos hg]
theorem lt_of_at {W : World} {g : Nat} {p : Obj} (h : W.heap[g]? = some p) : g < W.heap.size := (Array.getElem?_eq_some_iff.1 h).1
theorem old_at {W : World} {g : Nat} {p : Obj} (h : W.heap[g]? = some p) (o : Obj) : (W.alloc o).heap[g]? = some p := by
  rw [heap_alloc, if_neg (by have := lt_of_at h; omega)]; exact h
theorem set_at {W : World} {g i : Nat} {cs : Array Value} {t : TypeId} {fr : Nat × Nat} (h : W.heap[g]? = some (.cells cs t fr)) (v : Value) {cs' : Array Value} (hc : cs.setIfInBounds i v = cs') : (W.setCell ⟨g, i, none⟩ v).heap[g]? = some (.cells cs' t fr) := by
  simp [World.setCell, Array.getElem?_modify, h, ← hc]
theorem set_off {W : World} {g : Nat} {p : Obj} (h : W.heap[g]? = some p) {b i : Nat} (hb : g ≠ b) (v : Value) : (W.setCell ⟨b, i, none⟩ v).heap[g]? = some p := by
  rw [Below.heap_setCell _ _ _ _ hb]; exact h
theorem cells_at {W : World} {g : Nat} {cs : Array Value} {t : TypeId} (h : W.heap[g]? = some (.cells cs t (0, 0))) : (∀ i, W.cell? ⟨g, i, none⟩ = cs[i]?) ∧ (∀ i, W.frozen? ⟨g, i, none⟩ = false) :=
  ⟨fun i => Go.Joins.cell_of_block h i, fun i => Go.Joins.unfrozen_of_block h i⟩
theorem owns_slice {W : World} {base : Nat} {e : TypeId} {size : Nat} {v : Value} {n : Nat} {xs : List Value} (h : W.ownsRow base e size v n xs) : ∃ p cap, v = .slice p n cap := by
  rcases h.2 with ⟨rfl, rfl⟩ | ⟨g, cap, cur, rfl, _⟩
  · exact ⟨_, _, rfl⟩
  · exact ⟨_, _, rfl⟩
theorem owns_on {base : Nat} {e : TypeId} {size : Nat} {v : Value} {n : Nat} {xs : List Value} {W W' : World} (h : W.ownsRow base e size v n xs) (hb : Below W.heap.size W W') : W'.ownsRow base e size v n xs :=
  h.kept (row := none) ⟨hb.os, hb.tape, hb.output, hb.size, fun k hk _ => hb.block k hk⟩ (by cases hv : v.ownBlock <;> simp)
/-- rows of whatever structs: the cells one behind the other -/
def flatG {α : Type} (cs : α → List Value) (l : List α) : List Value := l.flatMap cs
theorem flatG_length {α : Type} {cs : α → List Value} {z : Nat} (hz : ∀ a, (cs a).length = z) (l : List α) : (flatG cs l).length = l.length * z := by
  induction l with
  | nil => simp [flatG]
  | cons a l ih =>
    have : flatG cs (a :: l) = cs a ++ flatG cs l := rfl
    rw [this, List.length_append, hz, ih, List.length_cons, Nat.succ_mul]; omega
theorem flatG_append {α : Type} (cs : α → List Value) (l m : List α) : flatG cs (l ++ m) = flatG cs l ++ flatG cs m := by simp [flatG]
theorem flatG_one {α : Type} (cs : α → List Value) (a : α) : flatG cs [a] = cs a := by simp [flatG]
theorem flatG_get {α : Type} {cs : α → List Value} {z : Nat} (hz : ∀ a, (cs a).length = z) (l : List α) (k : Nat) (a : α) (h : l[k]? = some a) (j : Nat) (hj : j < z) : (flatG cs l)[k * z + j]? = (cs a)[j]? := by
  induction l generalizing k with
  | nil => simp at h
  | cons b l ih =>
    have e : flatG cs (b :: l) = cs b ++ flatG cs l := rfl
    cases k with
    | zero =>
      simp at h
      subst h
      rw [e, Nat.zero_mul, Nat.zero_add, List.getElem?_append_left (by rw [hz]; exact hj)]
    | succ k =>
      have := ih k (by simpa using h)
      have e2 : (k + 1) * z = k * z + z := Nat.succ_mul k z
      rw [e, List.getElem?_append_right (by rw [hz]; omega), hz, show (k + 1) * z + j - z = k * z + j by omega]
      exact this
theorem flatG_take {α : Type} {cs : α → List Value} {z : Nat} (hz : ∀ a, (cs a).length = z) (l : List α) (k : Nat) : (flatG cs l).take (k * z) = flatG cs (l.take k) := by
  induction l generalizing k with
  | nil => simp [flatG]
  | cons b l ih =>
    cases k with
    | zero => simp [flatG]
    | succ k =>
      have e : flatG cs (b :: l) = cs b ++ flatG cs l := rfl
      have e2 : (k + 1) * z = z + k * z := by rw [Nat.succ_mul]; omega
      rw [e, e2, List.take_append, hz, List.take_of_length_le (by rw [hz]; omega), show z + k * z - z = k * z by omega, ih]
      rfl
theorem flatG_drop {α : Type} {cs : α → List Value} {z : Nat} (hz : ∀ a, (cs a).length = z) (l : List α) (k : Nat) : (flatG cs l).drop (k * z) = flatG cs (l.drop k) := by
  induction l generalizing k with
  | nil => simp [flatG]
  | cons b l ih =>
    cases k with
    | zero => simp
    | succ k =>
      have e : flatG cs (b :: l) = cs b ++ flatG cs l := rfl
      have e2 : (k + 1) * z = z + k * z := by rw [Nat.succ_mul]; omega
      rw [e, e2, List.drop_append, hz, List.drop_of_length_le (by rw [hz]; omega), show z + k * z - z = k * z by omega, ih, List.nil_append]
      rfl
/-- the row behind p, cell by cell; the empty row wants none -/
def RowG {α : Type} (cs : α → List Value) (z : Nat) (W : World) (p : Option Addr) (L : List α) : Prop := L = [] ∨ ∃ b off, p = some ⟨b, off, none⟩ ∧ ∀ k a, L[k]? = some a → ∀ j u, (cs a)[j]? = some u → W.cell? ⟨b, off + k * z + j, none⟩ = some u
theorem RowG.later {α : Type} {cs : α → List Value} {z : Nat} {w wr : World} {p : Option Addr} {L : List α} (h : RowG cs z w p L) (hb : Below w.heap.size w wr) : RowG cs z wr p L := by
  rcases h with h | ⟨b, off, h, hc⟩
  · exact .inl h
  · exact .inr ⟨b, off, h, fun k t hk j u hu => cell_below hb (hc k t hk j u hu)⟩
theorem RowG.at {α : Type} {cs : α → List Value} {z : Nat} {w : World} {p : Option Addr} {L : List α} (h : RowG cs z w p L) {k : Nat} {a : α} (hk : L[k]? = some a) : ∃ b off, p = some ⟨b, off, none⟩ ∧ ∀ j u, (cs a)[j]? = some u → w.cell? ⟨b, off + k * z + j, none⟩ = some u := by
  rcases h with h | ⟨b, off, h, hc⟩
  · subst h; simp at hk
  · exact ⟨b, off, h, hc k a hk⟩
theorem row_own {α : Type} {cs : α → List Value} {z : Nat} (hz : ∀ a, (cs a).length = z) {W : World} {base n : Nat} {e : TypeId} {p : Option Addr} {cap : Nat} {L : List α} (h : W.ownsRow base e z (.slice p n cap) n (flatG cs L)) (hn : n = L.length) : RowG cs z W p L := by
  subst hn
  by_cases h0 : L = []
  · exact .inl h0
  · right
    have hpos : 0 < L.length := List.length_pos_iff.2 h0
    rcases h.2 with ⟨h', h0⟩ | ⟨g, cap', cur, h', _⟩
    · omega
    · simp only [Value.slice.injEq] at h'
      obtain ⟨rfl, _, rfl⟩ := h'
      refine ⟨g, 0, rfl, fun k t hk j u hu => ?_⟩
      have hk' : k < L.length := (List.getElem?_eq_some_iff.1 hk).1
      have hj : j < z := by rw [← hz t]; exact (List.getElem?_eq_some_iff.1 hu).1
      have hlt : k * z + j < L.length * z := by
        have : (k + 1) * z ≤ L.length * z := Nat.mul_le_mul_right z hk'
        rw [Nat.succ_mul] at this
        omega
      rw [Nat.zero_add, h.cellAt (k * z + j) hlt, flatG_get hz L k t hk j hj]
      exact hu
theorem get_some {α : Type} (L : List α) (k : Nat) (hk : k < L.length) : ∃ t, L[k]? = some t := ⟨L[k], by simp [hk]⟩
abbrev cells2 (W : World) (b o : Nat) (u0 u1 : Value) : Prop := W.cell? ⟨b, o, none⟩ = some u0 ∧ W.cell? ⟨b, o + 1, none⟩ = some u1
abbrev cells3 (W : World) (b o : Nat) (u0 u1 u2 : Value) : Prop := W.cell? ⟨b, o, none⟩ = some u0 ∧ W.cell? ⟨b, o + 1, none⟩ = some u1 ∧ W.cell? ⟨b, o + 2, none⟩ = some u2
theorem But.below {g : Nat} {w a b : World} (h : Below w.heap.size w a) (k : But g a b) (hg : w.heap.size ≤ g) : Below w.heap.size w b :=
  ⟨k.os.trans h.os, k.tape.trans h.tape, k.output.trans h.output, Nat.le_trans h.size k.size, fun i hi => (k.block i (by have := h.size; omega) (by omega)).trans (h.block i hi)⟩
theorem But.refl (g : Nat) (w : World) : But g w w := ⟨rfl, rfl, rfl, Nat.le_refl _, fun _ _ _ => rfl⟩
theorem But.of_below {g : Nat} {w w1 : World} (h : Below w.heap.size w w1) : But g w w1 := ⟨h.os, h.tape, h.output, h.size, fun i hi _ => h.block i hi⟩
/-- but for the blocks of X nothing that was there has turned -/
structure Off (X : List Nat) (w w' : World) : Prop where
  os : w'.os = w.os
  tape : w'.tape = w.tape
  output : w'.output = w.output
  size : w.heap.size ≤ w'.heap.size
  block : ∀ k, k < w.heap.size → k ∉ X → w'.heap[k]? = w.heap[k]?
theorem Off.trans {X Y : List Nat} {a b c : World} (h : Off X a b) (k : Off Y b c) (hy : ∀ y, y ∈ Y → y ∈ X ∨ a.heap.size ≤ y) : Off X a c :=
  ⟨k.os.trans h.os, k.tape.trans h.tape, k.output.trans h.output, Nat.le_trans h.size k.size, fun i hi hx => (k.block i (by have := h.size; omega) (fun hY => by rcases hy i hY with h' | h'; exact hx h'; omega)).trans (h.block i hi hx)⟩
theorem owns_read {base : Nat} {e : TypeId} {z : Nat} {g n cap : Nat} {xs : List Value} {w : World} (h : w.ownsRow base e z (.slice (some ⟨g, 0, none⟩) n cap) n xs) : ∀ j u, xs[j]? = some u → w.cell? ⟨g, j, none⟩ = some u := by
  intro j u hu
  rw [h.cellAt j (by have := (List.getElem?_eq_some_iff.1 hu).1; rw [h.1] at this; exact this)]
  exact hu
end
end Go.Proofs.Ythgnmpgdlemdlaa
