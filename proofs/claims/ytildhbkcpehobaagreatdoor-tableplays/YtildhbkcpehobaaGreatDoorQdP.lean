/- Plain facts on rows of small structs in memory, of worlds behind calls; spots, squares, marks. No conditions beyond those typed. -/
import Derived.Test.YtildhbkcpehobaaGreatDoorGeom
import Derived.Test.YtildhbkcpehobaaGreatDoorMorton2
namespace Go.Proofs.YtildhbkcpehobaaGreatDoor
open Go.RowKit
set_option linter.unusedVariables false
theorem hid {p : Prop} (h : p) : Hid p := h
theorem new_at (W : World) (o : Obj) (g : Nat) (hg : g = W.heap.size) : (W.alloc o).heap[g]? = some o := by rw [heap_alloc, if_pos hg]
theorem lt_of_at {W : World} {g : Nat} {p : Obj} (h : W.heap[g]? = some p) : g < W.heap.size := (Array.getElem?_eq_some_iff.1 h).1
theorem old_at {W : World} {g : Nat} {p : Obj} (h : W.heap[g]? = some p) (o : Obj) : (W.alloc o).heap[g]? = some p := by
  rw [heap_alloc, if_neg (by have := lt_of_at h; omega)]; exact h
theorem set_at {W : World} {g i : Nat} {cs : Array Value} {t : TypeId} {fr : Nat × Nat} (h : W.heap[g]? = some (.cells cs t fr)) (v : Value) {cs' : Array Value} (hc : cs.setIfInBounds i v = cs') : (W.setCell ⟨g, i, none⟩ v).heap[g]? = some (.cells cs' t fr) := by
  simp [World.setCell, Array.getElem?_modify, h, ← hc]
theorem set_off {W : World} {g : Nat} {p : Obj} (h : W.heap[g]? = some p) {b i : Nat} (hb : g ≠ b) (v : Value) : (W.setCell ⟨b, i, none⟩ v).heap[g]? = some p := by
  rw [Below.heap_setCell _ _ _ _ hb]; exact h
theorem cells_at {W : World} {g : Nat} {cs : Array Value} {t : TypeId} (h : W.heap[g]? = some (.cells cs t (0, 0))) : (∀ i, W.cell? ⟨g, i, none⟩ = cs[i]?) ∧ (∀ i, W.frozen? ⟨g, i, none⟩ = false) :=
  ⟨fun i => Go.Joins.cell_of_block h i, fun i => Go.Joins.unfrozen_of_block h i⟩
theorem grown_cells {W : World} {g : Nat} {cs : Array Value} {t : TypeId} (h : W.heap[g]? = some (.cells cs t (0, 0))) : ∀ i d os, (Sort.grow (redrawn W d) os).cell? ⟨g, i, none⟩ = cs[i]? := fun i d os => by
  have hb := below_regrown W d os
  rw [hb.cell (p := ⟨g, i, none⟩) (lt_of_at h)]
  exact Go.Joins.cell_of_block h i
theorem owns_slice {W : World} {base : Nat} {e : TypeId} {size : Nat} {v : Value} {n : Nat} {xs : List Value} (h : W.ownsRow base e size v n xs) : ∃ p cap, v = .slice p n cap := by
  rcases h.2 with ⟨rfl, rfl⟩ | ⟨g, cap, cur, rfl, _⟩
  · exact ⟨_, _, rfl⟩
  · exact ⟨_, _, rfl⟩
theorem owns_on {base : Nat} {e : TypeId} {size : Nat} {v : Value} {n : Nat} {xs : List Value} {W W' : World} (h : W.ownsRow base e size v n xs) (hb : Below W.heap.size W W') : W'.ownsRow base e size v n xs :=
  h.kept (row := none) ⟨hb.os, hb.tape, hb.output, hb.size, fun k hk _ => hb.block k hk⟩ (by cases hv : v.ownBlock <;> simp)
theorem calls_val {f : Nat} {args : Array Value} {w : World} {v v' : Value} (h : Calls Tryz.prog f args w fun e w' => e = .returned v ∧ Below w.heap.size w w') (hv : v = v') : Calls Tryz.prog f args w fun e w' => e = .returned v' ∧ Below w.heap.size w w' := by
  rw [← hv]; exact h
/-- rows of whatever structs: the cells one behind the other -/
def flatG {α : Type} (cs : α → List Value) (l : List α) : List Value := l.flatMap cs
theorem flatG_length {α : Type} {cs : α → List Value} {z : Nat} (hz : ∀ a, (cs a).length = z) (l : List α) : (flatG cs l).length = l.length * z := by
  induction l with
  | nil => simp [flatG]
  | cons a l ih =>
    have : flatG cs (a :: l) = cs a ++ flatG cs l := rfl
    rw [this, List.length_append, hz, ih, List.length_cons, Nat.succ_mul]; omega
theorem flatG_append {α : Type} (cs : α → List Value) (l m : List α) : flatG cs (l ++ m) = flatG cs l ++ flatG cs m := by simp [flatG]
theorem flatG_one {α : Type} (cs : α → List Value) (a : α) : flatG cs [a] = cs a := by simp [flatG]
theorem flatG_get {α : Type} {cs : α → List Value} {z : Nat} (hz : ∀ a, (cs a).length = z) (l : List α) (k : Nat) (a : α) (h : l[k]? = some a) (j : Nat) (hj : j < z) : (flatG cs l)[k * z + j]? = (cs a)[j]? := by
  induction l generalizing k with
  | nil => simp at h
  | cons b l ih =>
    have e : flatG cs (b :: l) = cs b ++ flatG cs l := rfl
    cases k with
    | zero =>
      simp at h
      subst h
      rw [e, Nat.zero_mul, Nat.zero_add, List.getElem?_append_left (by rw [hz]; exact hj)]
    | succ k =>
      have := ih k (by simpa using h)
      have e2 : (k + 1) * z = k * z + z := Nat.succ_mul k z
      rw [e, List.getElem?_append_right (by rw [hz]; omega), hz, show (k + 1) * z + j - z = k * z + j by omega]
      exact this
theorem flatG_take {α : Type} {cs : α → List Value} {z : Nat} (hz : ∀ a, (cs a).length = z) (l : List α) (k : Nat) : (flatG cs l).take (k * z) = flatG cs (l.take k) := by
  induction l generalizing k with
  | nil => simp [flatG]
  | cons b l ih =>
    cases k with
    | zero => simp [flatG]
    | succ k =>
      have e : flatG cs (b :: l) = cs b ++ flatG cs l := rfl
      have e2 : (k + 1) * z = z + k * z := by rw [Nat.succ_mul]; omega
      rw [e, e2, List.take_append, hz, List.take_of_length_le (by rw [hz]; omega), show z + k * z - z = k * z by omega, ih]
      rfl
theorem flatG_drop {α : Type} {cs : α → List Value} {z : Nat} (hz : ∀ a, (cs a).length = z) (l : List α) (k : Nat) : (flatG cs l).drop (k * z) = flatG cs (l.drop k) := by
  induction l generalizing k with
  | nil => simp [flatG]
  | cons b l ih =>
    cases k with
    | zero => simp
    | succ k =>
      have e : flatG cs (b :: l) = cs b ++ flatG cs l := rfl
      have e2 : (k + 1) * z = z + k * z := by rw [Nat.succ_mul]; omega
      rw [e, e2, List.drop_append, hz, List.drop_of_length_le (by rw [hz]; omega), show z + k * z - z = k * z by omega, ih, List.nil_append]
      rfl
/-- the row behind p, cell by cell; the empty row wants none -/
def RowG {α : Type} (cs : α → List Value) (z : Nat) (W : World) (p : Option Addr) (L : List α) : Prop := L = [] ∨ ∃ b off, p = some ⟨b, off, none⟩ ∧ ∀ k a, L[k]? = some a → ∀ j u, (cs a)[j]? = some u → W.cell? ⟨b, off + k * z + j, none⟩ = some u
theorem RowG.later {α : Type} {cs : α → List Value} {z : Nat} {w wr : World} {p : Option Addr} {L : List α} (h : RowG cs z w p L) (hb : Below w.heap.size w wr) : RowG cs z wr p L := by
  rcases h with h | ⟨b, off, h, hc⟩
  · exact .inl h
  · exact .inr ⟨b, off, h, fun k t hk j u hu => cell_below hb (hc k t hk j u hu)⟩
theorem RowG.at {α : Type} {cs : α → List Value} {z : Nat} {w : World} {p : Option Addr} {L : List α} (h : RowG cs z w p L) {k : Nat} {a : α} (hk : L[k]? = some a) : ∃ b off, p = some ⟨b, off, none⟩ ∧ ∀ j u, (cs a)[j]? = some u → w.cell? ⟨b, off + k * z + j, none⟩ = some u := by
  rcases h with h | ⟨b, off, h, hc⟩
  · subst h; simp at hk
  · exact ⟨b, off, h, hc k a hk⟩
theorem row_own {α : Type} {cs : α → List Value} {z : Nat} (hz : ∀ a, (cs a).length = z) {W : World} {base n : Nat} {e : TypeId} {p : Option Addr} {cap : Nat} {L : List α} (h : W.ownsRow base e z (.slice p n cap) n (flatG cs L)) (hn : n = L.length) : RowG cs z W p L := by
  subst hn
  by_cases h0 : L = []
  · exact .inl h0
  · right
    have hpos : 0 < L.length := List.length_pos_iff.2 h0
    rcases h.2 with ⟨h', h0⟩ | ⟨g, cap', cur, h', _⟩
    · omega
    · simp only [Value.slice.injEq] at h'
      obtain ⟨rfl, _, rfl⟩ := h'
      refine ⟨g, 0, rfl, fun k t hk j u hu => ?_⟩
      have hk' : k < L.length := (List.getElem?_eq_some_iff.1 hk).1
      have hj : j < z := by rw [← hz t]; exact (List.getElem?_eq_some_iff.1 hu).1
      have hlt : k * z + j < L.length * z := by
        have : (k + 1) * z ≤ L.length * z := Nat.mul_le_mul_right z hk'
        rw [Nat.succ_mul] at this
        omega
      rw [Nat.zero_add, h.cellAt (k * z + j) hlt, flatG_get hz L k t hk j hj]
      exact hu
theorem get_some {α : Type} (L : List α) (k : Nat) (hk : k < L.length) : ∃ t, L[k]? = some t := ⟨L[k], by simp [hk]⟩
/-- a thing's number and its place woven into one -/
structure Sp where
  id : Int
  c : Nat
/-- a square: how deep, its least code -/
structure Sq where
  d : Nat
  b : Nat
/-- a number and where -/
structure Mk where
  id : Int
  x : Int
  y : Int
def Sp.cs (s : Sp) : List Value := [.int .i64 s.id, .int .u32 (s.c : Nat)]
def Sq.cs (s : Sq) : List Value := [.int .i64 (s.d : Nat), .int .u32 (s.b : Nat)]
def Mk.cs (s : Mk) : List Value := [.int .i64 s.id, .int .i64 s.x, .int .i64 s.y]
theorem Sp.z (s : Sp) : s.cs.length = 2 := rfl
theorem Sq.z (s : Sq) : s.cs.length = 2 := rfl
theorem Mk.z (s : Mk) : s.cs.length = 3 := rfl
abbrev Sp.v (s : Sp) : Value := .agg #[.int .i64 s.id, .int .u32 (s.c : Nat)]
abbrev Sq.v (s : Sq) : Value := .agg #[.int .i64 (s.d : Nat), .int .u32 (s.b : Nat)]
abbrev Mk.v (s : Mk) : Value := .agg #[.int .i64 s.id, .int .i64 s.x, .int .i64 s.y]
abbrev cells2 (W : World) (b o : Nat) (u0 u1 : Value) : Prop := W.cell? ⟨b, o, none⟩ = some u0 ∧ W.cell? ⟨b, o + 1, none⟩ = some u1
abbrev cells3 (W : World) (b o : Nat) (u0 u1 u2 : Value) : Prop := W.cell? ⟨b, o, none⟩ = some u0 ∧ W.cell? ⟨b, o + 1, none⟩ = some u1 ∧ W.cell? ⟨b, o + 2, none⟩ = some u2
theorem spot_at {w : World} {p : Option Addr} {L : List Sp} (h : RowG Sp.cs 2 w p L) {k : Nat} {a : Sp} (hk : L[k]? = some a) : ∃ b off, p = some ⟨b, off, none⟩ ∧ cells2 w b (off + k * 2) (.int .i64 a.id) (.int .u32 (a.c : Nat)) := by
  obtain ⟨b, off, hp, hc⟩ := h.at hk
  exact ⟨b, off, hp, hc 0 _ rfl, hc 1 _ rfl⟩
theorem square_at {w : World} {p : Option Addr} {L : List Sq} (h : RowG Sq.cs 2 w p L) {k : Nat} {a : Sq} (hk : L[k]? = some a) : ∃ b off, p = some ⟨b, off, none⟩ ∧ cells2 w b (off + k * 2) (.int .i64 (a.d : Nat)) (.int .u32 (a.b : Nat)) := by
  obtain ⟨b, off, hp, hc⟩ := h.at hk
  exact ⟨b, off, hp, hc 0 _ rfl, hc 1 _ rfl⟩
theorem mark_at {w : World} {p : Option Addr} {L : List Mk} (h : RowG Mk.cs 3 w p L) {k : Nat} {a : Mk} (hk : L[k]? = some a) : ∃ b off, p = some ⟨b, off, none⟩ ∧ cells3 w b (off + k * 3) (.int .i64 a.id) (.int .i64 a.x) (.int .i64 a.y) := by
  obtain ⟨b, off, hp, hc⟩ := h.at hk
  exact ⟨b, off, hp, hc 0 _ rfl, hc 1 _ rfl, hc 2 _ rfl⟩
/-- but for the blocks of X nothing that was there has turned -/
structure Off (X : List Nat) (w w' : World) : Prop where
  os : w'.os = w.os
  tape : w'.tape = w.tape
  output : w'.output = w.output
  size : w.heap.size ≤ w'.heap.size
  block : ∀ k, k < w.heap.size → k ∉ X → w'.heap[k]? = w.heap[k]?
theorem Off.of_below {w w' : World} (h : Below w.heap.size w w') (X : List Nat) : Off X w w' := ⟨h.os, h.tape, h.output, h.size, fun k hk _ => h.block k hk⟩
theorem Off.refl (X : List Nat) (w : World) : Off X w w := ⟨rfl, rfl, rfl, Nat.le_refl _, fun _ _ _ => rfl⟩
theorem Off.trans {X Y : List Nat} {a b c : World} (h : Off X a b) (k : Off Y b c) (hy : ∀ y, y ∈ Y → y ∈ X ∨ a.heap.size ≤ y) : Off X a c :=
  ⟨k.os.trans h.os, k.tape.trans h.tape, k.output.trans h.output, Nat.le_trans h.size k.size, fun i hi hx => (k.block i (by have := h.size; omega) (fun hY => by rcases hy i hY with h' | h'; exact hx h'; omega)).trans (h.block i hi hx)⟩
theorem Off.below {X : List Nat} {w w' : World} (h : Off X w w') {B : Nat} (hB : B ≤ w.heap.size) (hx : ∀ x, x ∈ X → B ≤ x) : Below B w w' :=
  ⟨h.os, h.tape, h.output, h.size, fun k hk => h.block k (by omega) (fun hX => by have := hx k hX; omega)⟩
theorem Off.grown {w w' : World} {row : Option Nat} (h : w.grownBy w' row) {X : List Nat} (hx : ∀ k, row = some k → k ∈ X) : Off X w w' :=
  ⟨h.os, h.tape, h.output, h.size, fun k hk hX => h.block k hk (fun e => hX (hx k e.symm))⟩
/-- the block that a slice's row lies in -/
def ob (v : Value) : List Nat := match v.ownBlock with | some k => [k] | none => []
theorem mem_ob {v : Value} {k : Nat} : k ∈ ob v ↔ v.ownBlock = some k := by
  unfold ob; cases h : v.ownBlock <;> simp [eq_comm]
theorem owns_off {base : Nat} {e : TypeId} {size : Nat} {v : Value} {n : Nat} {xs : List Value} {W W' : World} {X : List Nat} (h : W.ownsRow base e size v n xs) (ho : Off X W W') (hx : ∀ k, k ∈ ob v → k ∉ X) : W'.ownsRow base e size v n xs := by
  refine ⟨h.1, ?_⟩
  rcases h.2 with hn | ⟨g, cap, cur, rfl, hb, hgg, rest⟩
  · exact .inl hn
  · refine .inr ⟨g, cap, cur, rfl, hb, ?_, rest⟩
    rw [ho.block g (lt_of_at hgg) (hx g (mem_ob.2 rfl))]
    exact hgg
theorem at_off {W W' : World} {X : List Nat} {g : Nat} {o : Obj} (h : W.heap[g]? = some o) (ho : Off X W W') (hx : g ∉ X) : W'.heap[g]? = some o := by
  rw [ho.block g (lt_of_at h) hx]; exact h
end Go.Proofs.YtildhbkcpehobaaGreatDoor
