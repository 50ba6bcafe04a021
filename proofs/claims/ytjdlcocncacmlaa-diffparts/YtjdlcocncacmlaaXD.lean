/- General facts, of no function: rows of structs in memory, copy and clear over them, stores into a stretch of a row; rows with one element more, one fewer. Laws for a region that draws its order, an operation a row: what yields in every world that the held fact allows is taken first. Of no program. -/
import Derived.Test.YtjdlcocncacmlaaHA
import Derived.ProofKit
import Derived.Below
import Derived.Deep.QuietTactic
import Derived.BigQuiet
import Derived.Lib.SmallJoins
import Derived.Lib.MinMax
import Derived.Lib.QuietBelow
import Derived.Deep.RegionWith
import Derived.Deep.AppendLies
import Derived.Deep.CutBlock
import Derived.WalkMore
import Derived.Deep.RegionLaw
import Derived.Shelf.Spec.SlicesInsertGrow
import Derived.Deep.RegionHeld3
namespace Go.Proofs.Ytjdlcocncacmlaa
section
section
open Go.RowKit
set_option linter.unusedVariables false
theorem below_drewN {B : Nat} {a w : World} (h : Below B a w) (n : Nat) : Below B a (w.drewN n) := by
  induction n with
  | zero => exact h
  | succ n ih => exact ih.drew
theorem cell_below {W w1 : World} {a : Addr} {v : Value} (hb : Below W.heap.size W w1) (h : W.cell? a = some v) : w1.cell? a = some v := by
  rw [hb.cell (World.block_lt_of_cell? W a h)]; exact h
/-- but for the block g nothing that was there has turned -/
structure But (g : Nat) (w w' : World) : Prop where
  os : w'.os = w.os
  tape : w'.tape = w.tape
  output : w'.output = w.output
  size : w.heap.size ≤ w'.heap.size
  block : ∀ k, k < w.heap.size → k ≠ g → w'.heap[k]? = w.heap[k]?
theorem But.trans {g : Nat} {a b c : World} (h : But g a b) (k : But g b c) : But g a c :=
  ⟨k.os.trans h.os, k.tape.trans h.tape, k.output.trans h.output, Nat.le_trans h.size k.size, fun i hi hx => (k.block i (by have := h.size; omega) hx).trans (h.block i hi hx)⟩
theorem But.setCell {g : Nat} {w w' : World} (h : But g w w') (i : Nat) (v : Value) : But g w (w'.setCell ⟨g, i, none⟩ v) :=
  ⟨h.os, h.tape, h.output, by have := h.size; simpa using this, fun k hk hx => by rw [Below.heap_setCell _ _ _ _ hx]; exact h.block k hk hx⟩
theorem lt_of_at {W : World} {g : Nat} {p : Obj} (h : W.heap[g]? = some p) : g < W.heap.size := (Array.getElem?_eq_some_iff.1 h).1
/-- rows of whatever structs: the cells one behind the other -/
def flatG {α : Type} (cs : α → List Value) (l : List α) : List Value := l.flatMap cs
theorem flatG_length {α : Type} {cs : α → List Value} {z : Nat} (hz : ∀ a, (cs a).length = z) (l : List α) : (flatG cs l).length = l.length * z := by
  induction l with
  | nil => simp [flatG]
  | cons a l ih =>
    have : flatG cs (a :: l) = cs a ++ flatG cs l := rfl
    rw [this, List.length_append, hz, ih, List.length_cons, Nat.succ_mul]; omega
theorem flatG_append {α : Type} (cs : α → List Value) (l m : List α) : flatG cs (l ++ m) = flatG cs l ++ flatG cs m := by simp [flatG]
theorem flatG_one {α : Type} (cs : α → List Value) (a : α) : flatG cs [a] = cs a := by simp [flatG]
theorem flatG_get {α : Type} {cs : α → List Value} {z : Nat} (hz : ∀ a, (cs a).length = z) (l : List α) (k : Nat) (a : α) (h : l[k]? = some a) (j : Nat) (hj : j < z) : (flatG cs l)[k * z + j]? = (cs a)[j]? := by
  induction l generalizing k with
  | nil => simp at h
  | cons b l ih =>
    have e : flatG cs (b :: l) = cs b ++ flatG cs l := rfl
    cases k with
    | zero =>
      simp at h
      subst h
      rw [e, Nat.zero_mul, Nat.zero_add, List.getElem?_append_left (by rw [hz]; exact hj)]
    | succ k =>
      have := ih k (by simpa using h)
      have e2 : (k + 1) * z = k * z + z := Nat.succ_mul k z
      rw [e, List.getElem?_append_right (by rw [hz]; omega), hz, show (k + 1) * z + j - z = k * z + j by omega]
      exact this
theorem flatG_take {α : Type} {cs : α → List Value} {z : Nat} (hz : ∀ a, (cs a).length = z) (l : List α) (k : Nat) : (flatG cs l).take (k * z) = flatG cs (l.take k) := by
  induction l generalizing k with
  | nil => simp [flatG]
  | cons b l ih =>
    cases k with
    | zero => simp [flatG]
    | succ k =>
      have e : flatG cs (b :: l) = cs b ++ flatG cs l := rfl
      have e2 : (k + 1) * z = z + k * z := by rw [Nat.succ_mul]; omega
      rw [e, e2, List.take_append, hz, List.take_of_length_le (by rw [hz]; omega), show z + k * z - z = k * z by omega, ih]
      rfl
theorem flatG_drop {α : Type} {cs : α → List Value} {z : Nat} (hz : ∀ a, (cs a).length = z) (l : List α) (k : Nat) : (flatG cs l).drop (k * z) = flatG cs (l.drop k) := by
  induction l generalizing k with
  | nil => simp [flatG]
  | cons b l ih =>
    cases k with
    | zero => simp
    | succ k =>
      have e : flatG cs (b :: l) = cs b ++ flatG cs l := rfl
      have e2 : (k + 1) * z = z + k * z := by rw [Nat.succ_mul]; omega
      rw [e, e2, List.drop_append, hz, List.drop_of_length_le (by rw [hz]; omega), show z + k * z - z = k * z by omega, ih, List.nil_append]
      rfl
theorem get_some {α : Type} (L : List α) (k : Nat) (hk : k < L.length) : ∃ t, L[k]? = some t := ⟨L[k], by simp [hk]⟩
/-- but for the blocks of X nothing that was there has turned -/
structure Off (X : List Nat) (w w' : World) : Prop where
  os : w'.os = w.os
  tape : w'.tape = w.tape
  output : w'.output = w.output
  size : w.heap.size ≤ w'.heap.size
  block : ∀ k, k < w.heap.size → k ∉ X → w'.heap[k]? = w.heap[k]?
theorem Off.trans {X Y : List Nat} {a b c : World} (h : Off X a b) (k : Off Y b c) (hy : ∀ y, y ∈ Y → y ∈ X ∨ a.heap.size ≤ y) : Off X a c :=
  ⟨k.os.trans h.os, k.tape.trans h.tape, k.output.trans h.output, Nat.le_trans h.size k.size, fun i hi hx => (k.block i (by have := h.size; omega) (fun hY => by rcases hy i hY with h' | h'; exact hx h'; omega)).trans (h.block i hi hx)⟩
theorem owns_read {base : Nat} {e : TypeId} {z : Nat} {g n cap : Nat} {xs : List Value} {w : World} (h : w.ownsRow base e z (.slice (some ⟨g, 0, none⟩) n cap) n xs) : ∀ j u, xs[j]? = some u → w.cell? ⟨g, j, none⟩ = some u := by
  intro j u hu
  rw [h.cellAt j (by have := (List.getElem?_eq_some_iff.1 hu).1; rw [h.1] at this; exact this)]
  exact hu
end
section
open Go.RowKit
set_option linter.unusedVariables false
theorem owns_some {W : World} {base : Nat} {e : TypeId} {size : Nat} {p : Option Addr} {n cap : Nat} {xs : List Value} (h : W.ownsRow base e size (.slice p n cap) n xs) (hn : 0 < n) : ∃ g, p = some ⟨g, 0, none⟩ ∧ base ≤ g ∧ g < W.heap.size ∧ n ≤ cap ∧ cap ≤ maxLen := by
  rcases h.2 with ⟨_, h2⟩ | ⟨g, cap', cur, h1, h2, h3, h4, h5, h6, h7⟩
  · omega
  · simp only [Value.slice.injEq] at h1
    obtain ⟨rfl, _, rfl⟩ := h1
    exact ⟨g, rfl, h2, lt_of_at h3, h4, h5⟩
end
section
open Go.RowKit
set_option linter.unusedVariables false
theorem info_parts3 {t : TypeId} {z : Value} {s b : Nat} (h : (Try.prog.info? t).map (fun i => (i.zero, i.size, i.bytes)) = some (some z, s, b)) : ∃ i, Try.prog.info? t = some i ∧ i.zero = some z ∧ i.size = s ∧ i.bytes = b := by
  cases hi : Try.prog.info? t with
  | none => rw [hi] at h; cases h
  | some i =>
    rw [hi] at h
    simp at h
    exact ⟨i, rfl, h.1, h.2.1, h.2.2⟩
end
section
open Go.RowKit
set_option linter.unusedVariables false
theorem run_copy_z {P : Program} (w : World) (dT sT ty elem : TypeId) (z : Nat) (b o dLen dCap : Nat) (a : Addr) (sLen sCap m : Nat) (cs : List Value)
    (hu : P.underlying dT = some (.slice elem)) (hs : (P.info? elem).map (·.size) = some z) (hm : Nat.min sLen dLen = m) (hn : cs.length = m * z)
    (hsrc : ∀ j v, cs[j]? = some v → w.cell? (a.add j) = some v) (hc : ∀ j, j < cs.length → (w.cell? ⟨b, o + j, none⟩).isSome = true) (hf : ∀ j, j < cs.length → w.frozen? ⟨b, o + j, none⟩ = false) (h1 : ∀ v ∈ cs, v.oneCell' = true) :
    (Builtin.copy_ #[dT, sT] ty #[.slice (some ⟨b, o, none⟩) dLen dCap, .slice (some a) sLen sCap]).run P w = .ok (goInt m) (w.setCells b o cs) := by
  have hl := run_loadCells_list (P := P) w a cs hsrc
  have hst := run_storeCells_cells (P := P) b o cs 0 w (by simpa using hc) (by simpa using hf) h1
  rw [hn] at hl
  cases hq : P.info? elem with
  | none => simp [hq] at hs
  | some i =>
    have hi : i.size = z := by simpa [hq] using hs
    simp [Builtin.copy_, run_underlying hu, Builtin.lenOf, Builtin.firstCells, sizeOf, typeInfo, hq, hi, hm, hl, hst]
theorem setCells_other (g : Nat) : ∀ (vs : List Value) (o : Nat) (W : World) (k : Nat), k ≠ g → (W.setCells g o vs).heap[k]? = W.heap[k]?
  | [], _, _, _, _ => rfl
  | v :: r, o, W, k, h => by rw [World.setCells, setCells_other g r _ _ k h, Below.heap_setCell _ _ _ _ h]
theorem setCells_size (g : Nat) : ∀ (vs : List Value) (o : Nat) (W : World), (W.setCells g o vs).heap.size = W.heap.size
  | [], _, _ => rfl
  | v :: r, o, W => by rw [World.setCells, setCells_size g r]; simp [World.setCell]
theorem setCells_rest (g : Nat) : ∀ (vs : List Value) (o : Nat) (W : World), (W.setCells g o vs).os = W.os ∧ (W.setCells g o vs).tape = W.tape ∧ (W.setCells g o vs).output = W.output
  | [], _, _ => ⟨rfl, rfl, rfl⟩
  | v :: r, o, W => by
    obtain ⟨a, b, c⟩ := setCells_rest g r (o + 1) (W.setCell ⟨g, o, none⟩ v)
    rw [World.setCells]
    exact ⟨a, b, c⟩
/-- what a row holds behind stores into a stretch of it -/
theorem setCells_block (g : Nat) {e : TypeId} {fr : Nat × Nat} : ∀ (vs : List Value) (o : Nat) (W : World) (cur : Array Value), W.heap[g]? = some (.cells cur e fr) → o + vs.length ≤ cur.size →
    ∃ cur' : Array Value, (W.setCells g o vs).heap[g]? = some (.cells cur' e fr) ∧ cur'.toList = cur.toList.take o ++ vs ++ cur.toList.drop (o + vs.length)
  | [], o, W, cur, h, _ => ⟨cur, h, by simp⟩
  | v :: r, o, W, cur, h, hl => by
    have h1 := set_at (i := o) h v (cs' := cur.setIfInBounds o v) rfl
    simp only [List.length_cons] at hl
    obtain ⟨cur', h2, h3⟩ := setCells_block g r (o + 1) _ _ h1 (by simp; omega)
    refine ⟨cur', by rw [World.setCells]; exact h2, ?_⟩
    rw [h3, Array.toList_setIfInBounds]
    have hlt : o < cur.toList.length := by simp; omega
    rw [List.take_set, List.drop_set, if_pos (by omega)]
    have e1 : (cur.toList.take (o + 1)).set o v = cur.toList.take o ++ [v] := by
      rw [List.take_add_one, List.getElem?_eq_getElem hlt]
      have : (cur.toList.take o).length = o := by rw [List.length_take]; omega
      rw [List.set_append, if_neg (by omega), this, Nat.sub_self]
      rfl
    rw [e1, List.length_cons, show o + 1 + r.length = o + (r.length + 1) by omega]
    simp
end
section
open Go.RowKit
set_option linter.unusedVariables false
def delS {α : Type} (S : List α) (i : Nat) : List α := S.take i ++ S.drop (i + 1)
def insS {α : Type} (S : List α) (i : Nat) (s : α) : List α := S.take i ++ s :: S.drop i
theorem delS_length {α : Type} {S : List α} {i : Nat} (h : i < S.length) : (delS S i).length = S.length - 1 := by
  unfold delS
  rw [List.length_append, List.length_take, List.length_drop]; omega
theorem insS_length {α : Type} {S : List α} {i : Nat} {s : α} (h : i ≤ S.length) : (insS S i s).length = S.length + 1 := by
  unfold insS
  rw [List.length_append, List.length_take, List.length_cons, List.length_drop]; omega
theorem grownBy_sets (W : World) (g : Nat) (o1 o2 : Nat) (v1 v2 : List Value) : W.grownBy ((W.setCells g o1 v1).setCells g o2 v2) (some g) := by
  obtain ⟨a1, a2, a3⟩ := setCells_rest g v1 o1 W
  obtain ⟨b1, b2, b3⟩ := setCells_rest g v2 o2 (W.setCells g o1 v1)
  refine ⟨b1.trans a1, b2.trans a2, b3.trans a3, by rw [setCells_size, setCells_size]; exact Nat.le_refl _, fun k hk hne => ?_⟩
  have h : k ≠ g := fun e => hne (by rw [e])
  rw [setCells_other g _ _ _ k h, setCells_other g _ _ _ k h]
end
section
open Go.RowKit
set_option linter.unusedVariables false
theorem insS_end {α : Type} (S : List α) (s : α) : insS S S.length s = S ++ [s] := by simp [insS]
end
end
section
open Go.RowKit
set_option linter.unusedVariables false
/-- the operation of number k -/
def nthIs : List Oper → Nat → Oper → Prop
  | [], _, _ => False
  | a :: _, 0, b => a = b
  | _ :: l, k + 1, b => nthIs l k b
theorem nth_is : ∀ {l : List Oper} {k : Nat} {o : Oper}, nthIs l k o → l.toArray[k]? = some o
  | [], _, _, h => h.elim
  | a :: _, 0, b, h => by cases h; rfl
  | _ :: l, k + 1, b, h => by
    have := nth_is (l := l) h
    simpa using this
section
variable {P : Program} {l : List Oper} {Q : Exit → Act → World → Prop} {md : Region.Mode} {S : World → Prop}
theorem take_yes {i : Nat} {oi : Oper} {v : Value} {fuel : Nat} {listed : Array Bool} {a : Act} {w : World} (hi : nthIs l i oi) (hs : Region.noSelect l.toArray = true) (hf : Region.free md l.toArray listed i = true) (hr : (Region.ready md l.toArray listed).contains i = true)
    (hQ : ∀ c a w, Q (.panic c) (a.put oi.dst v) w → Q (.panic c) a w) (hw : Region.wanted oi (yielded l.toArray a.tmps) = true) (hy : ∀ w, S w → (execOp a.eval oi).run P w = .ok (.value v) w) (hS : S w)
    (h : wpAnyH P md l.toArray Q S fuel (listed.setIfInBounds i true) (a.put oi.dst v) w) : wpAnyH P md l.toArray Q S (fuel + 1) listed a w :=
  wpAnyH_take (nth_is hi) hs hf hr hQ (.inl ⟨hw, hy⟩) hS h
theorem take_no {i : Nat} {oi : Oper} {fuel : Nat} {listed : Array Bool} {a : Act} {w : World} (hi : nthIs l i oi) (hs : Region.noSelect l.toArray = true) (hf : Region.free md l.toArray listed i = true) (hr : (Region.ready md l.toArray listed).contains i = true)
    (hQ : ∀ c a w, Q (.panic c) (a.put oi.dst undef) w → Q (.panic c) a w) (hw : Region.wanted oi (yielded l.toArray a.tmps) = false) (hS : S w)
    (h : wpAnyH P md l.toArray Q S fuel (listed.setIfInBounds i true) (a.put oi.dst undef) w) : wpAnyH P md l.toArray Q S (fuel + 1) listed a w :=
  wpAnyH_take (nth_is hi) hs hf hr hQ (.inr ⟨hw, rfl⟩) hS h
theorem cons_at {fuel : Nat} {listed : Array Bool} {a : Act} {w : World} {i : Nat} {o : Oper} {rs : List Nat} (hi : nthIs l i o)
    (h : ∀ K' : Act → World → Prop, Shut (∀ a w, S w → (S w → wpAnyH P md l.toArray Q S fuel (listed.setIfInBounds i true) a w) → K' a w) → if Region.wanted o (yielded l.toArray a.tmps) = true then Oper.wp P o a w K' Q else K' (a.put o.dst undef) w)
    (hs : AllReadyH P md l.toArray Q S fuel listed a w rs) : AllReadyH P md l.toArray Q S fuel listed a w (i :: rs) := AllReadyH.cons (nth_is hi) h hs
end
end
end Go.Proofs.Ytjdlcocncacmlaa
