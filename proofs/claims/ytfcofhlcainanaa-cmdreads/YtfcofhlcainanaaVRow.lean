/- Rows of cells that a call made and writes: what is read in them, what a store leaves, 'string(b)', '[]byte(s)', 'make': of no program. -/
import Derived.Test.YtfcofhlcainanaaPlain
import Derived.Below
import Derived.Laws.Rows
import Derived.Laws.MakeOwn
import Derived.Lib.ConvBytes
import Derived.Lib.BufferMore
namespace Go.Proofs.Ytfcofhlcainanaa
open Go.RowKit
set_option linter.unusedVariables false
/-- block g's first cells are xs, and none of them is frozen -/
def VRow (W : World) (g : Nat) (xs : List Value) : Prop :=
  ∃ (cur : Array Value) (e : TypeId) (lo hi : Nat), W.heap[g]? = some (.cells cur e (lo, hi)) ∧ (∀ j, j < xs.length → ¬ (lo ≤ j ∧ j < hi)) ∧ cur.toList.take xs.length = xs
theorem VRow.lt {W : World} {g : Nat} {xs : List Value} (h : VRow W g xs) : g < W.heap.size := by
  obtain ⟨cur, e, lo, hi, hg, _⟩ := h
  exact (Array.getElem?_eq_some_iff.1 hg).1
theorem VRow.cell? {W : World} {g : Nat} {xs : List Value} (h : VRow W g xs) (j : Nat) (hj : j < xs.length) : W.cell? ⟨g, j, none⟩ = xs[j]? := by
  obtain ⟨cur, e, lo, hi, hg, _, ht⟩ := h
  rw [cell_of_row W g j cur e (lo, hi) hg]
  have : (cur.toList.take xs.length)[j]? = xs[j]? := by rw [ht]
  rw [← this, List.getElem?_take, if_pos hj]
  simp
theorem VRow.cell {W : World} {g : Nat} {xs : List Value} (h : VRow W g xs) (j : Nat) (hj : j < xs.length) : W.cell? ⟨g, j, none⟩ = some xs[j] := by
  rw [h.cell? j hj]; simp
theorem VRow.frozen {W : World} {g : Nat} {xs : List Value} (h : VRow W g xs) (j : Nat) (hj : j < xs.length) : W.frozen? ⟨g, j, none⟩ = false := by
  obtain ⟨cur, e, lo, hi, hg, hf, ht⟩ := h
  have := hf j hj
  simp only [World.frozen?, hg]
  simp; omega
theorem VRow.set {W : World} {g : Nat} {xs : List Value} (h : VRow W g xs) (j : Nat) (v : Value) : VRow (W.setCell ⟨g, j, none⟩ v) g (xs.set j v) := by
  obtain ⟨cur, e, lo, hi, hg, hf, ht⟩ := h
  refine ⟨cur.setIfInBounds j v, e, lo, hi, ?_, by simpa using hf, ?_⟩
  · rw [setCell_eq_setRow W g j cur e (lo, hi) v hg]; exact setRow_heap W g cur _ e _ hg
  · rw [Array.toList_setIfInBounds, List.length_set, List.take_set, ht]
theorem VRow.heap {W W' : World} {g : Nat} {xs : List Value} (h : VRow W g xs) (e : W'.heap[g]? = W.heap[g]?) : VRow W' g xs := by
  unfold VRow; rw [e]; exact h
theorem VRow.below {B : Nat} {W W' : World} {g : Nat} {xs : List Value} (h : VRow W g xs) (hb : Below B W W') (hg : g < B) : VRow W' g xs := h.heap (hb.block g hg)
theorem VRow.drew {W : World} {g : Nat} {xs : List Value} (h : VRow W g xs) : VRow W.drew g xs := h
theorem VRow.other {W : World} {g : Nat} {xs : List Value} (h : VRow W g xs) (a : Addr) (v : Value) (hne : g ≠ a.block) : VRow (W.setCell a v) g xs := h.heap (heap_setCell_other W a g v hne)
theorem VRow.alloc {W : World} {g : Nat} {xs : List Value} (h : VRow W g xs) (o : Obj) : VRow (W.alloc o) g xs := by
  have := h.lt
  exact h.below (B := W.heap.size) ((Below.refl _ W).alloc (Nat.le_refl _) o) this
theorem VRow.fresh (W : World) (cs : Array Value) (e : TypeId) : VRow (W.alloc (.cells cs e)) W.heap.size cs.toList :=
  ⟨cs, e, 0, 0, heap_alloc_new W _, fun j _ => by omega, List.take_of_length_le (Nat.le_refl _)⟩
theorem VRow.take {W : World} {g : Nat} {xs : List Value} (h : VRow W g xs) (n : Nat) : VRow W g (xs.take n) := by
  obtain ⟨cur, e, lo, hi, hg, hf, ht⟩ := h
  refine ⟨cur, e, lo, hi, hg, fun j hj => hf j (by simp at hj; omega), ?_⟩
  rw [List.length_take, ← List.take_take, ht]
theorem u8s_length (xs : List UInt8) : (u8s xs).length = xs.length := by simp [u8s]
theorem u8s_get (xs : List UInt8) (j : Nat) (hj : j < xs.length) : (u8s xs)[j]? = some (.int .u8 xs[j].toNat) := by simp [u8s, hj]
theorem u8s_set (xs : List UInt8) (j : Nat) (b : UInt8) : (u8s xs).set j (.int .u8 b.toNat) = u8s (xs.set j b) := by simp [u8s, List.map_set]
theorem VRow.byte {W : World} {g : Nat} {xs : List UInt8} (h : VRow W g (u8s xs)) (j : Nat) (hj : j < xs.length) : W.cell? ⟨g, j, none⟩ = some (.int .u8 xs[j].toNat) := by
  rw [h.cell? j (by rw [u8s_length]; exact hj), u8s_get xs j hj]
theorem VRow.setByte {W : World} {g : Nat} {xs : List UInt8} (h : VRow W g (u8s xs)) (j : Nat) (b : UInt8) : VRow (W.setCell ⟨g, j, none⟩ (.int .u8 b.toNat)) g (u8s (xs.set j b)) := by
  rw [← u8s_set]; exact h.set j _
/-- 'string(b)' -/
theorem VRow.text {P : Program} {W : World} {src dst e g n cap : Nat} {xs : List UInt8} (h : VRow W g (u8s xs)) (hs : P.underlying src = some (.slice e)) (he : P.underlying e = some (.int .u8)) (hd : P.underlying dst = some .string) (hn : xs.length = n) :
    (convert src dst (.slice (some ⟨g, 0, none⟩) n cap)).run P W = .ok (.string ⟨xs.toArray⟩) W := by
  rw [← strOfU8s]
  refine run_convert_bytes_arg W src e hs he g 0 n cap _ (by simpa using hn) (fun i hi => ?_) dst hd
  rw [Nat.zero_add, h.byte i (by omega)]
  simp [List.getD, hn, hi]
/-- '[]byte(s)' -/
theorem bytes_row {P : Program} (w : World) (src dst e : TypeId) (s : ByteArray) (hs : P.underlying src = some .string) (hd : P.underlying dst = some (.slice e)) (he : P.underlying e = some (.int .u8)) :
    ∃ (W : World) (cap : Nat), (convert src dst (.string s)).run P w = .ok (.slice (some ⟨w.heap.size, 0, none⟩) s.size cap) W ∧ VRow W w.heap.size (u8s s.data.toList) ∧ Below w.heap.size w W := by
  refine ⟨_, _, Lib.run_convert_string_bytes w src dst e s hs hd he, ⟨_, e, _, _, Lib.bytesWorld_at_new w e s, fun j hj => ?_, ?_⟩, ?_⟩
  · rw [u8s_length] at hj
    simp [Lib.bytesCells]
    simp at hj
    omega
  · rw [u8s_length]
    simp [Lib.bytesCells, u8s]
  · exact ⟨rfl, rfl, rfl, by rw [Lib.bytesWorld_size]; omega, fun k hk => Lib.bytesWorld_at_old w e s k hk⟩
/-- 'make([]byte, n)' -/
theorem make_bytes {P : Program} (t e : TypeId) (i : TypeInfo) (ht : P.underlying t = some (.slice e)) (hi : P.info? e = some i) (hz : i.zero = some (.int .u8 0)) (hsz : i.size = 1) (hby : i.bytes = 1) (n : Nat) (hn : n ≤ 281474976710656) :
    ∃ M : Array Value, M.toList = u8s (List.replicate n 0) ∧ ∀ W : World, (Instr.makeSlice t (.int .i64 (n : Int)) (.int .i64 (n : Int))).run P W = .ok (.slice (some ⟨W.heap.size, 0, none⟩) n n) (W.alloc (.cells M e)) := by
  refine ⟨madeCells (Value.int .u8 0).cells (((n : Nat) : Int).toNat * i.size), ?_, fun W => ?_⟩
  · apply List.ext_getElem?
    intro j
    simp [madeCells, hsz, u8s, List.getElem?_replicate, Value.cells, Nat.mod_one]
    by_cases h : j < n <;> simp [h]
  · simpa using run_make (P := P) W t e i (.int .u8 0) ht hi hz .i64 .i64 (n : Int) (n : Int) (by omega) (by omega) (by rw [hby]; omega) (by omega)
theorem made_bytes {P : Program} (t e : TypeId) (i : TypeInfo) (ht : P.underlying t = some (.slice e)) (hi : P.info? e = some i) (hz : i.zero = some (.int .u8 0)) (hsz : i.size = 1) (hby : i.bytes = 1) (n : Nat) (hn : n ≤ 281474976710656) (z : Int) (hz : (n : Int) = z) (W : World) :
    ∃ W' : World, (Instr.makeSlice t (.int .i64 z) (.int .i64 z)).run P W = .ok (.slice (some ⟨W.heap.size, 0, none⟩) n n) W' ∧ VRow W' W.heap.size (u8s (List.replicate n 0)) ∧ Below W.heap.size W W' := by
  subst hz
  obtain ⟨M, hM, hmk⟩ := make_bytes (P := P) t e i ht hi ‹_› hsz hby n hn
  exact ⟨_, hmk W, hM ▸ VRow.fresh W M e, (Below.refl _ _).alloc (Nat.le_refl _) _⟩
end Go.Proofs.Ytfcofhlcainanaa
