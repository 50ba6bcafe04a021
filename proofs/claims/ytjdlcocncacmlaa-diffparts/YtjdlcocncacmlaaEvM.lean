/- Events in memory: rows of them, what comes in, what a call made; loads and stores of a whole event; equality. -/
import Derived.Test.YtjdlcocncacmlaaEA
import Derived.Test.YtjdlcocncacmlaaHA
import Derived.Deep.AppendLies
import Derived.Deep.MidRow
import Derived.ChangeKeysEq
namespace Go.Proofs.Ytjdlcocncacmlaa
open Go.RowKit Go.ChangeShapes Go.WideShapes Go.Deep Go.Joins
set_option linter.unusedVariables false
set_option maxRecDepth 100000
theorem But.of_below {g : Nat} {w w1 : World} (h : Below w.heap.size w w1) : But g w w1 := ⟨h.os, h.tape, h.output, h.size, fun i hi _ => h.block i hi⟩
theorem But.below {g : Nat} {w a b : World} (h : Below w.heap.size w a) (k : But g a b) (hg : w.heap.size ≤ g) : Below w.heap.size w b :=
  ⟨k.os.trans h.os, k.tape.trans h.tape, k.output.trans h.output, Nat.le_trans h.size k.size, fun i hi => (k.block i (by have := h.size; omega) (by omega)).trans (h.block i hi)⟩
theorem But.at {g b : Nat} {w w' : World} (h : But g w w') {o : Obj} (k : w.heap[b]? = some o) (hb : b ≠ g) : w'.heap[b]? = some o := by
  rw [h.block b (at_lt k) hb]; exact k
theorem But.refl (g : Nat) (w : World) : But g w w := ⟨rfl, rfl, rfl, Nat.le_refl _, fun _ _ _ => rfl⟩
theorem But.alloc {g : Nat} {w w' : World} (h : But g w w') (o : Obj) : But g w (w'.alloc o) :=
  ⟨h.os, h.tape, h.output, by have := h.size; simp; omega, fun k hk hx => by rw [heap_alloc, if_neg (by have := h.size; omega)]; exact h.block k hk hx⟩
theorem cellsOfEv : Try.prog.cellsOf 44 = 25 := by kernel_rfl
theorem Try.sizeEv : (Try.prog.info? 44).map (·.size) = some 25 := by kernel_rfl
theorem Try.infoEv : (Try.prog.info? 44).map (fun i => (i.zero, i.size, i.bytes)) = some (some zE.v, 25, 264) := by kernel_rfl
/- equality -/
theorem equal_fl7 (W : World) (a b : Fl) : (Op.equalIn 9997 37 a.v b.v).run Try.prog W = .ok (eqF a b) W := by
  obtain ⟨n, s⟩ := a
  obtain ⟨m, t⟩ := b
  by_cases h0 : n = m <;> by_cases h1 : s = t <;> simp [go_sem, h0, h1, toList_inj, eqF]
theorem equal_fs8 (W : World) (f0 f1 f2 f3 g0 g1 g2 g3 : Fl) : (Op.equalIn 9998 38 (.agg #[.int .i64 f0.n, .string f0.s, .int .i64 f1.n, .string f1.s, .int .i64 f2.n, .string f2.s, .int .i64 f3.n, .string f3.s]) (.agg #[.int .i64 g0.n, .string g0.s, .int .i64 g1.n, .string g1.s, .int .i64 g2.n, .string g2.s, .int .i64 g3.n, .string g3.s])).run Try.prog W = .ok (eqF f0 g0 && (eqF f1 g1 && (eqF f2 g2 && eqF f3 g3))) W := by
  obtain ⟨i, hi⟩ := Option.isSome_iff_exists.1 Try.info25s
  rw [run_equalIn_array W 9997 _ _ Try.underlying38 hi, Try.cellsE25]
  have e := equal_fl7
  unfold Fl.v at e
  simp only [List.range, List.range.loop, Op.eqItems, Sem.run_bind, Nat.zero_mul, Nat.one_mul, part25, Result.andThen_ok, show 2 * 2 = 4 from rfl, show 3 * 2 = 6 from rfl, e]
  cases h0 : eqF f0 g0 <;> cases h1 : eqF f1 g1 <;> cases h2 : eqF f2 g2 <;> cases h3 : eqF f3 g3 <;> simp only [h1, h2, h3, e, Sem.run_bind, Sem.run_pure, part25, Result.andThen_ok, reduceIte, Bool.not_false, Bool.not_true, Bool.false_eq_true, Bool.false_and, Bool.true_and]
set_option maxHeartbeats 2000000 in
theorem equal_dl9 (W : World) (a b : Dl) : (Op.equalIn 9999 42 a.v b.v).run Try.prog W = .ok (eqD a b) W := by
  obtain ⟨a0, a1, a2, a3, a4, a5, a6, a7⟩ := a
  obtain ⟨b0, b1, b2, b3, b4, b5, b6, b7⟩ := b
  have e := fun W => equal_fs8 W a4 a5 a6 a7 b4 b5 b6 b7
  by_cases h0 : a0 = b0
  · by_cases h1 : a1 = b1
    · by_cases h2 : a2 = b2
      · by_cases h3 : a3 = b3
        · subst h0 h1 h2 h3
          simp [go_sem, e, eqD]
          cases h4 : eqF a4 b4 <;> cases h5 : eqF a5 b5 <;> cases h6 : eqF a6 b6 <;> cases h7 : eqF a7 b7 <;> rfl
        · simp [go_sem, h0, h1, h2, h3, eqD]
      · simp [go_sem, h0, h1, h2, eqD]
    · have h1' : ¬ (a1 : Int) = b1 := by omega
      simp [go_sem, h0, h1, h1', eqD]
  · simp [go_sem, h0, eqD]
set_option maxHeartbeats 2000000 in
theorem equal_th9 (W : World) (a b : Th) : (Op.equalIn 9999 40 a.v b.v).run Try.prog W = .ok (eqT a b) W := by
  obtain ⟨a0, a2, a3, a4, a5, a6, a7⟩ := a
  obtain ⟨b0, b2, b3, b4, b5, b6, b7⟩ := b
  have e := fun W => equal_fs8 W a4 a5 a6 a7 b4 b5 b6 b7
  by_cases h0 : a0 = b0
  · by_cases h2 : a2 = b2
    · by_cases h3 : a3 = b3
      · subst h0 h2 h3
        simp [go_sem, e, eqT]
        cases h4 : eqF a4 b4 <;> cases h5 : eqF a5 b5 <;> cases h6 : eqF a6 b6 <;> cases h7 : eqF a7 b7 <;> rfl
      · simp [go_sem, h0, h2, h3, eqT]
    · simp [go_sem, h0, h2, eqT]
  · simp [go_sem, h0, eqT]
set_option maxHeartbeats 4000000 in
theorem equal_ev (W : World) (a b : Ev) : (Op.equalIn 10000 44 a.v b.v).run Try.prog W = .ok (eqE a b) W := by
  have e1 := fun W => equal_th9 W a.t b.t
  have e2 := fun W => equal_dl9 W a.d b.d
  unfold eqE
  generalize eqT a.t b.t = q1 at e1 ⊢
  generalize eqD a.d b.d = q2 at e2 ⊢
  obtain ⟨a0, a1, a2, a3⟩ := a
  obtain ⟨b0, b1, b2, b3⟩ := b
  simp only at e1 e2
  by_cases h0 : a0 = b0
  · by_cases h1 : a1 = b1
    · subst h0 h1
      cases q1
      · simp [go_sem, e1]
      · simp [go_sem, e1, e2]
        cases q2 <;> rfl
    · simp [go_sem, h0, h1]
  · simp [go_sem, h0]
theorem equal_ev_at {a b : Ev} {q : Bool} (h : eqE a b = q) (W : World) : (Op.equalIn 10000 44 a.v b.v).run Try.prog W = .ok q W := by rw [equal_ev, h]
/- loads and stores of a whole event in a block of its own -/
theorem wpList_load_ev {ops : Array Oper} {rest : List Oper} {o : Oper} {a : Act} {W : World} {Q : Exit → Act → World → Prop} (hgd : o.guard = none) (x : Operand) (ho : o.op = .load 44 x)
    {g : Nat} {c : Ev} (hx : a.eval x = .pointer (some ⟨g, 0, none⟩)) (h : W.heap[g]? = some c.o) (k : wpList Try.prog ops Q rest (a.put o.dst c.v) W) : wpList Try.prog ops Q (o :: rest) a W :=
  wpList_load_row hgd _ x ho g hx _ _ _ _ h Try.underlying44 rfl Try.sizeEv k
theorem wpList_load_evG {ops : Array Oper} {rest : List Oper} {o : Oper} {a : Act} {W : World} {Q : Exit → Act → World → Prop} (hw : Region.wanted o (yielded ops a.tmps) = true) (x : Operand) (ho : o.op = .load 44 x)
    {g : Nat} {c : Ev} (hx : a.eval x = .pointer (some ⟨g, 0, none⟩)) (h : W.heap[g]? = some c.o) (k : wpList Try.prog ops Q rest (a.put o.dst c.v) W) : wpList Try.prog ops Q (o :: rest) a W := by
  rw [wpList, if_pos hw]
  exact .inl (wp_load_row _ x ho g hx _ _ _ _ h Try.underlying44 rfl Try.sizeEv k)
theorem load_ev_at {W : World} {g : Nat} {c : Ev} (h : W.heap[g]? = some c.o) : (Instr.loadAt 44 (.pointer (some ⟨g, 0, none⟩))).run Try.prog W = .ok c.v W := by
  simp only [Instr.loadAt, Instr.sureAddr, Sem.run_bind, Sem.run_pure, Result.andThen_ok]
  exact run_loadVar_row W g _ _ _ _ _ h Try.underlying44 rfl Try.sizeEv
theorem quiet_load_ev {ops : Array Oper} {rest : List Oper} {o : Oper} {a : Act} {C : World → Prop} {Q : Act → Prop} (hw : Region.wanted o (yielded ops a.tmps) = true) (x : Operand) (ho : o.op = .load 44 x)
    {g : Nat} {c : Ev} (hx : a.eval x = .pointer (some ⟨g, 0, none⟩)) (h : ∀ W, C W → W.heap[g]? = some c.o) (k : wpQuiet Try.prog ops C Q rest (a.put o.dst c.v)) : wpQuiet Try.prog ops C Q (o :: rest) a := by
  rw [wpQuiet, if_pos hw]
  refine ⟨c.v, fun W hW => ?_, k⟩
  unfold Oper.quietAt
  have e : (execOp a.eval o).run Try.prog W = .ok (.value c.v) W := by
    unfold execOp
    simp only [ho, hx, Sem.run_bind, load_ev_at (h W hW), Result.andThen_ok, Sem.run_pure]
  rw [e]
  exact ⟨rfl, rfl⟩
theorem one25 (e : Ev) : (#[.int .i64 e.k, .int .i64 e.i, .int .i64 e.t.id, .int .i64 e.t.x, .int .i64 e.t.y, .int .i64 e.t.f0.n, .string e.t.f0.s, .int .i64 e.t.f1.n, .string e.t.f1.s, .int .i64 e.t.f2.n, .string e.t.f2.s, .int .i64 e.t.f3.n, .string e.t.f3.s, .int .i64 e.d.id, .int .u8 e.d.m, .int .i64 e.d.x, .int .i64 e.d.y, .int .i64 e.d.f0.n, .string e.d.f0.s, .int .i64 e.d.f1.n, .string e.d.f1.s, .int .i64 e.d.f2.n, .string e.d.f2.s, .int .i64 e.d.f3.n, .string e.d.f3.s] : Array Value).all (·.oneCell') = true := by
  simp [Value.oneCell']
theorem evs_cell (e : Ev) : ∀ u ∈ e.cs, u.oneCell' = true := by
  intro u hu
  have := one25 e
  rw [Array.all_eq_true'] at this
  exact this u (by simpa [Ev.cs] using hu)
theorem flatE_cell (L : List Ev) : ∀ u ∈ L.flatMap Ev.cs, u.oneCell' = true := by
  intro u hu
  obtain ⟨a, _, hu⟩ := List.mem_flatMap.1 hu
  exact evs_cell a u hu
theorem wpList_store_ev {ops : Array Oper} {rest : List Oper} {o : Oper} {a : Act} {W : World} {Q : Exit → Act → World → Prop} (hgd : o.guard = none) (x y : Operand) (ho : o.op = .store 44 x y)
    {g : Nat} {c d : Ev} (hx : a.eval x = .pointer (some ⟨g, 0, none⟩)) (hy : a.eval y = c.v) (h : W.heap[g]? = some d.o) (k : ∀ W', W'.heap[g]? = some c.o → But g W W' → W'.heap.size = W.heap.size → wpList Try.prog ops Q rest (a.put o.dst undef) W') : wpList Try.prog ops Q (o :: rest) a W :=
  wpList_store_row hgd _ x y ho g _ hx hy _ _ h Try.sizeEv rfl (one25 c) (k _ (setRow_heap W g _ _ _ _ h) ⟨rfl, rfl, rfl, by simp, fun i hi hg => setRow_other W g i _ hg⟩ (by simp))
theorem load_var_ev {W : World} {g : Nat} {c : Ev} (h : W.heap[g]? = some c.o) : (loadVar 44 ⟨g, 0, none⟩).run Try.prog W = .ok c.v W :=
  run_loadVar_row W g _ _ _ _ _ h Try.underlying44 rfl Try.sizeEv
/- rows -/
def flatE (l : List Ev) : List Value := l.flatMap Ev.cs
theorem flatE_length (l : List Ev) : (flatE l).length = l.length * 25 := by
  induction l with
  | nil => rfl
  | cons r l ih => simp [flatE, Ev.cs] at ih ⊢; omega
theorem flatE_append (l m : List Ev) : flatE (l ++ m) = flatE l ++ flatE m := by simp [flatE]
theorem flatE_one (t : Ev) : flatE [t] = t.cs := by simp [flatE]
theorem flatE_get (l : List Ev) (k : Nat) (t : Ev) (h : l[k]? = some t) (j : Nat) (hj : j < 25) : (flatE l)[k * 25 + j]? = t.cs[j]? := by
  induction l generalizing k with
  | nil => simp at h
  | cons a l ih =>
    have e : flatE (a :: l) = a.cs ++ flatE l := rfl
    have hl : ∀ t : Ev, t.cs.length = 25 := fun t => rfl
    cases k with
    | zero =>
      simp at h
      subst h
      rw [e, Nat.zero_mul, Nat.zero_add, List.getElem?_append_left (by rw [hl]; exact hj)]
    | succ k =>
      have := ih k (by simpa using h)
      rw [e, List.getElem?_append_right (by rw [hl]; omega), hl, show (k + 1) * 25 + j - 25 = k * 25 + j by omega]
      exact this
/-- the row behind p, cell by cell; the empty row wants none -/
def RowE (W : World) (p : Option Addr) (L : List Ev) : Prop := L = [] ∨ ∃ b off, p = some ⟨b, off, none⟩ ∧ ∀ k t, L[k]? = some t → W.rangeAt b (off + k * 25) t.cs
theorem RowE.later {w wr : World} {p : Option Addr} {L : List Ev} (h : RowE w p L) (hb : Below w.heap.size w wr) : RowE wr p L := by
  rcases h with h | ⟨b, off, h, hc⟩
  · exact .inl h
  · exact .inr ⟨b, off, h, fun k t hk j v hv => cell_below hb (hc k t hk j v hv)⟩
theorem RowE.at {w : World} {p : Option Addr} {L : List Ev} (h : RowE w p L) {k : Nat} {t : Ev} (hk : L[k]? = some t) : ∃ b off, p = some ⟨b, off, none⟩ ∧ w.rangeAt b (off + k * 25) t.cs := by
  rcases h with h | ⟨b, off, h, hc⟩
  · subst h; simp at hk
  · exact ⟨b, off, h, hc k t hk⟩
theorem csE_len (t : Ev) : t.cs.length = 25 := rfl
theorem rowE_own {W : World} {base n : Nat} {p : Option Addr} {cap : Nat} {L : List Ev} (h : W.ownsRow base 44 25 (.slice p n cap) n (flatE L)) (hn : n = L.length) : RowE W p L := by
  subst hn
  by_cases h0 : L = []
  · exact .inl h0
  · right
    have hpos : 0 < L.length := List.length_pos_iff.2 h0
    rcases h.2 with ⟨h', h0⟩ | ⟨g, cap', cur, h', _⟩
    · omega
    · simp only [Value.slice.injEq] at h'
      obtain ⟨rfl, _, rfl⟩ := h'
      refine ⟨g, 0, rfl, fun k t hk j v hv => ?_⟩
      have hk' : k < L.length := (List.getElem?_eq_some_iff.1 hk).1
      have hj : j < 25 := by have := (List.getElem?_eq_some_iff.1 hv).1; rw [csE_len] at this; exact this
      have hlt : k * 25 + j < L.length * 25 := by omega
      rw [Nat.zero_add, h.cellAt (k * 25 + j) hlt, flatE_get L k t hk j hj]
      exact hv
theorem wpList_load_mid_ev {ops : Array Oper} {rest : List Oper} {o : Oper} {a : Act} {W : World} {Q : Exit → Act → World → Prop} (hgd : o.guard = none) (x : Operand) (ho : o.op = .load 44 x)
    {b p : Nat} {c : Ev} (hx : a.eval x = .pointer (some ⟨b, p, none⟩)) (h : W.rangeAt b p c.cs) (k : wpList Try.prog ops Q rest (a.put o.dst c.v) W) : wpList Try.prog ops Q (o :: rest) a W :=
  wpList_load_mid hgd _ x ho b p hx c.cs _ h Try.underlying44 rfl Try.sizeEv k
theorem quiet_load_mid_ev {ops : Array Oper} {rest : List Oper} {o : Oper} {a : Act} {C : World → Prop} {Q : Act → Prop} (hw : Region.wanted o (yielded ops a.tmps) = true) (x : Operand) (ho : o.op = .load 44 x)
    {b p : Nat} {c : Ev} (hx : a.eval x = .pointer (some ⟨b, p, none⟩)) (h : ∀ W, C W → W.rangeAt b p c.cs) (k : wpQuiet Try.prog ops C Q rest (a.put o.dst c.v)) : wpQuiet Try.prog ops C Q (o :: rest) a := by
  rw [wpQuiet, if_pos hw]
  refine ⟨c.v, fun W hW => ?_, k⟩
  unfold Oper.quietAt
  have e0 : (Instr.loadAt 44 (.pointer (some ⟨b, p, none⟩))).run Try.prog W = .ok c.v W := run_loadAt_mid W b p _ c.cs _ (h W hW) Try.underlying44 rfl Try.sizeEv
  have e : (execOp a.eval o).run Try.prog W = .ok (.value c.v) W := by
    unfold execOp
    simp only [ho, hx, Sem.run_bind, e0, Result.andThen_ok, Sem.run_pure]
  rw [e]
  exact ⟨rfl, rfl⟩
theorem range_on {W W' : World} {b p : Nat} {cs : List Value} (h : W.rangeAt b p cs) (hb : Below W.heap.size W W') : W'.rangeAt b p cs := fun j v hv => cell_below hb (h j v hv)
section
variable {H : Type} {enc : TypeId × Value → H} {w : World} {base : Nat} {spare : Nat → Bool} {held : Bool} {r : Reach} {b0 : Nat} {v : Value} {d : DataW H} {p : List MemPlace}
theorem list12 {α : Type} {l : List α} (h : l.length = 12) : ∃ c0 c1 c2 c3 c4 c5 c6 c7 c8 c9 c10 c11, l = [c0, c1, c2, c3, c4, c5, c6, c7, c8, c9, c10, c11] := by
  match l, h with
  | [c0, c1, c2, c3, c4, c5, c6, c7, c8, c9, c10, c11], _ => exact ⟨c0, c1, c2, c3, c4, c5, c6, c7, c8, c9, c10, c11, rfl⟩
theorem list25 {α : Type} {l : List α} (h : l.length = 25) : ∃ c0 c1 m n, l = c0 :: c1 :: (m ++ n) ∧ m.length = 11 ∧ n.length = 12 := by
  match l, h with
  | c0 :: c1 :: r, h =>
    simp only [List.length_cons] at h
    exact ⟨c0, c1, r.take 11, r.drop 11, by rw [List.take_append_drop], by rw [List.length_take]; omega, by rw [List.length_drop]; omega⟩
def Dl.cs (t : Dl) : List Value := [.int .i64 t.id, .int .u8 t.m, .int .i64 t.x, .int .i64 t.y, .int .i64 t.f0.n, .string t.f0.s, .int .i64 t.f1.n, .string t.f1.s, .int .i64 t.f2.n, .string t.f2.s, .int .i64 t.f3.n, .string t.f3.s]
theorem trod_dl {fuel : Nat} {cs : List Value} {x : DataW H × List MemPlace} (hl : cs.length = 12) (hf : DataW.trod enc Try.prog w base spare held fuel 42 cs = some x) : ∃ t : Dl, cs = t.cs ∧ inD t := by
  obtain ⟨c0, c1, c2, c3, c4, c5, c6, c7, c8, c9, c10, c11, rfl⟩ := list12 hl
  obtain ⟨y0, y1, y2, y3, n, _, _, h0, h1, h2, h3⟩ := trod_struct4 Try.underlying42 hf
  simp [cellsOf3, cellsOf5, cellsOf23, cellsOf26] at h0 h1 h2 h3
  obtain ⟨id, e0, _, _⟩ := DataW.trod_int Try.underlying3 h0
  obtain ⟨m, e1, _, w1⟩ := DataW.trod_int Try.underlying5 h1
  obtain ⟨x, y, rfl, rfl⟩ := trod_pt h2
  obtain ⟨f0, f1, f2, f3, rfl, rfl, rfl, rfl, rfl, rfl, rfl, rfl, i0, i1, i2, i3⟩ := trod_fs h3
  simp only [List.cons.injEq, and_true] at e0 e1
  subst e0 e1
  have hm := u8_bounds w1
  obtain ⟨k, rfl⟩ := Int.eq_ofNat_of_zero_le hm.1
  exact ⟨⟨id, k, x, y, f0, f1, f2, f3⟩, rfl, by show k < 256; omega, i0, i1, i2, i3⟩
theorem trod_ev {fuel : Nat} {cs : List Value} {x : DataW H × List MemPlace} (hl : cs.length = 25) (hf : DataW.trod enc Try.prog w base spare held fuel 44 cs = some x) : ∃ t : Ev, cs = t.cs ∧ inE t := by
  obtain ⟨c0, c1, m, n, rfl, hm, hn⟩ := list25 hl
  obtain ⟨y0, y1, y2, y3, k, _, _, h0, h1, h2, h3⟩ := trod_struct4 Try.underlying44 hf
  have e2 : (m ++ n).take 11 = m := by rw [List.take_append_of_le_length (by omega), List.take_of_length_le (by omega)]
  have e3 : ((m ++ n).drop 11).take 12 = n := by rw [List.drop_append_of_le_length (by omega), List.drop_of_length_le (by omega), List.nil_append, List.take_of_length_le (by omega)]
  simp [cellsOf3, cellsOf28, cellsOf30, e2, e3] at h0 h1 h2 h3
  obtain ⟨a0, e0, _, _⟩ := DataW.trod_int Try.underlying3 h0
  obtain ⟨a1, e1, _, _⟩ := DataW.trod_int Try.underlying3 h1
  obtain ⟨t, rfl, it⟩ := trod_th hm h2
  obtain ⟨d, rfl, id⟩ := trod_dl hn h3
  simp only [List.cons.injEq, and_true] at e0 e1
  subst e0 e1
  exact ⟨⟨a0, a1, t, d⟩, rfl, it, id⟩
theorem open_evs (hv : Value.okWide Try.prog w r b0 28 v) (h : DataW.Trod enc Try.prog w base spare held 28 v d p) :
    ∃ (a : Option Addr) (cap : Nat) (L : List Ev), v = .slice a L.length cap ∧ (∀ t ∈ L, inE t) ∧ RowE w a L ∧ L.length ≤ cap ∧ cap ≤ maxLen := by
  obtain ⟨a, len, cap, rfl⟩ := okWide_slice Try.underlying28 hv
  obtain ⟨fuel, hf⟩ := h
  rcases open_slice Try.underlying28 hf with ⟨hcs, _⟩ | ⟨a', len', cap', m, n, D, Pl, hcs, _, hl, hm, hmm, _, hx⟩
  · simp [Value.cells] at hcs
    obtain ⟨rfl, rfl, rfl⟩ := hcs
    exact ⟨none, 0, [], rfl, by simp, .inl rfl, by simp, by unfold maxLen; omega⟩
  · simp [Value.cells] at hcs
    obtain ⟨rfl, rfl, rfl⟩ := hcs
    have hlm : len ≤ m := by rw [hmm]; split <;> omega
    rw [cellsOfEv] at hx
    obtain ⟨f, hF⟩ := @choose_lt Ev ⟨zE⟩ len (fun i t => inE t ∧ ∀ j, j < 25 → w.cell? (a'.add (i * 25 + j)) = t.cs[j]?) (fun i hi => by
      obtain ⟨cs', h1, h2⟩ := hx i (by omega)
      obtain ⟨_, hlen, hcell⟩ := World.cells?_some h1
      obtain ⟨t, rfl, hin⟩ := trod_ev hlen h2
      exact ⟨t, hin, fun j hj => by rw [← add_add]; exact hcell j hj⟩)
    refine ⟨some a', cap, (List.range len).map f, by simp, ?_, ?_, by simpa using hl, hm⟩
    · intro t ht
      simp only [List.mem_map, List.mem_range] at ht
      obtain ⟨i, hi, rfl⟩ := ht
      exact (hF i hi).1
    · by_cases h0 : len = 0
      · left; subst h0; rfl
      · right
        obtain ⟨b, off, spot⟩ := a'
        have hc := (hF 0 (by omega)).2 0 (by omega)
        have hspot : spot = none := by
          have := World.cell?_spot (v := .int .i64 (f 0).k) hc
          simpa [Addr.add] using this
        subst hspot
        refine ⟨b, off, rfl, fun k t hk j u hu => ?_⟩
        have hk' : k < len := by
          rcases Nat.lt_or_ge k len with h | h
          · exact h
          · rw [List.getElem?_eq_none (by simpa using h)] at hk; cases hk
        rw [List.getElem?_map, List.getElem?_range hk'] at hk
        simp only [Option.map_some, Option.some.injEq] at hk
        subst hk
        have hj : j < 25 := by have := (List.getElem?_eq_some_iff.1 hu).1; rw [csE_len] at this; exact this
        have e : (⟨b, off, none⟩ : Addr).add (k * 25 + j) = ⟨b, off + k * 25 + j, none⟩ := by unfold Addr.add; split <;> simp_all [Nat.add_assoc]
        rw [← e]
        rw [(hF k hk').2 j hj]
        exact hu
end
end Go.Proofs.Ytjdlcocncacmlaa
