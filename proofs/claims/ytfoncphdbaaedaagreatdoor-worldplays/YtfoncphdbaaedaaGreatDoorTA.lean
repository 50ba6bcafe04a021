/- Plain facts on fields and things: who is one, equality, how they and rows of them lie in memory; what comes in fits. No conditions beyond those typed. The table's map over this translation: it holds things by their numbers; what it is good for is said by a row of things, rising. Looking up, storing, deleting, counting; no conditions beyond those typed. -/
import Derived.Test.YtfoncphdbaaedaaGreatDoorQA
import Derived.ChangeKeysEq
import Derived.ChangeOld
import Derived.OpenShut
import Derived.ShutString
import Derived.Deep.Slices
import Derived.Deep.Strs
import Derived.Maps.OwnSet
import Derived.Lib.SlKeysI
namespace Go.Proofs.YtfoncphdbaaedaaGreatDoor
section
open Go.RowKit Go.ChangeShapes Go.WideShapes Go.Deep Go.Joins
set_option linter.unusedVariables false
set_option maxRecDepth 100000
structure Fl where
  n : Int
  s : ByteArray
structure Th where
  id : Int
  x : Int
  y : Int
  f0 : Fl
  f1 : Fl
  f2 : Fl
  f3 : Fl
def eqF (a b : Fl) : Bool := a.n == b.n && decide (a.s = b.s)
def eqT (a b : Th) : Bool := a.id == b.id && (a.x == b.x && (a.y == b.y && (eqF a.f0 b.f0 && (eqF a.f1 b.f1 && (eqF a.f2 b.f2 && eqF a.f3 b.f3)))))
theorem eqF_iff {a b : Fl} : eqF a b = true ↔ a = b := by
  obtain ⟨n, s⟩ := a
  obtain ⟨m, t⟩ := b
  simp [eqF]
theorem eqF_no {a b : Fl} : eqF a b = false ↔ ¬ a = b := by rw [← eqF_iff]; simp
theorem eqT_iff {a b : Th} : eqT a b = true ↔ a = b := by
  obtain ⟨a0, a1, a2, a3, a4, a5, a6⟩ := a
  obtain ⟨b0, b1, b2, b3, b4, b5, b6⟩ := b
  simp [eqT, eqF_iff]
theorem eqT_no {a b : Th} : eqT a b = false ↔ ¬ a = b := by rw [← eqT_iff]; simp
theorem eqF_self (a : Fl) : eqF a a = true := eqF_iff.2 rfl
theorem eqT_self (a : Th) : eqT a a = true := eqT_iff.2 rfl
abbrev Fl.v (f : Fl) : Value := .agg #[.int .i64 f.n, .string f.s]
abbrev Th.v (t : Th) : Value := .agg #[.int .i64 t.id, .int .i64 t.x, .int .i64 t.y, .int .i64 t.f0.n, .string t.f0.s, .int .i64 t.f1.n, .string t.f1.s, .int .i64 t.f2.n, .string t.f2.s, .int .i64 t.f3.n, .string t.f3.s]
abbrev Fl.o (f : Fl) : Obj := .cells #[.int .i64 f.n, .string f.s] 34 (0, 0)
abbrev Th.o (t : Th) : Obj := .cells #[.int .i64 t.id, .int .i64 t.x, .int .i64 t.y, .int .i64 t.f0.n, .string t.f0.s, .int .i64 t.f1.n, .string t.f1.s, .int .i64 t.f2.n, .string t.f2.s, .int .i64 t.f3.n, .string t.f3.s] 54 (0, 0)
def zF : Fl := ⟨0, ⟨#[]⟩⟩
def pEq (a0 a1 b0 b1 : Int) : Bool := a0 == b0 && a1 == b1
def isF (f : Fl) : Bool := (f.n == 0 || decide (f.s.toList = [])) && decide (f.s.size ≤ 12)
def Th.f (t : Th) : Nat → Fl
  | 0 => t.f0
  | 1 => t.f1
  | 2 => t.f2
  | _ => t.f3
theorem toList_inj {a b : ByteArray} : a.toList = b.toList ↔ a = b := by
  rw [ByteArray.toList_eq, ByteArray.toList_eq]
  exact ⟨fun h => ByteArray.ext (Array.toList_inj.mp h), fun h => by rw [h]⟩
theorem at_lt {W : World} {g : Nat} {p : Obj} (h : W.heap[g]? = some p) : g < W.heap.size := (Array.getElem?_eq_some_iff.1 h).1
abbrev cellsAt (W : World) (g : Nat) (cs : Array Value) : Prop := (∀ i, W.cell? ⟨g, i, none⟩ = cs[i]?) ∧ (∀ i, W.frozen? ⟨g, i, none⟩ = false)
def zT : Th := ⟨0, 0, 0, zF, zF, zF, zF⟩
theorem indexA_f0 (W : World) (v0 v1 v2 v3 v4 v5 v6 v7 : Value) : (Instr.index 35 (.agg #[v0, v1, v2, v3, v4, v5, v6, v7]) (.int .i64 0)).run Tryz.prog W = .ok (.agg #[v0, v1]) W := by kernel_rfl
theorem indexA_f1 (W : World) (v0 v1 v2 v3 v4 v5 v6 v7 : Value) : (Instr.index 35 (.agg #[v0, v1, v2, v3, v4, v5, v6, v7]) (.int .i64 1)).run Tryz.prog W = .ok (.agg #[v2, v3]) W := by kernel_rfl
theorem indexA_f2 (W : World) (v0 v1 v2 v3 v4 v5 v6 v7 : Value) : (Instr.index 35 (.agg #[v0, v1, v2, v3, v4, v5, v6, v7]) (.int .i64 2)).run Tryz.prog W = .ok (.agg #[v4, v5]) W := by kernel_rfl
theorem indexA_f3 (W : World) (v0 v1 v2 v3 v4 v5 v6 v7 : Value) : (Instr.index 35 (.agg #[v0, v1, v2, v3, v4, v5, v6, v7]) (.int .i64 3)).run Tryz.prog W = .ok (.agg #[v6, v7]) W := by kernel_rfl
theorem equal_fl8 (W : World) (a b : Fl) : (Op.equalIn 9998 34 a.v b.v).run Tryz.prog W = .ok (eqF a b) W := by
  obtain ⟨n, s⟩ := a
  obtain ⟨m, t⟩ := b
  by_cases h0 : n = m <;> by_cases h1 : s = t <;> simp [go_sem, h0, h1, toList_inj, eqF]
theorem Tryz.info25s : (Tryz.prog.info? 34).isSome = true := by kernel_rfl
theorem Tryz.cellsE25 : Tryz.prog.cellsOf 34 = 2 := by kernel_rfl
theorem part25 (W : World) (v0 v1 v2 v3 v4 v5 v6 v7 : Value) : (part 34 #[v0, v1, v2, v3, v4, v5, v6, v7] 0).run Tryz.prog W = .ok (.agg #[v0, v1]) W ∧ (part 34 #[v0, v1, v2, v3, v4, v5, v6, v7] 2).run Tryz.prog W = .ok (.agg #[v2, v3]) W ∧ (part 34 #[v0, v1, v2, v3, v4, v5, v6, v7] 4).run Tryz.prog W = .ok (.agg #[v4, v5]) W ∧ (part 34 #[v0, v1, v2, v3, v4, v5, v6, v7] 6).run Tryz.prog W = .ok (.agg #[v6, v7]) W := by
  refine ⟨?_, ?_, ?_, ?_⟩ <;> kernel_rfl
theorem equal_fs (W : World) (f0 f1 f2 f3 g0 g1 g2 g3 : Fl) : (Op.equalIn 9999 35 (.agg #[.int .i64 f0.n, .string f0.s, .int .i64 f1.n, .string f1.s, .int .i64 f2.n, .string f2.s, .int .i64 f3.n, .string f3.s]) (.agg #[.int .i64 g0.n, .string g0.s, .int .i64 g1.n, .string g1.s, .int .i64 g2.n, .string g2.s, .int .i64 g3.n, .string g3.s])).run Tryz.prog W = .ok (eqF f0 g0 && (eqF f1 g1 && (eqF f2 g2 && eqF f3 g3))) W := by
  obtain ⟨i, hi⟩ := Option.isSome_iff_exists.1 Tryz.info25s
  rw [run_equalIn_array W 9998 _ _ Tryz.underlying35 hi, Tryz.cellsE25]
  have e := equal_fl8
  unfold Fl.v at e
  simp only [List.range, List.range.loop, Op.eqItems, Sem.run_bind, Nat.zero_mul, Nat.one_mul, part25, Result.andThen_ok, show 2 * 2 = 4 from rfl, show 3 * 2 = 6 from rfl, e]
  cases h0 : eqF f0 g0 <;> cases h1 : eqF f1 g1 <;> cases h2 : eqF f2 g2 <;> cases h3 : eqF f3 g3 <;> simp only [h1, h2, h3, e, Sem.run_bind, Sem.run_pure, part25, Result.andThen_ok, reduceIte, Bool.not_false, Bool.not_true, Bool.false_eq_true, Bool.false_and, Bool.true_and]
set_option maxHeartbeats 2000000 in
theorem equal_th (W : World) (a b : Th) : (Op.equalIn 10000 54 a.v b.v).run Tryz.prog W = .ok (eqT a b) W := by
  obtain ⟨a0, a2, a3, a4, a5, a6, a7⟩ := a
  obtain ⟨b0, b2, b3, b4, b5, b6, b7⟩ := b
  have e := fun W => equal_fs W a4 a5 a6 a7 b4 b5 b6 b7
  by_cases h0 : a0 = b0
  · by_cases h2 : a2 = b2
    · by_cases h3 : a3 = b3
      · subst h0 h2 h3
        simp [go_sem, e, eqT]
        cases h4 : eqF a4 b4 <;> cases h5 : eqF a5 b5 <;> cases h6 : eqF a6 b6 <;> cases h7 : eqF a7 b7 <;> rfl
      · simp [go_sem, h0, h2, h3, eqT]
    · simp [go_sem, h0, h2, eqT]
  · simp [go_sem, h0, eqT]
theorem equal_th_at {a b : Th} {q : Bool} (h : eqT a b = q) (W : World) : (Op.equalIn 10000 54 a.v b.v).run Tryz.prog W = .ok q W := by rw [equal_th, h]
def fewF (f : Fl) : Bool := decide (f.s.size ≤ 40)
def few4 (g : Nat → Fl) : Bool := fewF (g 0) && (fewF (g 1) && (fewF (g 2) && fewF (g 3)))
theorem few4_no {g : Nat → Fl} {k : Nat} (hk : k < 4) (h : fewF (g k) = false) : few4 g = false := by
  unfold few4
  obtain rfl | rfl | rfl | rfl : k = 0 ∨ k = 1 ∨ k = 2 ∨ k = 3 := by omega
  all_goals rw [h]; simp
theorem few4_yes {g : Nat → Fl} (h : ∀ j, j < 4 → fewF (g j) = true) : few4 g = true := by
  unfold few4
  rw [h 0 (by omega), h 1 (by omega), h 2 (by omega), h 3 (by omega)]; rfl
theorem few_step {g : Nat → Fl} {k : Nat} (h : ∀ j, j < k → fewF (g j) = true) (hk : fewF (g k) = true) : ∀ j, j < k + 1 → fewF (g j) = true := fun j hj => by
  by_cases e : j = k
  · rw [e]; exact hk
  · exact h j (by omega)
def isTK (t : Th) : Nat → Bool
  | 0 => decide (0 ≤ t.id) && decide (t.id ≤ 1000000) && onB t.x t.y
  | k + 1 => isTK t k && isF (t.f k)
theorem isTK_s {t : Th} {k : Nat} {b r : Bool} (h : isTK t k = b) (hr : isF (t.f k) = r) : isTK t (k + 1) = (b && r) := by rw [isTK, h, hr]
theorem equal_pt (W : World) (a0 a1 b0 b1 : Int) : (Op.equalIn 10000 32 (pt a0 a1) (pt b0 b1)).run Tryz.prog W = .ok (pEq a0 a1 b0 b1) W := by
  unfold pEq
  by_cases h0 : a0 = b0 <;> by_cases h1 : a1 = b1 <;> simp [go_sem, h0, h1]
def inF (f : Fl) : Prop := f.s.size ≤ maxLen ∧ -9223372036854775808 ≤ f.n ∧ f.n ≤ 9223372036854775807
def inI (x : Int) : Prop := -9223372036854775808 ≤ x ∧ x ≤ 9223372036854775807
def inT (t : Th) : Prop := inF t.f0 ∧ inF t.f1 ∧ inF t.f2 ∧ inF t.f3
theorem array11 {α : Type} {cs : Array α} (h : cs.size = 11) : ∃ c0 c1 c2 c3 c4 c5 c6 c7 c8 c9 c10, cs = #[c0, c1, c2, c3, c4, c5, c6, c7, c8, c9, c10] := by
  obtain ⟨l⟩ := cs
  match l, h with
  | [c0, c1, c2, c3, c4, c5, c6, c7, c8, c9, c10], _ => exact ⟨c0, c1, c2, c3, c4, c5, c6, c7, c8, c9, c10, rfl⟩
theorem cellsOf3 : Tryz.prog.cellsOf 3 = 1 := by kernel_rfl
theorem cellsOf2 : Tryz.prog.cellsOf 2 = 1 := by kernel_rfl
theorem cellsOf9 : Tryz.prog.cellsOf 9 = 1 := by kernel_rfl
theorem cellsOf23 : Tryz.prog.cellsOf 32 = 2 := by kernel_rfl
theorem cellsOf25 : Tryz.prog.cellsOf 34 = 2 := by kernel_rfl
theorem cellsOf26 : Tryz.prog.cellsOf 35 = 8 := by kernel_rfl
theorem cellsOf28 : Tryz.prog.cellsOf 54 = 11 := by kernel_rfl
section
variable {H : Type} {enc : TypeId × Value → H} {w : World} {base : Nat} {spare : Nat → Bool} {held : Bool} {r : Reach} {b0 : Nat} {v : Value} {d : DataW H} {p : List MemPlace}
theorem i64_bounds {n : Int} (h : (Lit.int .i64 n).wf = true) : -9223372036854775808 ≤ n ∧ n ≤ 9223372036854775807 := by
  simp [Lit.wf, IntKind.min, IntKind.max, IntKind.signed, IntKind.bits] at h
  omega
theorem trod_fl {fuel : Nat} {c0 c1 : Value} {x : DataW H × List MemPlace} (h : DataW.trod enc Tryz.prog w base spare held fuel 34 [c0, c1] = some x) : ∃ f : Fl, c0 = .int .i64 f.n ∧ c1 = .string f.s ∧ inF f := by
  obtain ⟨y0, y1, n, _, _, h0, h1⟩ := trod_struct2 Tryz.underlying34 h
  simp only [cellsOf2, cellsOf9, List.drop_zero, List.take_succ_cons, List.take_zero, List.drop_succ_cons] at h0 h1
  obtain ⟨a, e0, _, w0⟩ := DataW.trod_int Tryz.underlying2 h0
  obtain ⟨s, e1, _, w1⟩ := DataW.trod_string Tryz.underlying9 h1
  simp only [List.cons.injEq, and_true] at e0 e1
  exact ⟨⟨a, s⟩, e0, e1, w1, i64_bounds w0⟩
theorem trod_pt {fuel : Nat} {c0 c1 : Value} {x : DataW H × List MemPlace} (h : DataW.trod enc Tryz.prog w base spare held fuel 32 [c0, c1] = some x) : ∃ a b : Int, c0 = .int .i64 a ∧ c1 = .int .i64 b := by
  obtain ⟨y0, y1, n, _, _, h0, h1⟩ := trod_struct2 Tryz.underlying32 h
  simp only [cellsOf3, List.drop_zero, List.take_succ_cons, List.take_zero, List.drop_succ_cons] at h0 h1
  obtain ⟨a, e0, _, w0⟩ := DataW.trod_int Tryz.underlying3 h0
  obtain ⟨b, e1, _, w1⟩ := DataW.trod_int Tryz.underlying3 h1
  simp only [List.cons.injEq, and_true] at e0 e1
  exact ⟨a, b, e0, e1⟩
theorem trod_fs {fuel : Nat} {c0 c1 c2 c3 c4 c5 c6 c7 : Value} {x : DataW H × List MemPlace} (h : DataW.trod enc Tryz.prog w base spare held fuel 35 [c0, c1, c2, c3, c4, c5, c6, c7] = some x) :
    ∃ f0 f1 f2 f3 : Fl, c0 = .int .i64 f0.n ∧ c1 = .string f0.s ∧ c2 = .int .i64 f1.n ∧ c3 = .string f1.s ∧ c4 = .int .i64 f2.n ∧ c5 = .string f2.s ∧ c6 = .int .i64 f3.n ∧ c7 = .string f3.s ∧ inF f0 ∧ inF f1 ∧ inF f2 ∧ inF f3 := by
  obtain ⟨xs, m, _, _, _, hl, hf⟩ := DataW.trod_array Tryz.underlying35 h
  match xs, hl with
  | [y0, y1, y2, y3], _ =>
    have h0 := hf 0 (by omega)
    have h1 := hf 1 (by omega)
    have h2 := hf 2 (by omega)
    have h3 := hf 3 (by omega)
    simp [cellsOf25] at h0 h1 h2 h3
    obtain ⟨f0, a0, b0, i0⟩ := trod_fl h0
    obtain ⟨f1, a1, b1, i1⟩ := trod_fl h1
    obtain ⟨f2, a2, b2, i2⟩ := trod_fl h2
    obtain ⟨f3, a3, b3, i3⟩ := trod_fl h3
    exact ⟨f0, f1, f2, f3, a0, b0, a1, b1, a2, b2, a3, b3, i0, i1, i2, i3⟩
theorem open_th (hv : Value.okWide Tryz.prog w r b0 54 v) (h : DataW.Trod enc Tryz.prog w base spare held 54 v d p) : ∃ t : Th, v = t.v ∧ inT t := by
  obtain ⟨cs, rfl, hsz⟩ := okWide_struct Tryz.underlying54 hv
  obtain ⟨c0, c1, c2, c3, c4, c5, c6, c7, c8, c9, c10, rfl⟩ := array11 (hsz.trans cellsOf28)
  obtain ⟨fuel, hf⟩ := h
  obtain ⟨y0, y1, y2, n, _, _, h0, h1, h2⟩ := trod_struct3 Tryz.underlying54 hf
  simp [Value.cells, cellsOf3, cellsOf23, cellsOf26] at h0 h1 h2
  obtain ⟨id, e0, _, _⟩ := DataW.trod_int Tryz.underlying3 h0
  obtain ⟨x, y, rfl, rfl⟩ := trod_pt h1
  obtain ⟨f0, f1, f2, f3, rfl, rfl, rfl, rfl, rfl, rfl, rfl, rfl, i0, i1, i2, i3⟩ := trod_fs h2
  simp only [List.cons.injEq, and_true] at e0
  subst e0
  exact ⟨⟨id, x, y, f0, f1, f2, f3⟩, rfl, i0, i1, i2, i3⟩
end
def isT (t : Th) : Bool := isTK t 4
theorem isT_eq (t : Th) : isT t = (decide (0 ≤ t.id) && decide (t.id ≤ 1000000) && onB t.x t.y && isF t.f0 && isF t.f1 && isF t.f2 && isF t.f3) := rfl
theorem th_f {p : Fl → Prop} {t : Th} (h : p t.f0 ∧ p t.f1 ∧ p t.f2 ∧ p t.f3) (k : Nat) : p (t.f k) := by
  match k with
  | 0 => exact h.1
  | 1 => exact h.2.1
  | 2 => exact h.2.2.1
  | k + 3 => exact h.2.2.2
theorem inT_n {t : Th} (h : inT t) (k : Nat) : -9223372036854775808 ≤ (t.f k).n ∧ (t.f k).n ≤ 9223372036854775807 := (th_f (p := inF) h k).2
theorem inT_s {t : Th} (h : inT t) (k : Nat) : (t.f k).s.size ≤ maxLen := (th_f (p := inF) h k).1
def Th.cs (t : Th) : List Value := [.int .i64 t.id, .int .i64 t.x, .int .i64 t.y, .int .i64 t.f0.n, .string t.f0.s, .int .i64 t.f1.n, .string t.f1.s, .int .i64 t.f2.n, .string t.f2.s, .int .i64 t.f3.n, .string t.f3.s]
def flatT (l : List Th) : List Value := l.flatMap Th.cs
abbrev cellsT (W : World) (b o : Nat) (t : Th) : Prop :=
  W.cell? ⟨b, o, none⟩ = some (.int .i64 t.id) ∧ W.cell? ⟨b, o + 1, none⟩ = some (.int .i64 t.x) ∧ W.cell? ⟨b, o + 2, none⟩ = some (.int .i64 t.y) ∧ W.cell? ⟨b, o + 3, none⟩ = some (.int .i64 t.f0.n) ∧ W.cell? ⟨b, o + 4, none⟩ = some (.string t.f0.s) ∧ W.cell? ⟨b, o + 5, none⟩ = some (.int .i64 t.f1.n) ∧ W.cell? ⟨b, o + 6, none⟩ = some (.string t.f1.s) ∧ W.cell? ⟨b, o + 7, none⟩ = some (.int .i64 t.f2.n) ∧ W.cell? ⟨b, o + 8, none⟩ = some (.string t.f2.s) ∧ W.cell? ⟨b, o + 9, none⟩ = some (.int .i64 t.f3.n) ∧ W.cell? ⟨b, o + 10, none⟩ = some (.string t.f3.s)
def RowT (W : World) (p : Option Addr) (L : List Th) : Prop := L = [] ∨ ∃ b off, p = some ⟨b, off, none⟩ ∧ ∀ k t, L[k]? = some t → cellsT W b (off + k * 11) t
theorem cellsT_later {w wr : World} {b o : Nat} {t : Th} (h : cellsT w b o t) (hb : Below w.heap.size w wr) : cellsT wr b o t := by
  obtain ⟨h0, h1, h2, h3, h4, h5, h6, h7, h8, h9, h10⟩ := h
  exact ⟨cell_later hb h0, cell_later hb h1, cell_later hb h2, cell_later hb h3, cell_later hb h4, cell_later hb h5, cell_later hb h6, cell_later hb h7, cell_later hb h8, cell_later hb h9, cell_later hb h10⟩
theorem RowT.later {w wr : World} {p : Option Addr} {L : List Th} (h : RowT w p L) (hb : Below w.heap.size w wr) : RowT wr p L := by
  rcases h with h | ⟨b, off, h, hc⟩
  · exact .inl h
  · exact .inr ⟨b, off, h, fun k t hk => cellsT_later (hc k t hk) hb⟩
theorem RowT.at {w : World} {p : Option Addr} {L : List Th} (h : RowT w p L) {k : Nat} {t : Th} (hk : L[k]? = some t) : ∃ b off, p = some ⟨b, off, none⟩ ∧ cellsT w b (off + k * 11) t := by
  rcases h with h | ⟨b, off, h, hc⟩
  · subst h; simp at hk
  · exact ⟨b, off, h, hc k t hk⟩
theorem RowT.take {w : World} {p : Option Addr} {L : List Th} (h : RowT w p L) (n : Nat) : RowT w p (L.take n) := by
  rcases h with h | ⟨b, off, h, hc⟩
  · left; rw [h]; simp
  · right
    refine ⟨b, off, h, fun k t hk => hc k t ?_⟩
    rw [List.getElem?_take] at hk
    split at hk
    · exact hk
    · cases hk
theorem flatT_length (l : List Th) : (flatT l).length = l.length * 11 := by
  induction l with
  | nil => rfl
  | cons r l ih => simp [flatT, Th.cs] at ih ⊢; omega
theorem flatT_append (l m : List Th) : flatT (l ++ m) = flatT l ++ flatT m := by simp [flatT]
theorem flatT_one (t : Th) : flatT [t] = t.cs := by simp [flatT]
theorem flatT_get (l : List Th) (k : Nat) (t : Th) (h : l[k]? = some t) (j : Nat) (hj : j < 11) : (flatT l)[k * 11 + j]? = t.cs[j]? := by
  induction l generalizing k with
  | nil => simp at h
  | cons a l ih =>
    have e : flatT (a :: l) = a.cs ++ flatT l := rfl
    have hl : ∀ t : Th, t.cs.length = 11 := fun t => rfl
    cases k with
    | zero =>
      simp at h
      subst h
      rw [e, Nat.zero_mul, Nat.zero_add, List.getElem?_append_left (by rw [hl]; exact hj)]
    | succ k =>
      have := ih k (by simpa using h)
      rw [e, List.getElem?_append_right (by rw [hl]; omega), hl, show (k + 1) * 11 + j - 11 = k * 11 + j by omega]
      exact this
theorem cellsT_of {W : World} {b o : Nat} {t : Th} (h : ∀ j, j < 11 → W.cell? ⟨b, o + j, none⟩ = t.cs[j]?) : cellsT W b o t :=
  ⟨h 0 (by omega), h 1 (by omega), h 2 (by omega), h 3 (by omega), h 4 (by omega), h 5 (by omega), h 6 (by omega), h 7 (by omega), h 8 (by omega), h 9 (by omega), h 10 (by omega)⟩
theorem rowT_own {W : World} {base n : Nat} {p : Option Addr} {cap : Nat} {L : List Th} (h : W.ownsRow base 54 11 (.slice p n cap) n (flatT L)) (hn : n = L.length) : RowT W p L := by
  subst hn
  by_cases h0 : L = []
  · exact .inl h0
  · right
    have hpos : 0 < L.length := List.length_pos_iff.2 h0
    rcases h.2 with ⟨h', h0⟩ | ⟨g, cap', cur, h', _⟩
    · omega
    · simp only [Value.slice.injEq] at h'
      obtain ⟨rfl, _, rfl⟩ := h'
      refine ⟨g, 0, rfl, fun k t hk => cellsT_of fun j hj => ?_⟩
      have hk' : k < L.length := (List.getElem?_eq_some_iff.1 hk).1
      rw [Nat.zero_add, h.cellAt (k * 11 + j) (by omega)]
      exact flatT_get L k t hk j hj
theorem get_th (L : List Th) (k : Nat) (hk : k < L.length) : ∃ t, L[k]? = some t := ⟨L[k], by simp [hk]⟩
theorem getD_of {L : List Th} {k : Nat} {t : Th} (h : L[k]? = some t) : L.getD k zT = t := by simp [List.getD, h]
section
variable {H : Type} {enc : TypeId × Value → H} {w : World} {base : Nat} {spare : Nat → Bool} {held : Bool} {r : Reach} {b0 : Nat} {v : Value} {d : DataW H} {p : List MemPlace}
theorem list11 {α : Type} {l : List α} (h : l.length = 11) : ∃ c0 c1 c2 c3 c4 c5 c6 c7 c8 c9 c10, l = [c0, c1, c2, c3, c4, c5, c6, c7, c8, c9, c10] := by
  match l, h with
  | [c0, c1, c2, c3, c4, c5, c6, c7, c8, c9, c10], _ => exact ⟨c0, c1, c2, c3, c4, c5, c6, c7, c8, c9, c10, rfl⟩
theorem trod_th {fuel : Nat} {cs : List Value} {x : DataW H × List MemPlace} (hl : cs.length = 11) (hf : DataW.trod enc Tryz.prog w base spare held fuel 54 cs = some x) : ∃ t : Th, cs = t.cs ∧ inT t := by
  obtain ⟨c0, c1, c2, c3, c4, c5, c6, c7, c8, c9, c10, rfl⟩ := list11 hl
  obtain ⟨y0, y1, y2, n, _, _, h0, h1, h2⟩ := trod_struct3 Tryz.underlying54 hf
  simp [cellsOf3, cellsOf23, cellsOf26] at h0 h1 h2
  obtain ⟨id, e0, _, _⟩ := DataW.trod_int Tryz.underlying3 h0
  obtain ⟨x, y, rfl, rfl⟩ := trod_pt h1
  obtain ⟨f0, f1, f2, f3, rfl, rfl, rfl, rfl, rfl, rfl, rfl, rfl, i0, i1, i2, i3⟩ := trod_fs h2
  simp only [List.cons.injEq, and_true] at e0
  subst e0
  exact ⟨⟨id, x, y, f0, f1, f2, f3⟩, rfl, i0, i1, i2, i3⟩
theorem open_ths (hv : Value.okWide Tryz.prog w r b0 29 v) (h : DataW.Trod enc Tryz.prog w base spare held 29 v d p) :
    ∃ (a : Option Addr) (cap : Nat) (L : List Th), v = .slice a L.length cap ∧ (∀ t ∈ L, inT t) ∧ RowT w a L ∧ L.length ≤ cap ∧ cap ≤ maxLen := by
  obtain ⟨a, len, cap, rfl⟩ := okWide_slice Tryz.underlying29 hv
  obtain ⟨fuel, hf⟩ := h
  rcases open_slice Tryz.underlying29 hf with ⟨hcs, _⟩ | ⟨a', len', cap', m, n, D, Pl, hcs, _, hl, hm, hmm, _, hx⟩
  · simp [Value.cells] at hcs
    obtain ⟨rfl, rfl, rfl⟩ := hcs
    exact ⟨none, 0, [], rfl, by simp, .inl rfl, by simp, by unfold maxLen; omega⟩
  · simp [Value.cells] at hcs
    obtain ⟨rfl, rfl, rfl⟩ := hcs
    have hlm : len ≤ m := by rw [hmm]; split <;> omega
    rw [cellsOf28] at hx
    obtain ⟨f, hF⟩ := @choose_lt Th ⟨zT⟩ len (fun i t => inT t ∧ ∀ j, j < 11 → w.cell? (a'.add (i * 11 + j)) = t.cs[j]?) (fun i hi => by
      obtain ⟨cs', h1, h2⟩ := hx i (by omega)
      obtain ⟨_, hlen, hcell⟩ := World.cells?_some h1
      obtain ⟨t, rfl, hin⟩ := trod_th hlen h2
      exact ⟨t, hin, fun j hj => by rw [← add_add]; exact hcell j hj⟩)
    refine ⟨some a', cap, (List.range len).map f, by simp, ?_, ?_, by simpa using hl, hm⟩
    · intro t ht
      simp only [List.mem_map, List.mem_range] at ht
      obtain ⟨i, hi, rfl⟩ := ht
      exact (hF i hi).1
    · by_cases h0 : len = 0
      · left; subst h0; rfl
      · right
        obtain ⟨b, off, spot⟩ := a'
        have hc := (hF 0 (by omega)).2 0 (by omega)
        have hspot : spot = none := by
          have := World.cell?_spot (v := .int .i64 (f 0).id) hc
          simpa [Addr.add] using this
        subst hspot
        refine ⟨b, off, rfl, fun k t hk => cellsT_of fun j hj => ?_⟩
        have hk' : k < len := by
          rcases Nat.lt_or_ge k len with h | h
          · exact h
          · rw [List.getElem?_eq_none (by simpa using h)] at hk; cases hk
        rw [List.getElem?_map, List.getElem?_range hk'] at hk
        simp only [Option.map_some, Option.some.injEq] at hk
        subst hk
        have e : (⟨b, off, none⟩ : Addr).add (k * 11 + j) = ⟨b, off + k * 11 + j, none⟩ := by unfold Addr.add; split <;> simp_all [Nat.add_assoc]
        rw [← e]
        exact (hF k hk').2 j hj
end
end
section
open Go.RowKit Go.Maps
set_option linter.unusedVariables false
/-- an element is told as it is -/
def RV (v : Value) : Option (DataW Value × List MemPlace) := some (.held v, [])
def entT (t : Th) : Lit × DataW Value := (.int .i64 t.id, .held t.v)
def DM (L : List Th) : DataW Value := .map (L.map entT)
def findT (id : Int) (L : List Th) : Option Th := L.find? (fun t => t.id == id)
def hasT (id : Int) (L : List Th) : Bool := L.any (fun t => t.id == id)
def insT (t : Th) : List Th → List Th
  | [] => [t]
  | a :: r => if t.id < a.id then t :: a :: r else a :: insT t r
def outT (id : Int) (L : List Th) : List Th := L.filter (fun a => !(a.id == id))
def witT (t : Th) (L : List Th) : List Th := insT t (outT t.id L)
abbrev Rise (L : List Th) : Prop := L.Pairwise (fun a b => a.id < b.id)
/-- block b of W is a map that holds just the things of L -/
def OM (W : World) (b : Nat) (L : List Th) : Prop := W.ownsMap Tryz.prog 3 RV b L.length (DM L)
theorem same_int (a b : Int) : (Lit.int .i64 a).sameKey (.int .i64 b) = (a == b) := by
  simp [Lit.sameKey]
  rw [Bool.eq_iff_iff]; simp
theorem DM_size (L : List Th) : Maps.size (DM L) = L.length := by simp [DM, Maps.size]
theorem DM_has (L : List Th) (id : Int) : Maps.has (DM L) (.int .i64 id) = hasT id L := by
  unfold DM hasT
  rw [Maps.has_eq, List.any_map]
  congr 1
  funext t
  exact same_int t.id id
theorem DM_at (L : List Th) (id : Int) : (DM L).atKey (.int .i64 id) (.held zT.v) = .held ((findT id L).getD zT).v := by
  unfold DM findT DataW.atKey
  induction L with
  | nil => rfl
  | cons a L ih =>
    simp only [List.map_cons, List.find?_cons]
    rw [show (entT a).1.sameKey (.int .i64 id) = (a.id == id) from same_int a.id id]
    cases a.id == id
    · exact ih
    · rfl
theorem ins_map (t : Th) : ∀ L : List Th, DataW.insert (entT t) (L.map entT) = (insT t L).map entT
  | [] => rfl
  | a :: r => by
    simp only [List.map_cons, DataW.insert, insT]
    rw [show (entT t).1.before (entT a).1 = decide (t.id < a.id) from rfl]
    by_cases h : t.id < a.id
    · simp [h]
    · simp [h, ins_map t r]
theorem out_map (id : Int) (L : List Th) : (L.map entT).filter (fun p => !p.1.sameKey (.int .i64 id)) = (outT id L).map entT := by
  unfold outT
  induction L with
  | nil => rfl
  | cons a L ih =>
    simp only [List.map_cons, List.filter_cons]
    rw [show (entT a).1.sameKey (.int .i64 id) = (a.id == id) from same_int a.id id]
    cases a.id == id <;> simp [ih]
theorem DM_put (t : Th) (L : List Th) : (DM L).put (.int .i64 t.id) (.held t.v) = DM (witT t L) := by
  unfold DM witT
  rw [DataW.put, out_map, show ((Lit.int .i64 t.id, DataW.held t.v) : Lit × DataW Value) = entT t from rfl, ins_map]
theorem DM_del (id : Int) (L : List Th) : (DM L).del (.int .i64 id) = DM (outT id L) := by
  unfold DM
  rw [DataW.del, out_map]
theorem DM_keys (L : List Th) : intKeys (DM L) = L.map Th.id := by
  show (L.map entT).map (fun p => Go.intOf p.1) = _
  rw [List.map_map]
  rfl
theorem ins_length (t : Th) : ∀ L : List Th, (insT t L).length = L.length + 1
  | [] => rfl
  | a :: r => by
    unfold insT
    split
    · simp
    · simp [ins_length t r]
theorem out_length (id : Int) (L : List Th) : (outT id L).length ≤ L.length := List.length_filter_le _ _
theorem tight {W : World} {P : Program} {k : TypeId} {R : Value → Option (DataW Value × List MemPlace)} {b n : Nat} {D : DataW Value} (h : W.ownsMap P k R b n D) : W.ownsMap P k R b (Maps.size D) D := by
  obtain ⟨es, clock, hb, F, hs, rfl⟩ := h
  exact ⟨es, clock, hb, F, by simp [Maps.size, length_sorted], rfl⟩
theorem OM.of {W : World} {b n : Nat} {L : List Th} (h : W.ownsMap Tryz.prog 3 RV b n (DM L)) : OM W b L := by
  have := tight h
  rwa [DM_size] at this
theorem OM.lt {W : World} {b : Nat} {L : List Th} (h : OM W b L) : b < W.heap.size := World.ownsMap.lt h
theorem OM.off {W W' : World} {b : Nat} {L : List Th} {X : List Nat} (h : OM W b L) (ho : Off X W W') (hx : b ∉ X) : OM W' b L := by
  have hl := h.lt
  obtain ⟨es, clock, hb, r⟩ := h
  exact ⟨es, clock, (ho.block b hl hx).trans hb, r⟩
theorem OM.later {W W' : World} {b : Nat} {L : List Th} (h : OM W b L) (hb : Below W.heap.size W W') : OM W' b L := h.off (X := []) (Off.of_below hb []) (by simp)
theorem om_made (w : World) : OM (w.alloc (.map #[] 0)) w.heap.size [] := World.ownsMap_made w Tryz.prog 3 RV
theorem om_block {W : World} {b : Nat} {L : List Th} (h : OM W b L) : ∃ es c, W.heap[b]? = some (.map es c) := by
  obtain ⟨es, clock, hb, _⟩ := h
  exact ⟨es, clock, hb⟩
theorem om_ne {W : World} {b g : Nat} {L : List Th} {cs : Array Value} {t : TypeId} {fr : Nat × Nat} (h : OM W b L) (hg : W.heap[g]? = some (.cells cs t fr)) : b ≠ g := by
  obtain ⟨es, clock, hb, _⟩ := h
  intro e
  subst e
  rw [hb] at hg
  cases hg
theorem key_law : Keyed Tryz.prog 3 := int_keyed Tryz.underlying3
theorem wf_int {id : Int} (h : inI id) : (Lit.int .i64 id).wf = true := by
  simp [Lit.wf, IntKind.min, IntKind.max, IntKind.signed, IntKind.bits]
  obtain ⟨h1, h2⟩ := h
  omega
theorem key_int {id : Int} (h : inI id) : keyOf Tryz.prog 3 (.int .i64 id) = some (.int .i64 id) := keyOf_int_mk Tryz.underlying3 (wf_int h)
theorem zero_th (w : World) : (zeroValue 54).run Tryz.prog w = .ok zT.v w := by kernel_rfl
/-- 'x, ok := m[id]' -/
theorem om_look {W : World} {b : Nat} {L : List Th} (h : OM W b L) {id : Int} (hi : inI id) {t : Th} {q : Bool} (ht : Hid ((findT id L).getD zT = t)) (hq : Hid (hasT id L = q)) :
    (Instr.lookup 56 (.map (some b)) (.int .i64 id) true).run Tryz.prog W = .ok (.tuple #[t.v, .bool q]) W := by
  obtain ⟨v, ps, hr, hv⟩ := World.ownsMap.look_ok h key_law Tryz.underlying56 (zero_th W) (zd := .held zT.v) (zp := []) rfl (key_int hi)
  rw [DM_at, ht.out] at hv
  simp only [RV, Option.some.injEq, Prod.mk.injEq, DataW.held.injEq] at hv
  rw [hr, hv.1, DM_has, hq.out]
/-- 'm[id]' -/
theorem om_get {W : World} {b : Nat} {L : List Th} (h : OM W b L) {id : Int} (hi : inI id) {t : Th} (ht : Hid ((findT id L).getD zT = t)) :
    (Instr.lookup 56 (.map (some b)) (.int .i64 id) false).run Tryz.prog W = .ok t.v W := by
  obtain ⟨v, ps, hr, hv⟩ := World.ownsMap.lookup h key_law Tryz.underlying56 (zero_th W) (zd := .held zT.v) (zp := []) rfl (key_int hi)
  rw [DM_at, ht.out] at hv
  simp only [RV, Option.some.injEq, Prod.mk.injEq, DataW.held.injEq] at hv
  rw [hr, hv.1]
/-- 'len(m)' -/
theorem om_len {W : World} {b : Nat} {L : List Th} (h : OM W b L) {n : Nat} (hn : Hid (L.length = n)) (ty : TypeId) : (Builtin.len_ #[56] ty #[.map (some b)]).run Tryz.prog W = .ok (.int .i64 (n : Nat)) W := by
  rw [World.ownsMap.len h Tryz.underlying56 ty, DM_size, hn.out]
theorem turned_off {W W' : World} {b : Nat} (h : W.mapTurned W' b) : Off [b] W W' := by
  have hg := h.grown
  exact ⟨hg.os, hg.tape, hg.output, hg.size, fun k hk hx => hg.block k hk (fun e => hx (by cases e; simp))⟩
/-- 'm[t.ID] = t' -/
theorem om_put {W : World} {b : Nat} {L : List Th} (h : OM W b L) (hl : L.length ≤ 999) {t : Th} (hi : inI t.id) :
    ∃ w', (Instr.mapUpdate 56 (.map (some b)) (.int .i64 t.id) t.v).run Tryz.prog W = .ok () w' ∧ OM w' b (witT t L) ∧ Off [b] W w' := by
  obtain ⟨w', h1, h2, h3⟩ := World.ownsMap.store h key_law Tryz.underlying56 (by unfold maxLen; omega) (key_int hi) (val := t.v) (d := .held t.v) (ps := []) rfl
  rw [DM_put] at h2
  exact ⟨w', h1, OM.of h2, turned_off h3⟩
/-- 'delete(m, id)' -/
theorem om_del {W : World} {b : Nat} {L : List Th} (h : OM W b L) {id : Int} (hi : inI id) (ty : TypeId) :
    ∃ w', (Builtin.delete_ #[56, 3] ty #[.map (some b), .int .i64 id]).run Tryz.prog W = .ok (.tuple #[]) w' ∧ OM w' b (outT id L) ∧ Off [b] W w' := by
  obtain ⟨w', h1, h2, h3⟩ := World.ownsMap.drop h key_law Tryz.underlying56 (key_int hi) ty
  rw [DM_del] at h2
  exact ⟨w', h1, OM.of h2, turned_off h3⟩
theorem wp_look {w : World} {ops : Array Oper} {rest : List Oper} {o : Oper} {a : Act} {Q : Exit → Act → World → Prop} (hg : o.guard = none) (m x : Operand) (hop : o.op = Op.lookup 56 m x true)
    {b : Nat} {L : List Th} (hm : a.eval m = .map (some b)) (h : OM w b L) {id : Int} (hx : a.eval x = .int .i64 id) (hi : inI id) {t : Th} {q : Bool} (ht : Hid ((findT id L).getD zT = t)) (hq : Hid (hasT id L = q))
    (hK : wpList Tryz.prog ops Q rest (a.put o.dst (.tuple #[t.v, .bool q])) w) : wpList Tryz.prog ops Q (o :: rest) a w := by
  refine wpList_plain hg fun K' hK' => ?_
  unfold Oper.wp
  simp only [execOp, hop, hm, hx, Sem.run_bind, om_look h hi ht hq, Result.andThen_ok]
  exact hK' _ _ hK
theorem wp_get {w : World} {ops : Array Oper} {rest : List Oper} {o : Oper} {a : Act} {Q : Exit → Act → World → Prop} (hg : o.guard = none) (m x : Operand) (hop : o.op = Op.lookup 56 m x false)
    {b : Nat} {L : List Th} (hm : a.eval m = .map (some b)) (h : OM w b L) {id : Int} (hx : a.eval x = .int .i64 id) (hi : inI id) {t : Th} (ht : Hid ((findT id L).getD zT = t))
    (hK : wpList Tryz.prog ops Q rest (a.put o.dst t.v) w) : wpList Tryz.prog ops Q (o :: rest) a w := by
  refine wpList_plain hg fun K' hK' => ?_
  unfold Oper.wp
  simp only [execOp, hop, hm, hx, Sem.run_bind, om_get h hi ht, Result.andThen_ok]
  exact hK' _ _ hK
theorem wp_len {w : World} {ops : Array Oper} {rest : List Oper} {o : Oper} {a : Act} {Q : Exit → Act → World → Prop} (hg : o.guard = none) (m : Operand) (hop : o.op = Op.call { callee := Callee.builtin Builtin.len, args := #[m], argTypes := #[56] })
    {b : Nat} {L : List Th} (hm : a.eval m = .map (some b)) (h : OM w b L) {n : Nat} (hn : Hid (L.length = n))
    (hK : wpList Tryz.prog ops Q rest (a.put o.dst (.int .i64 (n : Nat))) w) : wpList Tryz.prog ops Q (o :: rest) a w := by
  refine wpList_plain hg fun K' hK' => ?_
  unfold Oper.wp
  simp [execOp, hop, resolve, invoke, builtin, hm, om_len h hn o.type, Result.andThen]
  exact hK' _ _ hK
theorem wp_del {w : World} {ops : Array Oper} {rest : List Oper} {o : Oper} {a : Act} {Q : Exit → Act → World → Prop} (hg : o.guard = none) (m x : Operand) (hop : o.op = Op.call { callee := Callee.builtin Builtin.delete, args := #[m, x], argTypes := #[56, 3] })
    {b : Nat} {L : List Th} (hm : a.eval m = .map (some b)) (h : OM w b L) {id : Int} (hx : a.eval x = .int .i64 id) (hi : inI id)
    (hK : ∀ w', OM w' b (outT id L) → Off [b] w w' → wpList Tryz.prog ops Q rest (a.put o.dst (.tuple #[])) w') : wpList Tryz.prog ops Q (o :: rest) a w := by
  refine wpList_plain hg fun K' hK' => ?_
  obtain ⟨w', hr, h1, h2⟩ := om_del h hi o.type
  unfold Oper.wp
  simp [execOp, hop, resolve, invoke, builtin, hm, hx, hr, Result.andThen]
  exact hK' _ _ (hK w' h1 h2)
theorem step_put {w : World} {ops : Array Oper} {o : Oper} {a : Act} {K : Act → World → Prop} {Q : Exit → Act → World → Prop} {E : Prop} (hgd : o.guard = none) (m x v : Operand) (hop : o.op = Op.mapUpdate 56 m x v)
    {b : Nat} {L : List Th} (hm : a.eval m = .map (some b)) (h : OM w b L) (hl : L.length ≤ 999) {t : Th} (hx : a.eval x = .int .i64 t.id) (hv : a.eval v = t.v) (hi : inI t.id)
    (hK : ∀ w', OM w' b (witT t L) → Off [b] w w' → K (a.put o.dst undef) w') :
    if Region.wanted o (yielded ops a.tmps) = true then Oper.wp Tryz.prog o a w K Q else E := by
  rw [if_pos (by simp [Region.wanted, hgd])]
  obtain ⟨w', hr, h1, h2⟩ := om_put h hl hi
  unfold Oper.wp
  simp only [execOp, hop, hm, hx, hv, Sem.run_bind, Sem.run_pure, hr, Result.andThen_ok]
  exact hK w' h1 h2
end
end Go.Proofs.YtfoncphdbaaedaaGreatDoor
