/- Fields, plain; contracts of IsField of the package fields and of the reference; what a field is that comes in. -/
import Derived.Test.YthgnmpgdlemdlaaGeom
import Derived.Test.YthgnmpgdlemdlaaXB
import Derived.WalkKit
import Derived.WalkSpells
import Derived.WalkLawsBesides
import Derived.Handy
import Derived.ChangeOld
import Derived.OpenShut
import Derived.ShutString
namespace Go.Proofs.Ythgnmpgdlemdlaa
section
open Go.RowKit
set_option linter.unusedVariables false
structure Fl where
  n : Int
  s : ByteArray
structure Th where
  id : Int
  x : Int
  y : Int
  f0 : Fl
  f1 : Fl
  f2 : Fl
  f3 : Fl
structure Dl where
  id : Int
  m : Nat
  x : Int
  y : Int
  f0 : Fl
  f1 : Fl
  f2 : Fl
  f3 : Fl
def eqF (a b : Fl) : Bool := a.n == b.n && decide (a.s = b.s)
abbrev Fl.v (f : Fl) : Value := .agg #[.int .i64 f.n, .string f.s]
abbrev Th.v (t : Th) : Value := .agg #[.int .i64 t.id, .int .i64 t.x, .int .i64 t.y, .int .i64 t.f0.n, .string t.f0.s, .int .i64 t.f1.n, .string t.f1.s, .int .i64 t.f2.n, .string t.f2.s, .int .i64 t.f3.n, .string t.f3.s]
abbrev Dl.v (t : Dl) : Value := .agg #[.int .i64 t.id, .int .u8 t.m, .int .i64 t.x, .int .i64 t.y, .int .i64 t.f0.n, .string t.f0.s, .int .i64 t.f1.n, .string t.f1.s, .int .i64 t.f2.n, .string t.f2.s, .int .i64 t.f3.n, .string t.f3.s]
def pEq (a0 a1 b0 b1 : Int) : Bool := a0 == b0 && a1 == b1
def isF (f : Fl) : Bool := (f.n == 0 || decide (f.s.toList = [])) && decide (f.s.size ≤ 12)
theorem toList_inj {a b : ByteArray} : a.toList = b.toList ↔ a = b := by
  rw [ByteArray.toList_eq, ByteArray.toList_eq]
  exact ⟨fun h => ByteArray.ext (Array.toList_inj.mp h), fun h => by rw [h]⟩
end
section
open Go.RowKit
set_option linter.unusedVariables false
theorem equal_pt (W : World) (a0 a1 b0 b1 : Int) : (Op.equalIn 10000 24 (pt a0 a1) (pt b0 b1)).run Try.prog W = .ok (pEq a0 a1 b0 b1) W := by
  unfold pEq
  by_cases h0 : a0 = b0 <;> by_cases h1 : a1 = b1 <;> simp [go_sem, h0, h1]
theorem equal_fl (W : World) (a b : Fl) : (Op.equalIn 10000 38 a.v b.v).run Try.prog W = .ok (eqF a b) W := by
  obtain ⟨n, s⟩ := a
  obtain ⟨m, t⟩ := b
  by_cases h0 : n = m <;> by_cases h1 : s = t <;> simp [go_sem, h0, h1, toList_inj, eqF]
theorem equal_fl_at {a b : Fl} {q : Bool} (h : eqF a b = q) (W : World) : (Op.equalIn 10000 38 a.v b.v).run Try.prog W = .ok q W := by rw [equal_fl, h]
theorem bit_at (m k : Nat) (hm : m ≤ 255) : (bits .and .u8 ((m : Int) / 2 ^ k) 1 == 1) = m.testBit k := by
  have e : ((m : Int) / 2 ^ k) = ((m / 2 ^ k : Nat) : Int) := by simp
  have h1 : m / 2 ^ k ≤ m := Nat.div_le_self _ _
  have := u8_and_nat (m / 2 ^ k) 1 (by omega) (by omega)
  rw [e, show (1 : Int) = ((1 : Nat) : Int) from rfl, this, Nat.and_one_is_mod]
  rw [Nat.testBit_eq_decide_div_mod_eq]
  rw [Bool.eq_iff_iff]
  simp
  omega
theorem fields_isField (w : World) (f : Fl) (hs : f.s.size ≤ maxLen) : Calls Try.prog 64 #[f.v] w fun e w' => e = .returned (.bool (isF f)) ∧ Below w.heap.size w w' := by
  go_enter Try.func64, Try.ntmps64
  go_wp2 <;> (go_ret; exact ⟨by simp_all [isF] <;> omega, below1 _ _⟩)
theorem ref_isField (w : World) (f : Fl) (hs : f.s.size ≤ maxLen) : Calls Try.prog 33 #[f.v] w fun e w' => e = .returned (.bool (isF f)) ∧ Below w.heap.size w w' := by
  go_enter Try.func33, Try.ntmps33
  go_wp2 <;> (go_ret; exact ⟨by simp_all [isF] <;> omega, below1 _ _⟩)
end
section
open Go.RowKit Go.ChangeShapes Go.WideShapes Go.Deep Go.Joins
set_option linter.unusedVariables false
set_option maxRecDepth 100000
def inF (f : Fl) : Prop := f.s.size ≤ maxLen ∧ -9223372036854775808 ≤ f.n ∧ f.n ≤ 9223372036854775807
def inT (t : Th) : Prop := inF t.f0 ∧ inF t.f1 ∧ inF t.f2 ∧ inF t.f3
def inD (d : Dl) : Prop := d.m < 256 ∧ inF d.f0 ∧ inF d.f1 ∧ inF d.f2 ∧ inF d.f3
theorem array11 {α : Type} {cs : Array α} (h : cs.size = 11) : ∃ c0 c1 c2 c3 c4 c5 c6 c7 c8 c9 c10, cs = #[c0, c1, c2, c3, c4, c5, c6, c7, c8, c9, c10] := by
  obtain ⟨l⟩ := cs
  match l, h with
  | [c0, c1, c2, c3, c4, c5, c6, c7, c8, c9, c10], _ => exact ⟨c0, c1, c2, c3, c4, c5, c6, c7, c8, c9, c10, rfl⟩
theorem array12 {α : Type} {cs : Array α} (h : cs.size = 12) : ∃ c0 c1 c2 c3 c4 c5 c6 c7 c8 c9 c10 c11, cs = #[c0, c1, c2, c3, c4, c5, c6, c7, c8, c9, c10, c11] := by
  obtain ⟨l⟩ := cs
  match l, h with
  | [c0, c1, c2, c3, c4, c5, c6, c7, c8, c9, c10, c11], _ => exact ⟨c0, c1, c2, c3, c4, c5, c6, c7, c8, c9, c10, c11, rfl⟩
theorem cellsOf3 : Try.prog.cellsOf 3 = 1 := by kernel_rfl
theorem cellsOf2 : Try.prog.cellsOf 2 = 1 := by kernel_rfl
theorem cellsOf5 : Try.prog.cellsOf 5 = 1 := by kernel_rfl
theorem cellsOf9 : Try.prog.cellsOf 9 = 1 := by kernel_rfl
theorem cellsOf23 : Try.prog.cellsOf 24 = 2 := by kernel_rfl
theorem cellsOf25 : Try.prog.cellsOf 38 = 2 := by kernel_rfl
theorem cellsOf26 : Try.prog.cellsOf 39 = 8 := by kernel_rfl
section
variable {H : Type} {enc : TypeId × Value → H} {w : World} {base : Nat} {spare : Nat → Bool} {held : Bool} {r : Reach} {b0 : Nat} {v : Value} {d : DataW H} {p : List MemPlace}
theorem i64_bounds {n : Int} (h : (Lit.int .i64 n).wf = true) : -9223372036854775808 ≤ n ∧ n ≤ 9223372036854775807 := by
  simp [Lit.wf, IntKind.min, IntKind.max, IntKind.signed, IntKind.bits] at h
  omega
theorem u8_bounds {n : Int} (h : (Lit.int .u8 n).wf = true) : 0 ≤ n ∧ n < 256 := by
  simp [Lit.wf, IntKind.min, IntKind.max, IntKind.signed, IntKind.bits] at h
  omega
theorem trod_fl {fuel : Nat} {c0 c1 : Value} {x : DataW H × List MemPlace} (h : DataW.trod enc Try.prog w base spare held fuel 38 [c0, c1] = some x) : ∃ f : Fl, c0 = .int .i64 f.n ∧ c1 = .string f.s ∧ inF f := by
  obtain ⟨y0, y1, n, _, _, h0, h1⟩ := trod_struct2 Try.underlying38 h
  simp only [cellsOf2, cellsOf9, List.drop_zero, List.take_succ_cons, List.take_zero, List.drop_succ_cons] at h0 h1
  obtain ⟨a, e0, _, w0⟩ := DataW.trod_int Try.underlying2 h0
  obtain ⟨s, e1, _, w1⟩ := DataW.trod_string Try.underlying9 h1
  simp only [List.cons.injEq, and_true] at e0 e1
  exact ⟨⟨a, s⟩, e0, e1, w1, i64_bounds w0⟩
theorem trod_pt {fuel : Nat} {c0 c1 : Value} {x : DataW H × List MemPlace} (h : DataW.trod enc Try.prog w base spare held fuel 24 [c0, c1] = some x) : ∃ a b : Int, c0 = .int .i64 a ∧ c1 = .int .i64 b := by
  obtain ⟨y0, y1, n, _, _, h0, h1⟩ := trod_struct2 Try.underlying24 h
  simp only [cellsOf3, List.drop_zero, List.take_succ_cons, List.take_zero, List.drop_succ_cons] at h0 h1
  obtain ⟨a, e0, _, w0⟩ := DataW.trod_int Try.underlying3 h0
  obtain ⟨b, e1, _, w1⟩ := DataW.trod_int Try.underlying3 h1
  simp only [List.cons.injEq, and_true] at e0 e1
  exact ⟨a, b, e0, e1⟩
theorem trod_fs {fuel : Nat} {c0 c1 c2 c3 c4 c5 c6 c7 : Value} {x : DataW H × List MemPlace} (h : DataW.trod enc Try.prog w base spare held fuel 39 [c0, c1, c2, c3, c4, c5, c6, c7] = some x) :
    ∃ f0 f1 f2 f3 : Fl, c0 = .int .i64 f0.n ∧ c1 = .string f0.s ∧ c2 = .int .i64 f1.n ∧ c3 = .string f1.s ∧ c4 = .int .i64 f2.n ∧ c5 = .string f2.s ∧ c6 = .int .i64 f3.n ∧ c7 = .string f3.s ∧ inF f0 ∧ inF f1 ∧ inF f2 ∧ inF f3 := by
  obtain ⟨xs, m, _, _, _, hl, hf⟩ := DataW.trod_array Try.underlying39 h
  match xs, hl with
  | [y0, y1, y2, y3], _ =>
    have h0 := hf 0 (by omega)
    have h1 := hf 1 (by omega)
    have h2 := hf 2 (by omega)
    have h3 := hf 3 (by omega)
    simp [cellsOf25] at h0 h1 h2 h3
    obtain ⟨f0, a0, b0, i0⟩ := trod_fl h0
    obtain ⟨f1, a1, b1, i1⟩ := trod_fl h1
    obtain ⟨f2, a2, b2, i2⟩ := trod_fl h2
    obtain ⟨f3, a3, b3, i3⟩ := trod_fl h3
    exact ⟨f0, f1, f2, f3, a0, b0, a1, b1, a2, b2, a3, b3, i0, i1, i2, i3⟩
theorem open_fl (hv : Value.okWide Try.prog w r b0 38 v) (h : DataW.Trod enc Try.prog w base spare held 38 v d p) : ∃ f : Fl, v = f.v ∧ inF f := by
  obtain ⟨cs, rfl, hsz⟩ := okWide_struct Try.underlying38 hv
  obtain ⟨c0, c1, rfl⟩ := array2 (hsz.trans cellsOf25)
  obtain ⟨fuel, hf⟩ := h
  obtain ⟨f, rfl, rfl, hi⟩ := trod_fl (by simpa [Value.cells] using hf)
  exact ⟨f, rfl, hi⟩
end
end
end Go.Proofs.Ythgnmpgdlemdlaa
