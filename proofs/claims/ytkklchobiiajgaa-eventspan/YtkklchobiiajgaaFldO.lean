/- What a field, a thing, a delta is that comes in: its numbers fit, its texts are not too long for the machine. -/
import Derived.Test.YtkklchobiiajgaaFldP
import Derived.ChangeOld
import Derived.OpenShut
import Derived.ShutString
namespace Go.Proofs.Ytkklchobiiajgaa
open Go.RowKit Go.ChangeShapes Go.WideShapes Go.Deep Go.Joins
set_option linter.unusedVariables false
set_option maxRecDepth 100000
def inF (f : Fl) : Prop := f.s.size ≤ maxLen ∧ -9223372036854775808 ≤ f.n ∧ f.n ≤ 9223372036854775807
def inT (t : Th) : Prop := inF t.f0 ∧ inF t.f1 ∧ inF t.f2 ∧ inF t.f3
def inD (d : Dl) : Prop := d.m < 256 ∧ inF d.f0 ∧ inF d.f1 ∧ inF d.f2 ∧ inF d.f3
theorem array11 {α : Type} {cs : Array α} (h : cs.size = 11) : ∃ c0 c1 c2 c3 c4 c5 c6 c7 c8 c9 c10, cs = #[c0, c1, c2, c3, c4, c5, c6, c7, c8, c9, c10] := by
  obtain ⟨l⟩ := cs
  match l, h with
  | [c0, c1, c2, c3, c4, c5, c6, c7, c8, c9, c10], _ => exact ⟨c0, c1, c2, c3, c4, c5, c6, c7, c8, c9, c10, rfl⟩
theorem array12 {α : Type} {cs : Array α} (h : cs.size = 12) : ∃ c0 c1 c2 c3 c4 c5 c6 c7 c8 c9 c10 c11, cs = #[c0, c1, c2, c3, c4, c5, c6, c7, c8, c9, c10, c11] := by
  obtain ⟨l⟩ := cs
  match l, h with
  | [c0, c1, c2, c3, c4, c5, c6, c7, c8, c9, c10, c11], _ => exact ⟨c0, c1, c2, c3, c4, c5, c6, c7, c8, c9, c10, c11, rfl⟩
theorem cellsOf3 : Try.prog.cellsOf 3 = 1 := by kernel_rfl
theorem cellsOf2 : Try.prog.cellsOf 2 = 1 := by kernel_rfl
theorem cellsOf5 : Try.prog.cellsOf 5 = 1 := by kernel_rfl
theorem cellsOf9 : Try.prog.cellsOf 9 = 1 := by kernel_rfl
theorem cellsOf23 : Try.prog.cellsOf 38 = 2 := by kernel_rfl
theorem cellsOf25 : Try.prog.cellsOf 40 = 2 := by kernel_rfl
theorem cellsOf26 : Try.prog.cellsOf 41 = 8 := by kernel_rfl
theorem cellsOf28 : Try.prog.cellsOf 43 = 11 := by kernel_rfl
theorem cellsOf30 : Try.prog.cellsOf 45 = 12 := by kernel_rfl
section
variable {H : Type} {enc : TypeId × Value → H} {w : World} {base : Nat} {spare : Nat → Bool} {held : Bool} {r : Reach} {b0 : Nat} {v : Value} {d : DataW H} {p : List MemPlace}
theorem i64_bounds {n : Int} (h : (Lit.int .i64 n).wf = true) : -9223372036854775808 ≤ n ∧ n ≤ 9223372036854775807 := by
  simp [Lit.wf, IntKind.min, IntKind.max, IntKind.signed, IntKind.bits] at h
  omega
theorem u8_bounds {n : Int} (h : (Lit.int .u8 n).wf = true) : 0 ≤ n ∧ n < 256 := by
  simp [Lit.wf, IntKind.min, IntKind.max, IntKind.signed, IntKind.bits] at h
  omega
theorem trod_fl {fuel : Nat} {c0 c1 : Value} {x : DataW H × List MemPlace} (h : DataW.trod enc Try.prog w base spare held fuel 40 [c0, c1] = some x) : ∃ f : Fl, c0 = .int .i64 f.n ∧ c1 = .string f.s ∧ inF f := by
  obtain ⟨y0, y1, n, _, _, h0, h1⟩ := trod_struct2 Try.underlying40 h
  simp only [cellsOf2, cellsOf9, List.drop_zero, List.take_succ_cons, List.take_zero, List.drop_succ_cons] at h0 h1
  obtain ⟨a, e0, _, w0⟩ := DataW.trod_int Try.underlying2 h0
  obtain ⟨s, e1, _, w1⟩ := DataW.trod_string Try.underlying9 h1
  simp only [List.cons.injEq, and_true] at e0 e1
  exact ⟨⟨a, s⟩, e0, e1, w1, i64_bounds w0⟩
theorem trod_pt {fuel : Nat} {c0 c1 : Value} {x : DataW H × List MemPlace} (h : DataW.trod enc Try.prog w base spare held fuel 38 [c0, c1] = some x) : ∃ a b : Int, c0 = .int .i64 a ∧ c1 = .int .i64 b := by
  obtain ⟨y0, y1, n, _, _, h0, h1⟩ := trod_struct2 Try.underlying38 h
  simp only [cellsOf3, List.drop_zero, List.take_succ_cons, List.take_zero, List.drop_succ_cons] at h0 h1
  obtain ⟨a, e0, _, w0⟩ := DataW.trod_int Try.underlying3 h0
  obtain ⟨b, e1, _, w1⟩ := DataW.trod_int Try.underlying3 h1
  simp only [List.cons.injEq, and_true] at e0 e1
  exact ⟨a, b, e0, e1⟩
theorem trod_fs {fuel : Nat} {c0 c1 c2 c3 c4 c5 c6 c7 : Value} {x : DataW H × List MemPlace} (h : DataW.trod enc Try.prog w base spare held fuel 41 [c0, c1, c2, c3, c4, c5, c6, c7] = some x) :
    ∃ f0 f1 f2 f3 : Fl, c0 = .int .i64 f0.n ∧ c1 = .string f0.s ∧ c2 = .int .i64 f1.n ∧ c3 = .string f1.s ∧ c4 = .int .i64 f2.n ∧ c5 = .string f2.s ∧ c6 = .int .i64 f3.n ∧ c7 = .string f3.s ∧ inF f0 ∧ inF f1 ∧ inF f2 ∧ inF f3 := by
  obtain ⟨xs, m, _, _, _, hl, hf⟩ := DataW.trod_array Try.underlying41 h
  match xs, hl with
  | [y0, y1, y2, y3], _ =>
    have h0 := hf 0 (by omega)
    have h1 := hf 1 (by omega)
    have h2 := hf 2 (by omega)
    have h3 := hf 3 (by omega)
    simp [cellsOf25] at h0 h1 h2 h3
    obtain ⟨f0, a0, b0, i0⟩ := trod_fl h0
    obtain ⟨f1, a1, b1, i1⟩ := trod_fl h1
    obtain ⟨f2, a2, b2, i2⟩ := trod_fl h2
    obtain ⟨f3, a3, b3, i3⟩ := trod_fl h3
    exact ⟨f0, f1, f2, f3, a0, b0, a1, b1, a2, b2, a3, b3, i0, i1, i2, i3⟩
theorem open_fl (hv : Value.okWide Try.prog w r b0 40 v) (h : DataW.Trod enc Try.prog w base spare held 40 v d p) : ∃ f : Fl, v = f.v ∧ inF f := by
  obtain ⟨cs, rfl, hsz⟩ := okWide_struct Try.underlying40 hv
  obtain ⟨c0, c1, rfl⟩ := array2 (hsz.trans cellsOf25)
  obtain ⟨fuel, hf⟩ := h
  obtain ⟨f, rfl, rfl, hi⟩ := trod_fl (by simpa [Value.cells] using hf)
  exact ⟨f, rfl, hi⟩
theorem open_th (hv : Value.okWide Try.prog w r b0 43 v) (h : DataW.Trod enc Try.prog w base spare held 43 v d p) : ∃ t : Th, v = t.v ∧ inT t := by
  obtain ⟨cs, rfl, hsz⟩ := okWide_struct Try.underlying43 hv
  obtain ⟨c0, c1, c2, c3, c4, c5, c6, c7, c8, c9, c10, rfl⟩ := array11 (hsz.trans cellsOf28)
  obtain ⟨fuel, hf⟩ := h
  obtain ⟨y0, y1, y2, n, _, _, h0, h1, h2⟩ := trod_struct3 Try.underlying43 hf
  simp [Value.cells, cellsOf3, cellsOf23, cellsOf26] at h0 h1 h2
  obtain ⟨id, e0, _, _⟩ := DataW.trod_int Try.underlying3 h0
  obtain ⟨x, y, rfl, rfl⟩ := trod_pt h1
  obtain ⟨f0, f1, f2, f3, rfl, rfl, rfl, rfl, rfl, rfl, rfl, rfl, i0, i1, i2, i3⟩ := trod_fs h2
  simp only [List.cons.injEq, and_true] at e0
  subst e0
  exact ⟨⟨id, x, y, f0, f1, f2, f3⟩, rfl, i0, i1, i2, i3⟩
theorem open_dl (hv : Value.okWide Try.prog w r b0 45 v) (h : DataW.Trod enc Try.prog w base spare held 45 v d p) : ∃ t : Dl, v = t.v ∧ inD t := by
  obtain ⟨cs, rfl, hsz⟩ := okWide_struct Try.underlying45 hv
  obtain ⟨c0, c1, c2, c3, c4, c5, c6, c7, c8, c9, c10, c11, rfl⟩ := array12 (hsz.trans cellsOf30)
  obtain ⟨fuel, hf⟩ := h
  obtain ⟨y0, y1, y2, y3, n, _, _, h0, h1, h2, h3⟩ := trod_struct4 Try.underlying45 hf
  simp [Value.cells, cellsOf3, cellsOf5, cellsOf23, cellsOf26] at h0 h1 h2 h3
  obtain ⟨id, e0, _, _⟩ := DataW.trod_int Try.underlying3 h0
  obtain ⟨m, e1, _, w1⟩ := DataW.trod_int Try.underlying5 h1
  obtain ⟨x, y, rfl, rfl⟩ := trod_pt h2
  obtain ⟨f0, f1, f2, f3, rfl, rfl, rfl, rfl, rfl, rfl, rfl, rfl, i0, i1, i2, i3⟩ := trod_fs h3
  simp only [List.cons.injEq, and_true] at e0 e1
  subst e0 e1
  have hm := u8_bounds w1
  obtain ⟨k, rfl⟩ := Int.eq_ofNat_of_zero_le hm.1
  exact ⟨⟨id, k, x, y, f0, f1, f2, f3⟩, rfl, by show k < 256; omega, i0, i1, i2, i3⟩
end
end Go.Proofs.Ytkklchobiiajgaa
