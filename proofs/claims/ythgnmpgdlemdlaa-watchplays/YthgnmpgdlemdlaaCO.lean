/- What a command is that comes in. -/
import Derived.Test.YthgnmpgdlemdlaaCE
import Derived.Deep.Slices
namespace Go.Proofs.Ythgnmpgdlemdlaa
section
open Go.RowKit Go.ChangeShapes Go.WideShapes Go.Deep Go.Joins
set_option linter.unusedVariables false
set_option maxRecDepth 100000
def inC (c : Cm) : Prop := inF c.f0 ∧ inF c.f1 ∧ inF c.f2 ∧ inF c.f3 ∧ inF c.va
theorem list22 {α : Type} {l : List α} (h : l.length = 22) : ∃ c0 c1 c2 c3 c4 c5 c6 c7 c8 c9 c10 c11 c12 c13 c14 c15 c16 c17 c18 c19 c20 c21, l = [c0, c1, c2, c3, c4, c5, c6, c7, c8, c9, c10, c11, c12, c13, c14, c15, c16, c17, c18, c19, c20, c21] := by
  match l, h with
  | [c0, c1, c2, c3, c4, c5, c6, c7, c8, c9, c10, c11, c12, c13, c14, c15, c16, c17, c18, c19, c20, c21], _ => exact ⟨c0, c1, c2, c3, c4, c5, c6, c7, c8, c9, c10, c11, c12, c13, c14, c15, c16, c17, c18, c19, c20, c21, rfl⟩
theorem cellsOf28r : Try.prog.cellsOf 26 = 4 := by kernel_rfl
theorem cellsOf30c : Try.prog.cellsOf 41 = 22 := by kernel_rfl
def Cm.cs (c : Cm) : List Value := [.int .i64 c.kd, .int .i64 c.id, .int .i64 c.wh, .int .i64 c.tt, .int .i64 c.x, .int .i64 c.y, .int .i64 c.f0.n, .string c.f0.s, .int .i64 c.f1.n, .string c.f1.s, .int .i64 c.f2.n, .string c.f2.s, .int .i64 c.f3.n, .string c.f3.s, .int .i64 c.va.n, .string c.va.s, .int .i64 c.cl, .int .i64 c.se, .int .i64 c.r0, .int .i64 c.r1, .int .i64 c.r2, .int .i64 c.r3]
section
variable {H : Type} {enc : TypeId × Value → H} {w : World} {base : Nat} {spare : Nat → Bool} {held : Bool} {r : Reach} {b0 : Nat} {v : Value} {d : DataW H} {p : List MemPlace}
theorem trod_rect4 {fuel : Nat} {c0 c1 c2 c3 : Value} {x : DataW H × List MemPlace} (h : DataW.trod enc Try.prog w base spare held fuel 26 [c0, c1, c2, c3] = some x) : ∃ a b c d : Int, c0 = .int .i64 a ∧ c1 = .int .i64 b ∧ c2 = .int .i64 c ∧ c3 = .int .i64 d := by
  obtain ⟨y0, y1, y2, y3, n, _, _, h0, h1, h2, h3⟩ := trod_struct4 Try.underlying26 h
  simp [cellsOf3] at h0 h1 h2 h3
  obtain ⟨a, e0, _, _⟩ := DataW.trod_int Try.underlying3 h0
  obtain ⟨b, e1, _, _⟩ := DataW.trod_int Try.underlying3 h1
  obtain ⟨c, e2, _, _⟩ := DataW.trod_int Try.underlying3 h2
  obtain ⟨d, e3, _, _⟩ := DataW.trod_int Try.underlying3 h3
  simp only [List.cons.injEq, and_true] at e0 e1 e2 e3
  exact ⟨a, b, c, d, e0, e1, e2, e3⟩
theorem trod_cm {fuel : Nat} {cs : List Value} {x : DataW H × List MemPlace} (hl : cs.length = 22) (hf : DataW.trod enc Try.prog w base spare held fuel 41 cs = some x) : ∃ t : Cm, cs = t.cs ∧ inC t := by
  obtain ⟨c0, c1, c2, c3, c4, c5, c6, c7, c8, c9, c10, c11, c12, c13, c14, c15, c16, c17, c18, c19, c20, c21, rfl⟩ := list22 hl
  obtain ⟨xs, m, _, _, _, hlen, hk⟩ := DataW.trod_struct Try.underlying41 hf
  match xs, hlen with
  | [y0, y1, y2, y3, y4, y5, y6, y7, y8, y9], _ =>
    have h0 := hk 0 _ rfl
    have h1 := hk 1 _ rfl
    have h2 := hk 2 _ rfl
    have h3 := hk 3 _ rfl
    have h4 := hk 4 _ rfl
    have h5 := hk 5 _ rfl
    have h6 := hk 6 _ rfl
    have h7 := hk 7 _ rfl
    have h8 := hk 8 _ rfl
    have h9 := hk 9 _ rfl
    clear hk
    simp [cellsOf3, cellsOf23, cellsOf25, cellsOf26, cellsOf28r] at h0 h1 h2 h3 h4 h5 h6 h7 h8 h9
    obtain ⟨a0, e0, _, _⟩ := DataW.trod_int Try.underlying3 h0
    obtain ⟨a1, e1, _, _⟩ := DataW.trod_int Try.underlying3 h1
    obtain ⟨a2, e2, _, _⟩ := DataW.trod_int Try.underlying3 h2
    obtain ⟨a3, e3, _, _⟩ := DataW.trod_int Try.underlying3 h3
    obtain ⟨a4, a5, rfl, rfl⟩ := trod_pt h4
    obtain ⟨f0, f1, f2, f3, rfl, rfl, rfl, rfl, rfl, rfl, rfl, rfl, i0, i1, i2, i3⟩ := trod_fs h5
    obtain ⟨f4, rfl, rfl, i4⟩ := trod_fl h6
    obtain ⟨a7, e7, _, _⟩ := DataW.trod_int Try.underlying3 h7
    obtain ⟨a8, e8, _, _⟩ := DataW.trod_int Try.underlying3 h8
    obtain ⟨b0, b1, b2, b3, rfl, rfl, rfl, rfl⟩ := trod_rect4 h9
    simp only [List.cons.injEq, and_true] at e0 e1 e2 e3 e7 e8
    subst e0 e1 e2 e3 e7 e8
    exact ⟨⟨a0, a1, a2, a3, a4, a5, f0, f1, f2, f3, f4, a7, a8, b0, b1, b2, b3⟩, rfl, i0, i1, i2, i3, i4⟩
theorem open_cm (hv : Value.okWide Try.prog w r b0 41 v) (h : DataW.Trod enc Try.prog w base spare held 41 v d p) : ∃ t : Cm, v = t.v ∧ inC t := by
  obtain ⟨cs, rfl, hsz⟩ := okWide_struct Try.underlying41 hv
  obtain ⟨fuel, hf⟩ := h
  obtain ⟨t, ht, hin⟩ := trod_cm (cs := cs.toList) (by rw [Array.length_toList]; exact hsz.trans cellsOf30c) (by simpa [Value.cells] using hf)
  refine ⟨t, ?_, hin⟩
  have : cs = t.cs.toArray := by rw [← ht]
  rw [this]
  rfl
end
end
end Go.Proofs.Ythgnmpgdlemdlaa
