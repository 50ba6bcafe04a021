/- What rows of points and of steps are that come in: they lie cell by cell, their numbers and texts fit. -/
import Derived.Test.YtildhbkcpehobaaGreatDoorTbP
import Derived.Test.YtildhbkcpehobaaGreatDoorChecked
import Derived.ChangeSame
namespace Go.Proofs.YtildhbkcpehobaaGreatDoor
open Go.RowKit Go.ChangeShapes Go.WideShapes Go.Deep Go.Joins
set_option linter.unusedVariables false
set_option maxRecDepth 100000
/-- a point -/
structure Pt where
  x : Int
  y : Int
def Pt.cs (p : Pt) : List Value := [.int .i64 p.x, .int .i64 p.y]
theorem Pt.z (p : Pt) : p.cs.length = 2 := rfl
/-- a step: what, a cell, a thing, a rectangle -/
structure St where
  k : Int
  c : Int
  t : Th
  r0 : Int
  r1 : Int
  r2 : Int
  r3 : Int
def St.cs (p : St) : List Value := [.int .i64 p.k, .int .i64 p.c, .int .i64 p.t.id, .int .i64 p.t.x, .int .i64 p.t.y, .int .i64 p.t.f0.n, .string p.t.f0.s, .int .i64 p.t.f1.n, .string p.t.f1.s, .int .i64 p.t.f2.n, .string p.t.f2.s, .int .i64 p.t.f3.n, .string p.t.f3.s, .int .i64 p.r0, .int .i64 p.r1, .int .i64 p.r2, .int .i64 p.r3]
theorem St.z (p : St) : p.cs.length = 17 := rfl
/-- what comes in fits -/
def inS (s : St) : Prop := inT s.t ∧ inI s.t.id
theorem cellsOf31 : Tryz.prog.cellsOf 28 = 2 := by kernel_rfl
theorem cellsOf33 : Tryz.prog.cellsOf 35 = 4 := by kernel_rfl
theorem cellsOf35 : Tryz.prog.cellsOf 37 = 17 := by kernel_rfl
section
variable {H : Type} {enc : TypeId × Value → H} {w : World} {base : Nat} {spare : Nat → Bool} {held : Bool} {r : Reach} {b0 : Nat} {v : Value} {d : DataW H} {p : List MemPlace}
theorem list2 {α : Type} {l : List α} (h : l.length = 2) : ∃ c0 c1, l = [c0, c1] := by
  match l, h with
  | [c0, c1], _ => exact ⟨c0, c1, rfl⟩
theorem list17 {α : Type} {l : List α} (h : l.length = 17) : ∃ c0 c1 c2 c3 c4 c5 c6 c7 c8 c9 c10 c11 c12 c13 c14 c15 c16, l = [c0, c1, c2, c3, c4, c5, c6, c7, c8, c9, c10, c11, c12, c13, c14, c15, c16] := by
  match l, h with
  | [c0, c1, c2, c3, c4, c5, c6, c7, c8, c9, c10, c11, c12, c13, c14, c15, c16], _ => exact ⟨c0, c1, c2, c3, c4, c5, c6, c7, c8, c9, c10, c11, c12, c13, c14, c15, c16, rfl⟩
theorem trod_rc {fuel : Nat} {c0 c1 c2 c3 : Value} {x : DataW H × List MemPlace} (h : DataW.trod enc Tryz.prog w base spare held fuel 35 [c0, c1, c2, c3] = some x) : ∃ a b c d : Int, c0 = .int .i64 a ∧ c1 = .int .i64 b ∧ c2 = .int .i64 c ∧ c3 = .int .i64 d := by
  obtain ⟨y0, y1, y2, y3, n, _, _, h0, h1, h2, h3⟩ := trod_struct4 Tryz.underlying35 h
  simp only [cellsOf3, List.drop_zero, List.take_succ_cons, List.take_zero, List.drop_succ_cons] at h0 h1 h2 h3
  obtain ⟨a, e0, _, w0⟩ := DataW.trod_int Tryz.underlying3 h0
  obtain ⟨b, e1, _, w1⟩ := DataW.trod_int Tryz.underlying3 h1
  obtain ⟨c, e2, _, w2⟩ := DataW.trod_int Tryz.underlying3 h2
  obtain ⟨d, e3, _, w3⟩ := DataW.trod_int Tryz.underlying3 h3
  simp only [List.cons.injEq, and_true] at e0 e1 e2 e3
  exact ⟨a, b, c, d, e0, e1, e2, e3⟩
theorem trod_point {fuel : Nat} {cs : List Value} {x : DataW H × List MemPlace} (hl : cs.length = 2) (h : DataW.trod enc Tryz.prog w base spare held fuel 28 cs = some x) : ∃ s : Pt, cs = s.cs ∧ True := by
  obtain ⟨c0, c1, rfl⟩ := list2 hl
  obtain ⟨x, y, rfl, rfl⟩ := trod_pt h
  exact ⟨⟨x, y⟩, rfl, trivial⟩
theorem trod_thI {fuel : Nat} {cs : List Value} {x : DataW H × List MemPlace} (hl : cs.length = 11) (hf : DataW.trod enc Tryz.prog w base spare held fuel 33 cs = some x) : ∃ t : Th, cs = t.cs ∧ inT t ∧ inI t.id := by
  obtain ⟨c0, c1, c2, c3, c4, c5, c6, c7, c8, c9, c10, rfl⟩ := list11 hl
  obtain ⟨y0, y1, y2, n, _, _, h0, h1, h2⟩ := trod_struct3 Tryz.underlying33 hf
  simp [cellsOf3, cellsOf23, cellsOf26] at h0 h1 h2
  obtain ⟨id, e0, _, w0⟩ := DataW.trod_int Tryz.underlying3 h0
  obtain ⟨x, y, rfl, rfl⟩ := trod_pt h1
  obtain ⟨f0, f1, f2, f3, rfl, rfl, rfl, rfl, rfl, rfl, rfl, rfl, i0, i1, i2, i3⟩ := trod_fs h2
  simp only [List.cons.injEq, and_true] at e0
  subst e0
  exact ⟨⟨id, x, y, f0, f1, f2, f3⟩, rfl, ⟨i0, i1, i2, i3⟩, i64_bounds w0⟩
theorem trod_step {fuel : Nat} {cs : List Value} {x : DataW H × List MemPlace} (hl : cs.length = 17) (h : DataW.trod enc Tryz.prog w base spare held fuel 37 cs = some x) : ∃ s : St, cs = s.cs ∧ inS s := by
  obtain ⟨c0, c1, c2, c3, c4, c5, c6, c7, c8, c9, c10, c11, c12, c13, c14, c15, c16, rfl⟩ := list17 hl
  obtain ⟨y0, y1, y2, y3, n, _, _, h0, h1, h2, h3⟩ := trod_struct4 Tryz.underlying37 h
  simp [cellsOf3, cellsOf28, cellsOf33] at h0 h1 h2 h3
  obtain ⟨a, e0, _, _⟩ := DataW.trod_int Tryz.underlying3 h0
  obtain ⟨b, e1, _, _⟩ := DataW.trod_int Tryz.underlying3 h1
  obtain ⟨t, e2, i1, i2⟩ := trod_thI rfl h2
  obtain ⟨r0, r1, r2, r3, rfl, rfl, rfl, rfl⟩ := trod_rc h3
  simp only [List.cons.injEq, and_true, Th.cs] at e0 e1 e2
  obtain ⟨rfl, rfl, rfl, rfl, rfl, rfl, rfl, rfl, rfl, rfl, rfl⟩ := e2
  subst e0
  subst e1
  exact ⟨⟨a, b, t, r0, r1, r2, r3⟩, rfl, i1, i2⟩
/-- a row of whatever structs that comes in -/
theorem open_rows {α : Type} (dflt : α) {Q : α → Prop} {cs : α → List Value} {z : Nat} (hz : ∀ a, (cs a).length = z) {u : TypeId} (hz0 : 0 < z) {T : TypeId} (hT : Tryz.prog.underlying T = some (.slice u)) (hc : Tryz.prog.cellsOf u = z)
    (ht : ∀ (fuel : Nat) (l : List Value) (x : DataW H × List MemPlace), l.length = z → DataW.trod enc Tryz.prog w base spare held fuel u l = some x → ∃ a, l = cs a ∧ Q a)
    (hv : Value.okWide Tryz.prog w r b0 T v) (h : DataW.Trod enc Tryz.prog w base spare held T v d p) :
    ∃ (a : Option Addr) (cap : Nat) (L : List α), v = .slice a L.length cap ∧ (∀ a ∈ L, Q a) ∧ RowG cs z w a L ∧ L.length ≤ cap ∧ cap ≤ maxLen := by
  obtain ⟨a, len, cap, rfl⟩ := okWide_slice hT hv
  obtain ⟨fuel, hf⟩ := h
  rcases open_slice hT hf with ⟨hcs, _⟩ | ⟨a', len', cap', m, n, D, Pl, hcs, _, hl, hm, hmm, _, hx⟩
  · simp [Value.cells] at hcs
    obtain ⟨rfl, rfl, rfl⟩ := hcs
    exact ⟨none, 0, [], rfl, by simp, .inl rfl, by simp, by unfold maxLen; omega⟩
  · simp [Value.cells] at hcs
    obtain ⟨rfl, rfl, rfl⟩ := hcs
    have hlm : len ≤ m := by rw [hmm]; split <;> omega
    rw [hc] at hx
    obtain ⟨f, hF⟩ := @choose_lt α ⟨dflt⟩ len (fun i (t : α) => Q t ∧ ∀ j, j < z → w.cell? (a'.add (i * z + j)) = (cs t)[j]?) (fun i hi => by
      obtain ⟨cs', h1, h2⟩ := hx i (by omega)
      obtain ⟨_, hlen, hcell⟩ := World.cells?_some h1
      obtain ⟨t, rfl, hq⟩ := ht _ _ _ hlen h2
      exact ⟨t, hq, fun j hj => by rw [← add_add]; exact hcell j hj⟩)
    refine ⟨some a', cap, (List.range len).map f, by simp, fun a ha => ?_, ?_, by simpa using hl, hm⟩
    · obtain ⟨i, hi, rfl⟩ := List.mem_map.1 ha
      exact (hF i (List.mem_range.1 hi)).1
    by_cases h0 : len = 0
    · left; subst h0; rfl
    · right
      obtain ⟨b, off, spot⟩ := a'
      have hcz := (hF 0 (by omega)).2 0 hz0
      have hspot : spot = none := by
        rw [List.getElem?_eq_getElem (by rw [hz]; exact hz0)] at hcz
        have := World.cell?_spot hcz
        simpa [Addr.add] using this
      subst hspot
      refine ⟨b, off, rfl, fun k t hk j u' hu => ?_⟩
      have hk' : k < len := by
        rcases Nat.lt_or_ge k len with h | h
        · exact h
        · rw [List.getElem?_eq_none (by simpa using h)] at hk; cases hk
      rw [List.getElem?_map, List.getElem?_range hk'] at hk
      simp only [Option.map_some, Option.some.injEq] at hk
      subst hk
      have hj : j < z := by rw [← hz (f k)]; exact (List.getElem?_eq_some_iff.1 hu).1
      have e : (⟨b, off, none⟩ : Addr).add (k * z + j) = ⟨b, off + k * z + j, none⟩ := by unfold Addr.add; split <;> simp_all [Nat.add_assoc]
      rw [← e, (hF k hk').2 j hj]
      exact hu
theorem open_sts (hv : Value.okWide Tryz.prog w r b0 22 v) (h : DataW.Trod enc Tryz.prog w base spare held 22 v d p) :
    ∃ (a : Option Addr) (cap : Nat) (L : List St), v = .slice a L.length cap ∧ (∀ s ∈ L, inS s) ∧ RowG St.cs 17 w a L ∧ L.length ≤ cap ∧ cap ≤ maxLen :=
  open_rows (Q := inS) (⟨0, 0, zT, 0, 0, 0, 0⟩ : St) St.z (by decide) Tryz.underlying22 cellsOf35 (fun _ _ _ hl h => trod_step hl h) hv h
end
theorem pt_at {w : World} {p : Option Addr} {L : List Pt} (h : RowG Pt.cs 2 w p L) {k : Nat} {a : Pt} (hk : L[k]? = some a) : ∃ b off, p = some ⟨b, off, none⟩ ∧ cells2 w b (off + k * 2) (.int .i64 a.x) (.int .i64 a.y) := by
  obtain ⟨b, off, hp, hc⟩ := h.at hk
  exact ⟨b, off, hp, hc 0 _ rfl, hc 1 _ rfl⟩
end Go.Proofs.YtildhbkcpehobaaGreatDoor
