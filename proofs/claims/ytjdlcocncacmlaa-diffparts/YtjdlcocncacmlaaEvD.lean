/- Contracts of rest, told of the package event: what stands behind the kind is read into the event; what is told of one. -/
import Derived.Test.YtjdlcocncacmlaaEvC
namespace Go.Proofs.Ytjdlcocncacmlaa
open Go.RowKit
set_option linter.unusedVariables false
theorem set_thing {W : World} {g : Nat} {e : Ev} (h : W.heap[g]? = some e.o) (t : Th) : (((((((((((W.setCell ⟨g, 2, none⟩ (.int .i64 t.id)).setCell ⟨g, 3, none⟩ (.int .i64 t.x)).setCell ⟨g, 4, none⟩ (.int .i64 t.y)).setCell ⟨g, 5, none⟩ (.int .i64 t.f0.n)).setCell ⟨g, 6, none⟩ (.string t.f0.s)).setCell ⟨g, 7, none⟩ (.int .i64 t.f1.n)).setCell ⟨g, 8, none⟩ (.string t.f1.s)).setCell ⟨g, 9, none⟩ (.int .i64 t.f2.n)).setCell ⟨g, 10, none⟩ (.string t.f2.s)).setCell ⟨g, 11, none⟩ (.int .i64 t.f3.n)).setCell ⟨g, 12, none⟩ (.string t.f3.s)).heap[g]? = some (⟨e.k, e.i, t, e.d⟩ : Ev).o := by
  obtain ⟨cur, a, b⟩ := setCells_block g t.cs 2 W _ h (by rw [Th.z]; simp)
  have e2 : cur = (⟨e.k, e.i, t, e.d⟩ : Ev).a := Array.ext' (b.trans rfl)
  rw [e2] at a
  exact a
theorem set_delta {W : World} {g : Nat} {e : Ev} (h : W.heap[g]? = some e.o) (d : Dl) : ((((((((((((W.setCell ⟨g, 13, none⟩ (.int .i64 d.id)).setCell ⟨g, 14, none⟩ (.int .u8 d.m)).setCell ⟨g, 15, none⟩ (.int .i64 d.x)).setCell ⟨g, 16, none⟩ (.int .i64 d.y)).setCell ⟨g, 17, none⟩ (.int .i64 d.f0.n)).setCell ⟨g, 18, none⟩ (.string d.f0.s)).setCell ⟨g, 19, none⟩ (.int .i64 d.f1.n)).setCell ⟨g, 20, none⟩ (.string d.f1.s)).setCell ⟨g, 21, none⟩ (.int .i64 d.f2.n)).setCell ⟨g, 22, none⟩ (.string d.f2.s)).setCell ⟨g, 23, none⟩ (.int .i64 d.f3.n)).setCell ⟨g, 24, none⟩ (.string d.f3.s)).heap[g]? = some (⟨e.k, e.i, e.t, d⟩ : Ev).o := by
  obtain ⟨cur, a, b⟩ := setCells_block g d.cs 13 W _ h (by rw [show d.cs.length = 12 from rfl]; simp)
  have e2 : cur = (⟨e.k, e.i, e.t, d⟩ : Ev).a := Array.ext' (b.trans rfl)
  rw [e2] at a
  exact a
theorem but_thing {w W : World} {g : Nat} (h : But g w W) (t : Th) : But g w (((((((((((W.setCell ⟨g, 2, none⟩ (.int .i64 t.id)).setCell ⟨g, 3, none⟩ (.int .i64 t.x)).setCell ⟨g, 4, none⟩ (.int .i64 t.y)).setCell ⟨g, 5, none⟩ (.int .i64 t.f0.n)).setCell ⟨g, 6, none⟩ (.string t.f0.s)).setCell ⟨g, 7, none⟩ (.int .i64 t.f1.n)).setCell ⟨g, 8, none⟩ (.string t.f1.s)).setCell ⟨g, 9, none⟩ (.int .i64 t.f2.n)).setCell ⟨g, 10, none⟩ (.string t.f2.s)).setCell ⟨g, 11, none⟩ (.int .i64 t.f3.n)).setCell ⟨g, 12, none⟩ (.string t.f3.s)) := (((((((((((h.setCell _ _).setCell _ _).setCell _ _).setCell _ _).setCell _ _).setCell _ _).setCell _ _).setCell _ _).setCell _ _).setCell _ _).setCell _ _)
theorem but_delta {w W : World} {g : Nat} (h : But g w W) (d : Dl) : But g w ((((((((((((W.setCell ⟨g, 13, none⟩ (.int .i64 d.id)).setCell ⟨g, 14, none⟩ (.int .u8 d.m)).setCell ⟨g, 15, none⟩ (.int .i64 d.x)).setCell ⟨g, 16, none⟩ (.int .i64 d.y)).setCell ⟨g, 17, none⟩ (.int .i64 d.f0.n)).setCell ⟨g, 18, none⟩ (.string d.f0.s)).setCell ⟨g, 19, none⟩ (.int .i64 d.f1.n)).setCell ⟨g, 20, none⟩ (.string d.f1.s)).setCell ⟨g, 21, none⟩ (.int .i64 d.f2.n)).setCell ⟨g, 22, none⟩ (.string d.f2.s)).setCell ⟨g, 23, none⟩ (.int .i64 d.f3.n)).setCell ⟨g, 24, none⟩ (.string d.f3.s)) := ((((((((((((h.setCell _ _).setCell _ _).setCell _ _).setCell _ _).setCell _ _).setCell _ _).setCell _ _).setCell _ _).setCell _ _).setCell _ _).setCell _ _).setCell _ _)
theorem dl_fit {d : Dl} (h : isD d = true) (hi : inD d) : ∀ k, fitF (d.f k) := fun k => by
  obtain ⟨_, _, _, _, _, _, _, _, hs, _⟩ := isD_small h
  have h1 := hs k
  obtain ⟨_, i0, i1, i2, i3⟩ := hi
  refine ⟨by omega, ?_⟩
  match k with
  | 0 => exact i0.2
  | 1 => exact i1.2
  | 2 => exact i2.2
  | k + 3 => exact i3.2
/-- what rest leaves -/
def RestPost (w : World) (g : Nat) (x : Ev) (z e : Nat) : Ending → World → Prop := fun y w' => y = .returned (.tuple #[.int .i64 z, .int .i64 e]) ∧ w'.heap[g]? = some x.o ∧ But g w w'
end Go.Proofs.Ytjdlcocncacmlaa
