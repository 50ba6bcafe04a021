/- Plain facts on what is left of a rectangle, and on rows of rectangles that a call made. -/
import Derived.Test.YtkbfcmlchmgmnaaGeomP
namespace Go.Proofs.Ytkbfcmlchmgmnaa
open Go.RowKit
set_option linter.unusedVariables false
def kept (a m : Rc) (k : Nat) : List Rc := ((partsL a m).take k).filter (fun r => !emptyB r)
theorem kept_succ (a m : Rc) (k : Nat) {r : Rc} (h : (partsL a m)[k]? = some r) : kept a m (k + 1) = kept a m k ++ (if emptyB r then [] else [r]) := by
  unfold kept
  rw [List.take_add_one, h, List.filter_append]
  cases he : emptyB r <;> simp [he]
theorem kept_le (a m : Rc) (k : Nat) : (kept a m k).length ≤ 4 := by
  unfold kept
  exact Nat.le_trans (List.length_filter_le _ _) (by simp [partsL]; omega)
theorem kept_skip {a m : Rc} {k : Nat} {r : Rc} (h : (partsL a m)[k]? = some r) (he : emptyB r = true) : kept a m (k + 1) = kept a m k := by
  rw [kept_succ a m k h, he]; simp
theorem kept_add {a m : Rc} {k : Nat} {r : Rc} (h : (partsL a m)[k]? = some r) (he : emptyB r = false) : kept a m (k + 1) = kept a m k ++ [r] := by
  rw [kept_succ a m k h, he]; simp
theorem minus_kept {a b m : Rc} (ha : emptyB a = false) (hm : meetR a b = m) (hq : emptyB m = false) : minusL a b = kept a m 4 := by
  simp [minusL, ha, hm, hq, kept, partsL]
theorem minus_one {a b m : Rc} (ha : emptyB a = false) (hm : meetR a b = m) (hq : emptyB m = true) : minusL a b = [a] := by
  simp [minusL, ha, hm, hq]
theorem owns_on {base : Nat} {e : TypeId} {size : Nat} {v : Value} {n : Nat} {xs : List Value} {W W' : World} (h : W.ownsRow base e size v n xs) (hb : Below W.heap.size W W') : W'.ownsRow base e size v n xs :=
  h.kept (row := none) ⟨hb.os, hb.tape, hb.output, hb.size, fun k hk _ => hb.block k hk⟩ (by cases hv : v.ownBlock <;> simp)
theorem flat_one (r : Rc) : flat [r] = [.int .i64 r.x0, .int .i64 r.y0, .int .i64 r.x1, .int .i64 r.y1] := rfl
theorem flat_get (l : List Rc) (k : Nat) (r : Rc) (h : l[k]? = some r) :
    (flat l)[k * 4]? = some (.int .i64 r.x0) ∧ (flat l)[k * 4 + 1]? = some (.int .i64 r.y0) ∧ (flat l)[k * 4 + 2]? = some (.int .i64 r.x1) ∧ (flat l)[k * 4 + 3]? = some (.int .i64 r.y1) := by
  induction l generalizing k with
  | nil => simp at h
  | cons a l ih =>
    cases k with
    | zero =>
      simp at h
      subst h
      simp [flat]
    | succ k =>
      have := ih k (by simpa using h)
      have e : flat (a :: l) = [.int .i64 a.x0, .int .i64 a.y0, .int .i64 a.x1, .int .i64 a.y1] ++ flat l := rfl
      rw [e]
      refine ⟨?_, ?_, ?_, ?_⟩ <;> rw [List.getElem?_append_right (by simp; omega)]
      · rw [show (k + 1) * 4 - [Value.int IntKind.i64 a.x0, .int .i64 a.y0, .int .i64 a.x1, .int .i64 a.y1].length = k * 4 by simp; omega]; exact this.1
      · rw [show (k + 1) * 4 + 1 - [Value.int IntKind.i64 a.x0, .int .i64 a.y0, .int .i64 a.x1, .int .i64 a.y1].length = k * 4 + 1 by simp; omega]; exact this.2.1
      · rw [show (k + 1) * 4 + 2 - [Value.int IntKind.i64 a.x0, .int .i64 a.y0, .int .i64 a.x1, .int .i64 a.y1].length = k * 4 + 2 by simp; omega]; exact this.2.2.1
      · rw [show (k + 1) * 4 + 3 - [Value.int IntKind.i64 a.x0, .int .i64 a.y0, .int .i64 a.x1, .int .i64 a.y1].length = k * 4 + 3 by simp; omega]; exact this.2.2.2
end Go.Proofs.Ytkbfcmlchmgmnaa
