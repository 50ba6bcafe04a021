/- Plain facts, of no program: what both rectangles have and what one has alone make what it has; the one put last is found last. -/
import Derived.Test.YtihmpdjlfpbieaaDoorQdG
import Derived.Test.YtihmpdjlfpbieaaDoorQdN
namespace Go.Proofs.YtihmpdjlfpbieaaDoor
open Go.RowKit
set_option linter.unusedVariables false
theorem rin_cons (t : Mk) (L : List Mk) (r : Rc) : (rinL (t :: L) r).length = (if inB r t.x t.y then 1 else 0) + (rinL L r).length := by
  unfold rinL
  rw [List.filter_cons]
  split
  · simp; omega
  · simp
def sumI (L : List Mk) (l : List Rc) : Nat := (l.map fun m => (rinL L m).length).sum
theorem sumI_nil (l : List Rc) : sumI [] l = 0 := by
  unfold sumI
  induction l with
  | nil => rfl
  | cons a l ih => simp [rinL] at ih ⊢; exact ih
theorem sumI_cons (t : Mk) (L : List Mk) (l : List Rc) : sumI (t :: L) l = cntL l t.x t.y + sumI L l := by
  unfold sumI cntL
  induction l with
  | nil => rfl
  | cons a l ih =>
    rw [List.map_cons, List.map_cons, List.sum_cons, List.sum_cons, ih, rin_cons, List.countP_cons]
    omega
theorem parts_sum (a b : Rc) (L : List Mk) : (rinL L (meetR a b)).length + sumI L (minusL a b) = (rinL L a).length := by
  induction L with
  | nil => rw [sumI_nil]; rfl
  | cons t L ih =>
    rw [rin_cons, rin_cons, sumI_cons, minus_count, in_meet, ← ih]
    cases inB a t.x t.y <;> cases inB b t.x t.y <;> simp <;> omega
theorem sumI_take {L : List Mk} {l : List Rc} {k : Nat} {r : Rc} (h : l[k]? = some r) : sumI L (l.take (k + 1)) = sumI L (l.take k) + (rinL L r).length := by
  unfold sumI
  rw [List.take_add_one, h, List.map_append, List.sum_append]
  simp
theorem sumI_le (L : List Mk) (l : List Rc) : sumI L l ≤ l.length * L.length := by
  unfold sumI
  induction l with
  | nil => simp
  | cons a l ih =>
    rw [List.map_cons, List.sum_cons, List.length_cons, Nat.succ_mul]
    have := rin_le L a
    omega
theorem TF.ids {W0 W : World} {tb : Nat} {L : List Mk} {K : List Nat} (h : TF W0 W tb L K) : L.Pairwise (fun a b => a.id < b.id) := by
  obtain ⟨v, ⟨S, _, hS⟩, _⟩ := h.has
  exact hS.ids
theorem rin_last {M : List Mk} {id : Int} {x y : Nat} : rinL (M ++ [⟨id, x, y⟩]) ⟨x, y, (x : Int) + 1, (y : Int) + 1⟩ = rinL M ⟨x, y, (x : Int) + 1, (y : Int) + 1⟩ ++ [id] := by
  rw [rin_append]
  congr 1
  have : inB ⟨x, y, (x : Int) + 1, (y : Int) + 1⟩ x y = true := by rw [inB_iff]; simp only; omega
  simp [rinL, this]
theorem rise_at {R : List Int} (h : R.Pairwise (· < ·)) {i : Nat} {a b : Int} (ha : R[i]? = some a) (hb : R[i + 1]? = some b) : a < b := by
  obtain ⟨hi, e1⟩ := List.getElem?_eq_some_iff.1 ha
  obtain ⟨hj, e2⟩ := List.getElem?_eq_some_iff.1 hb
  have := List.pairwise_iff_getElem.1 h i (i + 1) hi hj (by omega)
  rw [e1, e2] at this
  exact this
end Go.Proofs.YtihmpdjlfpbieaaDoor
