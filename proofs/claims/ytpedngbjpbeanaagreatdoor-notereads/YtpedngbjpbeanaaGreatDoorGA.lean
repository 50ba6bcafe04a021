/- Points and rectangles: plain; contracts of geom. -/
import Derived.Test.YtpedngbjpbeanaaGreatDoorRows
import Derived.ProofKit
import Derived.Below
import Derived.Deep.QuietTactic
import Derived.BigQuiet
import Derived.Lib.SmallJoins
import Derived.Lib.MinMax
import Derived.Lib.QuietBelow
import Derived.Deep.RegionWith
import Derived.Deep.AppendLies
namespace Go.Proofs.YtpedngbjpbeanaaGreatDoor
section
open Go.RowKit
set_option linter.unusedVariables false
structure Rc where
  x0 : Int
  y0 : Int
  x1 : Int
  y1 : Int
abbrev rc (x0 y0 x1 y1 : Int) : Value := .agg #[.int .i64 x0, .int .i64 y0, .int .i64 x1, .int .i64 y1]
abbrev Rc.v (r : Rc) : Value := rc r.x0 r.y0 r.x1 r.y1
abbrev pt (x y : Int) : Value := .agg #[.int .i64 x, .int .i64 y]
def emptyB (r : Rc) : Bool := decide (r.x1 ≤ r.x0) || decide (r.y1 ≤ r.y0)
def inB (r : Rc) (x y : Int) : Bool := decide (r.x0 ≤ x) && decide (x < r.x1) && decide (r.y0 ≤ y) && decide (y < r.y1)
def isB (r : Rc) : Bool := decide (0 ≤ r.x0) && decide (r.x0 ≤ r.x1) && decide (r.x1 ≤ 64) && decide (0 ≤ r.y0) && decide (r.y0 ≤ r.y1) && decide (r.y1 ≤ 64)
def onB (x y : Int) : Bool := inB ⟨0, 0, 64, 64⟩ x y
def meetR (a b : Rc) : Rc :=
  let m : Rc := ⟨max a.x0 b.x0, max a.y0 b.y0, min a.x1 b.x1, min a.y1 b.y1⟩
  if emptyB m then ⟨0, 0, 0, 0⟩ else m
def areaI (r : Rc) : Int := let m := meetR r ⟨0, 0, 64, 64⟩; (m.x1 - m.x0) * (m.y1 - m.y0)
def eqB (a b : Rc) : Bool := a.x0 == b.x0 && (a.y0 == b.y0 && (a.x1 == b.x1 && a.y1 == b.y1))
def sameB (a b : Rc) : Bool := eqB a b || (emptyB a && emptyB b)
def partsL (a m : Rc) : List Rc := [⟨a.x0, a.y0, a.x1, m.y0⟩, ⟨a.x0, m.y1, a.x1, a.y1⟩, ⟨a.x0, m.y0, m.x0, m.y1⟩, ⟨m.x1, m.y0, a.x1, m.y1⟩]
def minusL (a b : Rc) : List Rc :=
  if emptyB a then [] else if emptyB (meetR a b) then [a] else (partsL a (meetR a b)).filter (fun r => !emptyB r)
def flat (l : List Rc) : List Value := l.flatMap fun r => [.int .i64 r.x0, .int .i64 r.y0, .int .i64 r.x1, .int .i64 r.y1]
theorem flat_length (l : List Rc) : (flat l).length = l.length * 4 := by
  induction l with
  | nil => rfl
  | cons r l ih => simp [flat] at ih ⊢; omega
theorem flat_append (l m : List Rc) : flat (l ++ m) = flat l ++ flat m := by simp [flat]
theorem meet_empty (a b : Rc) : eqB (meetR a b) ⟨0, 0, 0, 0⟩ = emptyB (meetR a b) := by
  unfold meetR
  simp only
  split
  · rfl
  · rename_i h
    simp only [Bool.not_eq_true] at h
    rw [h]
    simp [emptyB] at h
    simp [eqB]
    omega
theorem area_fits (r : Rc) {m0 m1 m2 m3 : Int} (hm : Hid (meetR r ⟨0, 0, 64, 64⟩ = ⟨m0, m1, m2, m3⟩)) : wrap64 (wrap64 (m2 - m0) * wrap64 (m3 - m1)) = areaI r := by
  have h := hm.out
  unfold areaI
  rw [h]
  simp only
  have hb : 0 ≤ m2 - m0 ∧ m2 - m0 ≤ 64 ∧ 0 ≤ m3 - m1 ∧ m3 - m1 ≤ 64 := by
    unfold meetR emptyB at h
    simp only at h
    split at h
    · simp only [Rc.mk.injEq] at h; omega
    · rename_i hn
      simp only [Rc.mk.injEq] at h
      simp at hn
      omega
  obtain ⟨p, hp⟩ : ∃ p, m2 - m0 = p := ⟨_, rfl⟩
  obtain ⟨q, hq⟩ : ∃ q, m3 - m1 = q := ⟨_, rfl⟩
  rw [hp, hq] at hb ⊢
  have e1 : wrap64 p = p := by unfold wrap64; omega
  have e2 : wrap64 q = q := by unfold wrap64; omega
  rw [e1, e2]
  have h1 : 0 ≤ p * q := Int.mul_nonneg (by omega) (by omega)
  have h2 : p * q ≤ 64 * 64 := Int.mul_le_mul (by omega) (by omega) (by omega) (by omega)
  unfold wrap64
  omega
theorem below1 (w : World) (o : Obj) : Below w.heap.size w (w.alloc o) := Go.Joins.below_alloc1 w o
theorem below_on {w W w2 : World} (h1 : Below w.heap.size w W) (h2 : Below W.heap.size W w2) : Below w.heap.size w w2 := h1.trans (h2.mono h1.size)
theorem heap_alloc (w : World) (o : Obj) (g : Nat) : (w.alloc o).heap[g]? = if g = w.heap.size then some o else w.heap[g]? := by
  show (w.heap.push o)[g]? = _
  rw [Array.getElem?_push]
theorem heap_drew (w : World) : w.drew.heap = w.heap := rfl
theorem var_on {w w' : World} {B g : Nat} {o : Obj} (hb : Below B w w') (h : w.heap[g]? = some o) (hg : g < B) : w'.heap[g]? = some o := by rw [hb.block g hg, h]
theorem var4 {w : World} {g : Nat} {t : TypeId} {v0 v1 v2 v3 : Value} (h : w.heap[g]? = some (.cells #[v0, v1, v2, v3] t (0, 0))) :
    w.cell? ⟨g, 0, none⟩ = some v0 ∧ w.cell? ⟨g, 1, none⟩ = some v1 ∧ w.cell? ⟨g, 2, none⟩ = some v2 ∧ w.cell? ⟨g, 3, none⟩ = some v3 ∧
    w.frozen? ⟨g, 0, none⟩ = false ∧ w.frozen? ⟨g, 1, none⟩ = false ∧ w.frozen? ⟨g, 2, none⟩ = false ∧ w.frozen? ⟨g, 3, none⟩ = false :=
  ⟨Go.Joins.cell_of_block h 0, Go.Joins.cell_of_block h 1, Go.Joins.cell_of_block h 2, Go.Joins.cell_of_block h 3, Go.Joins.unfrozen_of_block h 0, Go.Joins.unfrozen_of_block h 1, Go.Joins.unfrozen_of_block h 2, Go.Joins.unfrozen_of_block h 3⟩
theorem var2 {w : World} {g : Nat} {t : TypeId} {v0 v1 : Value} (h : w.heap[g]? = some (.cells #[v0, v1] t (0, 0))) :
    w.cell? ⟨g, 0, none⟩ = some v0 ∧ w.cell? ⟨g, 1, none⟩ = some v1 ∧ w.frozen? ⟨g, 0, none⟩ = false ∧ w.frozen? ⟨g, 1, none⟩ = false :=
  ⟨Go.Joins.cell_of_block h 0, Go.Joins.cell_of_block h 1, Go.Joins.unfrozen_of_block h 0, Go.Joins.unfrozen_of_block h 1⟩
theorem below_set4 {B : Nat} {w w' : World} (h : Below B w w') {g : Nat} (hg : B ≤ g) (v0 v1 v2 v3 : Value) : Below B w ((((w'.setCell ⟨g, 0, none⟩ v0).setCell ⟨g, 1, none⟩ v1).setCell ⟨g, 2, none⟩ v2).setCell ⟨g, 3, none⟩ v3) :=
  (((h.setCell hg v0).setCell hg v1).setCell hg v2).setCell hg v3
theorem grown2 {W : World} {g : Nat} {t : TypeId} {v0 v1 : Value} (h : W.heap[g]? = some (.cells #[v0, v1] t (0, 0))) :
    (∀ d os, (Sort.grow (redrawn W d) os).cell? ⟨g, 0, none⟩ = some v0) ∧ (∀ d os, (Sort.grow (redrawn W d) os).cell? ⟨g, 1, none⟩ = some v1) :=
  ⟨cell_regrown (Go.Joins.cell_of_block h 0), cell_regrown (Go.Joins.cell_of_block h 1)⟩
theorem grown4 {W : World} {g : Nat} {t : TypeId} {v0 v1 v2 v3 : Value} (h : W.heap[g]? = some (.cells #[v0, v1, v2, v3] t (0, 0))) :
    (∀ d os, (Sort.grow (redrawn W d) os).cell? ⟨g, 0, none⟩ = some v0) ∧ (∀ d os, (Sort.grow (redrawn W d) os).cell? ⟨g, 1, none⟩ = some v1) ∧
    (∀ d os, (Sort.grow (redrawn W d) os).cell? ⟨g, 2, none⟩ = some v2) ∧ (∀ d os, (Sort.grow (redrawn W d) os).cell? ⟨g, 3, none⟩ = some v3) :=
  ⟨cell_regrown (Go.Joins.cell_of_block h 0), cell_regrown (Go.Joins.cell_of_block h 1), cell_regrown (Go.Joins.cell_of_block h 2), cell_regrown (Go.Joins.cell_of_block h 3)⟩
end
section
open Go.RowKit
theorem geom_in (w : World) (x0 y0 x1 y1 x y : Int) : Calls Tryz.prog 90 #[rc x0 y0 x1 y1, pt x y] w fun e w' => e = .returned (.bool (inB ⟨x0, y0, x1, y1⟩ x y)) ∧ Below w.heap.size w w' := by
  go_enter Tryz.func90, Tryz.ntmps90
  go_wp2 <;> (go_ret; exact ⟨by simp_all [inB] <;> omega, (below1 _ _).alloc (by simp) _⟩)
theorem geom_whole (w : World) : Calls Tryz.prog 91 #[] w fun e w' => e = .returned (rc 0 0 64 64) ∧ Below w.heap.size w w' := by
  go_enter Tryz.func91, Tryz.ntmps91
  go_wp2
  exact bodyPost_ret (v := rc 0 0 64 64) (by simp [results, Tryz.results91, go_sem]) rfl ⟨rfl, below1 _ _⟩
abbrev ro (x0 y0 x1 y1 : Int) : Obj := .cells #[.int .i64 x0, .int .i64 y0, .int .i64 x1, .int .i64 y1] 55 (0, 0)
theorem equal_rc (W : World) (a0 a1 a2 a3 b0 b1 b2 b3 : Int) : (Op.equalIn 10000 55 (rc a0 a1 a2 a3) (rc b0 b1 b2 b3)).run Tryz.prog W = .ok (eqB ⟨a0, a1, a2, a3⟩ ⟨b0, b1, b2, b3⟩) W := by
  unfold eqB
  by_cases h0 : a0 = b0 <;> by_cases h1 : a1 = b1 <;> by_cases h2 : a2 = b2 <;> by_cases h3 : a3 = b3 <;> simp [go_sem, h0, h1, h2, h3]
theorem geom_on (w : World) (x y : Int) : Calls Tryz.prog 77 #[pt x y] w fun e w' => e = .returned (.bool (onB x y)) ∧ Below w.heap.size w w' := by
  go_enter Tryz.func77, Tryz.ntmps77
  go_wp2_with fail
  have hB := below1 w (Obj.cells #[.int .i64 x, .int .i64 y] 45)
  have hg := grown2 (W := w.alloc (Obj.cells #[.int .i64 x, .int .i64 y] 45)) (g := w.heap.size) (heap_alloc_new _ _)
  obtain ⟨W, hW⟩ : ∃ W, w.alloc (Obj.cells #[.int .i64 x, .int .i64 y] 45) = W := ⟨_, rfl⟩
  rw [hW] at hB hg ⊢
  refine wp_region_quiet_below (by kernel_rfl) (by kernel_rfl) ?_
  repeat (first | go_big_quiet_step (first | exact Calls.regrown_of (geom_whole _) | exact Calls.regrown_of (geom_in _ _ _ _ _ _ _)) | quiet_step (first | exact Calls.regrown_of (geom_whole _) | exact Calls.regrown_of (geom_in _ _ _ _ _ _ _)))
  refine wpQuiet_nil ?_
  intro _ hw'
  obtain ⟨⟨dq, osq⟩, hw''⟩ := hw'
  subst hw''
  go_wp2
  go_ret
  exact ⟨rfl, hB.trans ((below_regrown W dq osq).mono hB.size)⟩
theorem ref_on (w : World) (x y : Int) : Calls Tryz.prog 57 #[pt x y] w fun e w' => e = .returned (.bool (onB x y)) ∧ Below w.heap.size w w' := by
  go_enter Tryz.func57, Tryz.ntmps57
  go_wp2 <;> (go_ret; exact ⟨by simp_all [onB, inB] <;> omega, below1 _ _⟩)
end
end Go.Proofs.YtpedngbjpbeanaaGreatDoor
