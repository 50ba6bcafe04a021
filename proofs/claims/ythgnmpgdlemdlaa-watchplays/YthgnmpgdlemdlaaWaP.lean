/- Who watches what, plain: a watch, a book's cells in memory, what Do of watch tells. -/
import Derived.Test.YthgnmpgdlemdlaaXB
import Derived.Test.YthgnmpgdlemdlaaCF
import Derived.Test.YthgnmpgdlemdlaaCO
namespace Go.Proofs.Ythgnmpgdlemdlaa
open Go.RowKit
set_option linter.unusedVariables false
/-- a row of values one behind the other laid over l, from the place i on -/
def setL {α : Type} (l : List α) (i : Nat) : List α → List α
  | [] => l
  | v :: vs => setL (l.set i v) (i + 1) vs
theorem setL_skip {α : Type} (a R : List α) (i : Nat) (vs : List α) : setL (a ++ R) (a.length + i) vs = a ++ setL R i vs := by
  induction vs generalizing R i with
  | nil => rfl
  | cons v vs ih =>
    show setL ((a ++ R).set (a.length + i) v) (a.length + i + 1) vs = a ++ setL (R.set i v) (i + 1) vs
    rw [List.set_append_right _ _ (by omega), Nat.add_sub_cancel_left, Nat.add_assoc]
    exact ih _ _
theorem setL_all {α : Type} (a R vs : List α) (h : a.length = vs.length) : setL (a ++ R) 0 vs = vs ++ R := by
  induction vs generalizing a with
  | nil => obtain rfl : a = [] := by simpa using h
           rfl
  | cons v vs ih =>
    match a, h with
    | x :: a, h =>
      have e := setL_skip [v] (a ++ R) 0 vs
      have e2 := ih a (by simpa using h)
      show setL (v :: (a ++ R)) (0 + 1) vs = v :: (vs ++ R)
      rw [← e2]
      simpa using e
theorem setL_flat {α β : Type} {cs : α → List β} {z : Nat} (hz : ∀ a, (cs a).length = z) {L : List α} {k : Nat} (o : α) (hk : k < L.length) : setL (L.flatMap cs) (k * z) (cs o) = (L.set k o).flatMap cs := by
  induction L generalizing k with
  | nil => simp at hk
  | cons b L ih =>
    cases k with
    | zero =>
      have := setL_all (cs b) (L.flatMap cs) (cs o) (by rw [hz, hz])
      simpa using this
    | succ k =>
      have e := setL_skip (cs b) (L.flatMap cs) (k * z) (cs o)
      rw [ih (by simpa using hk)] at e
      rw [hz] at e
      rw [Nat.succ_mul, Nat.add_comm (k * z) z]
      simpa using e
theorem set_self {α : Type} {L : List α} {k : Nat} {o : α} (h : L[k]? = some o) : L.set k o = L := by
  apply List.ext_getElem?
  intro i
  by_cases e : k = i
  · subst e
    have := (List.getElem?_eq_some_iff.1 h).1
    rw [List.getElem?_set_self this, h]
  · rw [List.getElem?_set_ne e]
/-- a watch -/
structure Wt where
  on : Bool
  s : Int
  st : Int
  r : Rc
def Wt.cs (w : Wt) : List Value := [.bool w.on, .int .i64 w.s, .int .i64 w.st, .int .i64 w.r.x0, .int .i64 w.r.y0, .int .i64 w.r.x1, .int .i64 w.r.y1]
theorem Wt.z (w : Wt) : w.cs.length = 7 := rfl
abbrev wt (on : Bool) (s st x0 y0 x1 y1 : Int) : Value := .agg #[.bool on, .int .i64 s, .int .i64 st, .int .i64 x0, .int .i64 y0, .int .i64 x1, .int .i64 y1]
abbrev Wt.v (w : Wt) : Value := wt w.on w.s w.st w.r.x0 w.r.y0 w.r.x1 w.r.y1
abbrev wtO (on : Bool) (s st x0 y0 x1 y1 : Int) : Obj := .cells #[.bool on, .int .i64 s, .int .i64 st, .int .i64 x0, .int .i64 y0, .int .i64 x1, .int .i64 y1] 32 (0, 0)
abbrev Wt.o (w : Wt) : Obj := wtO w.on w.s w.st w.r.x0 w.r.y0 w.r.x1 w.r.y1
def noW : Wt := ⟨false, 0, 0, ⟨0, 0, 0, 0⟩⟩
/-- are two watches one -/
def eqW (a b : Wt) : Bool := a.on == b.on && (a.s == b.s && (a.st == b.st && eqB a.r b.r))
theorem eqW_iff {a b : Wt} : eqW a b = true ↔ a = b := by
  obtain ⟨a1, a2, a3, a4, a5, a6, a7⟩ := a
  obtain ⟨b1, b2, b3, b4, b5, b6, b7⟩ := b
  simp [eqW, eqB]
/-- a book's cells: four watches -/
def bkC (L : List Wt) : Array Value := (flatG Wt.cs L).toArray
theorem bkC_size {L : List Wt} (h : L.length = 4) : (bkC L).size = 28 := by simp [bkC, flatG_length Wt.z, h]
theorem bkC_one (L : List Wt) : (bkC L).all (·.oneCell') = true := by
  rw [Array.all_eq_true']
  intro u hu
  have hu' : u ∈ (flatG Wt.cs L : List Value) := by simpa [bkC] using hu
  obtain ⟨o, _, hu⟩ := List.mem_flatMap.1 hu'
  simp [Wt.cs] at hu
  rcases hu with rfl | rfl | rfl | rfl | rfl | rfl | rfl <;> rfl
theorem bkC_j {L : List Wt} {k : Nat} {o : Wt} (h : L[k]? = some o) {j : Nat} (hj : j < 7) : (bkC L)[k * 7 + j]? = o.cs[j]? := by
  have := flatG_get Wt.z L k o h j hj
  simpa [bkC] using this
theorem bkC_set7 {L : List Wt} {k : Nat} (o : Wt) (hk : k < L.length) :
    (((((((bkC L).setIfInBounds (k * 7) (.bool o.on)).setIfInBounds (k * 7 + 1) (.int .i64 o.s)).setIfInBounds (k * 7 + 2) (.int .i64 o.st)).setIfInBounds (k * 7 + 3) (.int .i64 o.r.x0)).setIfInBounds (k * 7 + 4) (.int .i64 o.r.y0)).setIfInBounds (k * 7 + 5) (.int .i64 o.r.x1)).setIfInBounds (k * 7 + 6) (.int .i64 o.r.y1) = bkC (L.set k o) := by
  have := setL_flat Wt.z o hk
  simp only [bkC, flatG, List.setIfInBounds_toArray]
  rw [← this]
  rfl
theorem bkC_set4 {L : List Wt} {k : Nat} {o : Wt} (h : L[k]? = some o) (r : Rc) :
    ((((bkC L).setIfInBounds (k * 7 + 3) (.int .i64 r.x0)).setIfInBounds (k * 7 + 4) (.int .i64 r.y0)).setIfInBounds (k * 7 + 5) (.int .i64 r.x1)).setIfInBounds (k * 7 + 6) (.int .i64 r.y1) = bkC (L.set k ⟨o.on, o.s, o.st, r⟩) := by
  have hk := (List.getElem?_eq_some_iff.1 h).1
  have g0 : (flatG Wt.cs L)[k * 7]? = some (.bool o.on) := flatG_get Wt.z L k o h 0 (by omega)
  have g1 : (flatG Wt.cs L)[k * 7 + 1]? = some (.int .i64 o.s) := flatG_get Wt.z L k o h 1 (by omega)
  have g2 : (flatG Wt.cs L)[k * 7 + 2]? = some (.int .i64 o.st) := flatG_get Wt.z L k o h 2 (by omega)
  rw [← bkC_set7 _ hk]
  simp only [bkC, List.setIfInBounds_toArray, set_self g0, set_self g1, set_self g2]
/-- nobody watches -/
def noL : List Wt := [noW, noW, noW, noW]
/-- the block g is a book's: four watches -/
structure WB (W : World) (g : Nat) (t : TypeId) (L : List Wt) : Prop where
  at_ : W.heap[g]? = some (.cells (bkC L) t (0, 0))
  len : L.length = 4
/-- the cells of the watch o, from the cell p of the block g on -/
abbrev cells7 (W : World) (g p : Nat) (o : Wt) : Prop := W.cell? ⟨g, p, none⟩ = some (.bool o.on) ∧ W.cell? ⟨g, p + 1, none⟩ = some (.int .i64 o.s) ∧ W.cell? ⟨g, p + 2, none⟩ = some (.int .i64 o.st) ∧ W.cell? ⟨g, p + 3, none⟩ = some (.int .i64 o.r.x0) ∧ W.cell? ⟨g, p + 4, none⟩ = some (.int .i64 o.r.y0) ∧ W.cell? ⟨g, p + 5, none⟩ = some (.int .i64 o.r.x1) ∧ W.cell? ⟨g, p + 6, none⟩ = some (.int .i64 o.r.y1)
section
variable {W : World} {g : Nat} {t : TypeId} {L : List Wt}
theorem WB.lt (h : WB W g t L) : g < W.heap.size := at_lt h.at_
theorem WB.cell (h : WB W g t L) {k : Nat} {o : Wt} (hk : L[k]? = some o) : cells7 W g (k * 7) o := by
  have c := fun j (hj : j < 7) => bkC_j hk hj
  refine ⟨?_, ?_, ?_, ?_, ?_, ?_, ?_⟩ <;> rw [(cells_at h.at_).1]
  · exact c 0 (by omega)
  · exact c 1 (by omega)
  · exact c 2 (by omega)
  · exact c 3 (by omega)
  · exact c 4 (by omega)
  · exact c 5 (by omega)
  · exact c 6 (by omega)
theorem WB.free (h : WB W g t L) (i : Nat) : W.frozen? ⟨g, i, none⟩ = false := (cells_at h.at_).2 i
theorem WB.on {W' : World} {B : Nat} (h : WB W g t L) (hb : Below B W W') (hg : g < B) : WB W' g t L := ⟨var_on hb h.at_ hg, h.len⟩
theorem WB.later {W' : World} (h : WB W g t L) (hb : Below W.heap.size W W') : WB W' g t L := h.on hb h.lt
theorem WB.but {W' : World} {b : Nat} (h : WB W g t L) (hb : But b W W') (hn : g ≠ b) : WB W' g t L := ⟨hb.at h.at_ hn, h.len⟩
theorem WB.drew (h : WB W g t L) : WB W.drew g t L := ⟨h.at_, h.len⟩
theorem WB.drewN (h : WB W g t L) (n : Nat) : WB (W.drewN n) g t L := h.later (below_drewN (Below.refl _ _) n)
theorem WB.set7 (h : WB W g t L) {k : Nat} (o : Wt) (hk : k < 4) : WB (((((((W.setCell ⟨g, k * 7, none⟩ (.bool o.on)).setCell ⟨g, k * 7 + 1, none⟩ (.int .i64 o.s)).setCell ⟨g, k * 7 + 2, none⟩ (.int .i64 o.st)).setCell ⟨g, k * 7 + 3, none⟩ (.int .i64 o.r.x0)).setCell ⟨g, k * 7 + 4, none⟩ (.int .i64 o.r.y0)).setCell ⟨g, k * 7 + 5, none⟩ (.int .i64 o.r.x1)).setCell ⟨g, k * 7 + 6, none⟩ (.int .i64 o.r.y1)) g t (L.set k o) :=
  ⟨set_at (set_at (set_at (set_at (set_at (set_at (set_at h.at_ _ rfl) _ rfl) _ rfl) _ rfl) _ rfl) _ rfl) _ (bkC_set7 o (by rw [h.len]; exact hk)), by rw [List.length_set]; exact h.len⟩
theorem WB.set4 (h : WB W g t L) {k : Nat} {o : Wt} (hk : L[k]? = some o) (r : Rc) : WB ((((W.setCell ⟨g, k * 7 + 3, none⟩ (.int .i64 r.x0)).setCell ⟨g, k * 7 + 4, none⟩ (.int .i64 r.y0)).setCell ⟨g, k * 7 + 5, none⟩ (.int .i64 r.x1)).setCell ⟨g, k * 7 + 6, none⟩ (.int .i64 r.y1)) g t (L.set k ⟨o.on, o.s, o.st, r⟩) :=
  ⟨set_at (set_at (set_at (set_at h.at_ _ rfl) _ rfl) _ rfl) _ (bkC_set4 hk r), by rw [List.length_set]; exact h.len⟩
theorem WB.get (h : WB W g t L) {k : Nat} (hk : k < 4) : ∃ o, L[k]? = some o := get_some L k (by rw [h.len]; exact hk)
end
theorem But.new {w w' : World} {o : Obj} (h : But w.heap.size (w.alloc o) w') : Below w.heap.size w w' := But.below (below1 _ _) h (Nat.le_refl _)
theorem But.drew {g : Nat} {w w' : World} (h : But g w w') : But g w w'.drew := ⟨h.os, h.tape, h.output, h.size, h.block⟩
/-- is it a client -/
def isCl (c : Int) : Bool := decide (0 ≤ c) && decide (c < 4)
theorem cl_nat {c : Int} (h : isCl c = true) : ∃ k : Nat, c = (k : Int) ∧ k < 4 := by
  simp [isCl] at h
  exact ⟨c.toNat, by omega, by omega⟩
def atW (L : List Wt) (c : Int) : Wt := L.getD c.toNat noW
theorem atW_nat {L : List Wt} {k : Nat} {o : Wt} (h : L[k]? = some o) : atW L (k : Int) = o := by simp [atW, h]
/-- what a client watches; of no client nothing -/
def ofW (L : List Wt) (c : Int) : Wt := if isCl c = true then atW L c else noW
/-- does it see -/
def seesB (L : List Wt) (c x y : Int) : Bool := (ofW L c).on && inB (ofW L c).r x y
def clipR (r : Rc) : Rc := meetR r ⟨0, 0, 64, 64⟩
abbrev Cm.rect (c : Cm) : Rc := ⟨c.r0, c.r1, c.r2, c.r3⟩
/-- may whoever watches o ask for c -/
def mayB (o : Wt) (c : Cm) : Bool := if c.kd = 6 then decide (o.s < c.se) else o.on && o.s == c.se
/-- the watch behind it -/
def nextW (o : Wt) (c : Cm) (beat : Int) : Wt :=
  if c.kd = 6 then ⟨true, c.se, beat, clipR c.rect⟩ else if c.kd = 7 then ⟨o.on, o.s, o.st, clipR c.rect⟩ else ⟨false, o.s, o.st, ⟨0, 0, 0, 0⟩⟩
def formB (c : Cm) : Bool := isCm c && watchB c.kd
/-- the error that Do tells -/
def wdoE (L : List Wt) (c : Cm) : Int := if formB c = false then 11 else if mayB (atW L c.cl) c = false then 20 else 0
/-- the watches behind it -/
def wdoL (L : List Wt) (c : Cm) (beat : Int) : List Wt := if wdoE L c = 0 then L.set c.cl.toNat (nextW (atW L c.cl) c beat) else L
theorem wdoL_len (L : List Wt) (c : Cm) (beat : Int) : (wdoL L c beat).length = L.length := by
  unfold wdoL
  split <;> simp
theorem wdoE_form {L : List Wt} {c : Cm} (h : formB c = false) : wdoE L c = 11 := by unfold wdoE; rw [if_pos h]
theorem wdoE_may {L : List Wt} {c : Cm} (h : formB c = true) (h2 : mayB (atW L c.cl) c = false) : wdoE L c = 20 := by unfold wdoE; rw [if_neg (by rw [h]; simp), if_pos h2]
theorem wdoE_ok {L : List Wt} {c : Cm} (h : formB c = true) (h2 : mayB (atW L c.cl) c = true) : wdoE L c = 0 := by unfold wdoE; rw [if_neg (by rw [h]; simp), if_neg (by rw [h2]; simp)]
theorem wdoL_bad {L : List Wt} {c : Cm} {b x : Int} (h : wdoE L c = x) (hx : ¬ x = 0) : wdoL L c b = L := by unfold wdoL; rw [if_neg (by rw [h]; exact hx)]
theorem wdoL_ok {L : List Wt} {c : Cm} {b : Int} {k : Nat} {o : Wt} (h : wdoE L c = 0) (hc : c.cl = (k : Int)) (ho : L[k]? = some o) : wdoL L c b = L.set k (nextW o c b) := by
  unfold wdoL
  rw [if_pos h, hc, atW_nat ho]
  rfl
theorem next_join {o : Wt} {c : Cm} {b : Int} (h : c.kd = 6) : nextW o c b = ⟨true, c.se, b, clipR c.rect⟩ := by unfold nextW; rw [if_pos h]
theorem next_turn {o : Wt} {c : Cm} {b : Int} (h : c.kd = 7) : nextW o c b = ⟨o.on, o.s, o.st, clipR c.rect⟩ := by unfold nextW; rw [if_neg (by omega), if_pos h]
theorem next_quit {o : Wt} {c : Cm} {b : Int} (h : c.kd = 8) : nextW o c b = ⟨false, o.s, o.st, ⟨0, 0, 0, 0⟩⟩ := by unfold nextW; rw [if_neg (by omega), if_neg (by omega)]
/-- who is a command of the three is one of a client -/
theorem form_cl {c : Cm} (h : formB c = true) : isCl c.cl = true := by
  simp only [formB, Bool.and_eq_true] at h
  have := (isC_iff.1 h.1).1 (.num 16 0 3) (by simp [partsP, headP])
  rw [is_num] at this
  have e : c.i 16 = c.cl := rfl
  rw [e] at this
  simp [isCl]
  omega
theorem form_kd {c : Cm} (h : formB c = true) : c.kd = 6 ∨ c.kd = 7 ∨ c.kd = 8 := by
  simp [formB, watchB] at h
  omega
end Go.Proofs.Ythgnmpgdlemdlaa
