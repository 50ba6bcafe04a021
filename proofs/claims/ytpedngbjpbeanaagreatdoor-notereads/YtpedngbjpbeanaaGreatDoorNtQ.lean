/- Laws of their own at single operations of regions that draw: things, hands, commands loaded and stored whole; rows of their own in memory. -/
import Derived.Test.YtpedngbjpbeanaaGreatDoorNtT
import Derived.Test.YtpedngbjpbeanaaGreatDoorNtR
import Derived.Test.YtpedngbjpbeanaaGreatDoorTake
import Derived.Deep.AppendLies
import Derived.Deep.Cut
import Derived.WalkMore
namespace Go.Proofs.YtpedngbjpbeanaaGreatDoor
open Go.RowKit
set_option linter.unusedVariables false
set_option maxRecDepth 100000
theorem Tryz.infoT : (Tryz.prog.info? 50).map (fun i => (i.zero, i.size, i.bytes)) = some (some zT.v, 11, 120) := by kernel_rfl
theorem Tryz.infoHd : (Tryz.prog.info? 43).map (fun i => (i.zero, i.size, i.bytes)) = some (some zH.v, 2, 16) := by kernel_rfl
theorem Tryz.infoCm : (Tryz.prog.info? 57).map (fun i => (i.zero, i.size, i.bytes)) = some (some zC.v, 22, 216) := by kernel_rfl
theorem Tryz.sizeTh : (Tryz.prog.info? 50).map (·.size) = some 11 := by kernel_rfl
theorem Tryz.sizeHd : (Tryz.prog.info? 43).map (·.size) = some 2 := by kernel_rfl
theorem th_one (t : Th) : ∀ u ∈ t.cs, u.oneCell' = true := by
  intro u hu
  simp only [Th.cs, List.mem_cons, List.not_mem_nil, or_false] at hu
  rcases hu with rfl | rfl | rfl | rfl | rfl | rfl | rfl | rfl | rfl | rfl | rfl <;> rfl
theorem hd_one (t : Hd) : ∀ u ∈ t.cs, u.oneCell' = true := by
  intro u hu
  simp only [Hd.cs, List.mem_cons, List.not_mem_nil, or_false] at hu
  rcases hu with rfl | rfl <;> rfl
theorem cm_one (t : Cm) : ∀ u ∈ t.cs, u.oneCell' = true := by
  intro u hu
  have := one22 t
  rw [Array.all_eq_true'] at this
  exact this u (by simpa [Cm.cs] using hu)
theorem exec_load_th {o : Oper} {a : Act} {W : World} (x : Operand) (ho : o.op = .load 50 x) {g : Nat} {c : Th} (hx : a.eval x = .pointer (some ⟨g, 0, none⟩)) (h : W.heap[g]? = some c.o) : (execOp a.eval o).run Tryz.prog W = .ok (.value c.v) W := by
  have e0 : (Instr.loadAt 50 (.pointer (some ⟨g, 0, none⟩))).run Tryz.prog W = .ok c.v W := by
    simp only [Instr.loadAt, Instr.sureAddr, Sem.run_bind, Sem.run_pure, Result.andThen_ok]
    exact run_loadVar_row W g _ _ _ _ _ h Tryz.underlying50 rfl Tryz.sizeTh
  unfold execOp
  simp only [ho, hx, Sem.run_bind, e0, Result.andThen_ok, Sem.run_pure]
theorem exec_load_hd {o : Oper} {a : Act} {W : World} (x : Operand) (ho : o.op = .load 43 x) {g : Nat} {c : Hd} (hx : a.eval x = .pointer (some ⟨g, 0, none⟩)) (h : W.heap[g]? = some c.o) : (execOp a.eval o).run Tryz.prog W = .ok (.value c.v) W := by
  have e0 : (Instr.loadAt 43 (.pointer (some ⟨g, 0, none⟩))).run Tryz.prog W = .ok c.v W := by
    simp only [Instr.loadAt, Instr.sureAddr, Sem.run_bind, Sem.run_pure, Result.andThen_ok]
    exact run_loadVar_row W g _ _ _ _ _ h Tryz.underlying43 rfl Tryz.sizeHd
  unfold execOp
  simp only [ho, hx, Sem.run_bind, e0, Result.andThen_ok, Sem.run_pure]
theorem exec_load_cm {o : Oper} {a : Act} {W : World} (x : Operand) (ho : o.op = .load 57 x) {g : Nat} {c : Cm} (hx : a.eval x = .pointer (some ⟨g, 0, none⟩)) (h : W.heap[g]? = some c.o) : (execOp a.eval o).run Tryz.prog W = .ok (.value c.v) W := by
  have e0 := load_at h
  unfold execOp
  simp only [ho, hx, Sem.run_bind, e0, Result.andThen_ok, Sem.run_pure]
section
variable {ops : Array Oper} {o : Oper} {a : Act} {W : World} {K : Act → World → Prop} {Q : Exit → Act → World → Prop} {E : Prop}
theorem step_store_th (hgd : o.guard = none) (x y : Operand) (ho : o.op = .store 50 x y)
    {g : Nat} {c d : Th} (hx : a.eval x = .pointer (some ⟨g, 0, none⟩)) (hy : a.eval y = c.v) (h : W.heap[g]? = some d.o) (k : ∀ W', W'.heap[g]? = some c.o → But g W W' → W'.heap.size = W.heap.size → K (a.put o.dst undef) W') :
    if Region.wanted o (yielded ops a.tmps) = true then Oper.wp Tryz.prog o a W K Q else E := by
  have hw : Region.wanted o (yielded ops a.tmps) = true := by simp [Region.wanted, hgd]
  rw [if_pos hw]
  exact wp_store_row 50 x y ho g _ hx hy _ _ h Tryz.sizeTh rfl (by simp [Value.oneCell']) (k _ (setRow_heap W g _ _ _ _ h) ⟨rfl, rfl, rfl, by simp, fun i hi hg => setRow_other W g i _ hg⟩ (by simp))
theorem step_store_hd (hgd : o.guard = none) (x y : Operand) (ho : o.op = .store 43 x y)
    {g : Nat} {c d : Hd} (hx : a.eval x = .pointer (some ⟨g, 0, none⟩)) (hy : a.eval y = c.v) (h : W.heap[g]? = some d.o) (k : ∀ W', W'.heap[g]? = some c.o → But g W W' → W'.heap.size = W.heap.size → K (a.put o.dst undef) W') :
    if Region.wanted o (yielded ops a.tmps) = true then Oper.wp Tryz.prog o a W K Q else E := by
  have hw : Region.wanted o (yielded ops a.tmps) = true := by simp [Region.wanted, hgd]
  rw [if_pos hw]
  exact wp_store_row 43 x y ho g _ hx hy _ _ h Tryz.sizeHd rfl (by simp [Value.oneCell']) (k _ (setRow_heap W g _ _ _ _ h) ⟨rfl, rfl, rfl, by simp, fun i hi hg => setRow_other W g i _ hg⟩ (by simp))
theorem step_store_cm (hgd : o.guard = none) (x y : Operand) (ho : o.op = .store 57 x y)
    {g : Nat} {c d : Cm} (hx : a.eval x = .pointer (some ⟨g, 0, none⟩)) (hy : a.eval y = c.v) (h : W.heap[g]? = some d.o) (k : ∀ W', W'.heap[g]? = some c.o → But g W W' → W'.heap.size = W.heap.size → K (a.put o.dst undef) W') :
    if Region.wanted o (yielded ops a.tmps) = true then Oper.wp Tryz.prog o a W K Q else E := by
  have hw : Region.wanted o (yielded ops a.tmps) = true := by simp [Region.wanted, hgd]
  rw [if_pos hw]
  exact wp_store_row 57 x y ho g _ hx hy _ _ h Tryz.size30 rfl (one22 c) (k _ (setRow_heap W g _ _ _ _ h) ⟨rfl, rfl, rfl, by simp, fun i hi hg => setRow_other W g i _ hg⟩ (by simp))
end
/-- an own row where another block is changed -/
theorem owns_but {W W' : World} {base g z n : Nat} {e : TypeId} {v : Value} {xs : List Value} (h : W.ownsRow base e z v n xs) (hb : But g W W') (hlt : g < base) : W'.ownsRow base e z v n xs := by
  refine ⟨h.1, ?_⟩
  rcases h.2 with h0 | ⟨gp, cap, cur, h1, h2, h3, h4⟩
  · exact .inl h0
  · exact .inr ⟨gp, cap, cur, h1, h2, by rw [hb.block gp (at_lt h3) (by omega)]; exact h3, h4⟩
theorem But.grown {g : Nat} {a w w' : World} {row : Option Nat} (h : But g a w) (hg : w.grownBy w' row) (hr : ∀ k, row = some k → a.heap.size ≤ k) : But g a w' :=
  ⟨hg.os.trans h.os, hg.tape.trans h.tape, hg.output.trans h.output, Nat.le_trans h.size hg.size, fun k hk hne => (hg.block k (by have := h.size; omega) (fun e => by have := hr k e.symm; omega)).trans (h.block k hk hne)⟩
theorem set_same {cs : Array Value} {k : Nat} {v : Value} (h : cs[k]? = some v) : cs.setIfInBounds k v = cs := by
  apply Array.ext'
  rw [Array.toList_setIfInBounds]
  apply List.ext_getElem?
  intro i
  rw [List.getElem?_set]
  by_cases q : k = i
  · subst q
    rw [if_pos rfl]
    have h' : cs.toList[k]? = some v := by simpa using h
    rw [h']
    split
    · rfl
    · rename_i hh
      have := (List.getElem?_eq_some_iff.1 h').1
      exact absurd this hh
  · rw [if_neg q]
theorem set_set (cs : Array Value) (k : Nat) (u v : Value) : (cs.setIfInBounds k u).setIfInBounds k v = cs.setIfInBounds k v := by
  apply Array.ext'
  simp [Array.toList_setIfInBounds]
theorem set_get {cs : Array Value} {k : Nat} (v : Value) (h : k < cs.size) : (cs.setIfInBounds k v)[k]? = some v := by
  simp [h]
/-- how a row's take ends: the row that was read lies in memory of its own, its slice where it lay -/
def TakeP {α : Type} (flat : List α → List Value) (ET : TypeId) (Z : Nat) (w : World) (g k : Nat) (cs : Array Value) (T : TypeId) (L : List α) (z e : Nat) : Ending → World → Prop := fun r w' => ∃ p cap, r = .returned (.tuple #[.int .i64 z, .int .i64 e]) ∧ w'.heap[g]? = some (.cells (cs.setIfInBounds k (.slice p L.length cap)) T (0, 0)) ∧ w'.ownsRow w.heap.size ET Z (.slice p L.length cap) L.length (flat L) ∧ But g w w'
end Go.Proofs.YtpedngbjpbeanaaGreatDoor
