/- Rows of commands: what comes in, what a call made; loads and stores of a whole command. -/
import Derived.Test.YthgnmpgdlemdlaaCO
import Derived.Test.YthgnmpgdlemdlaaCH
import Derived.Deep.AppendLies
import Derived.Deep.MidRow
namespace Go.Proofs.Ythgnmpgdlemdlaa
section
open Go.RowKit Go.ChangeShapes Go.WideShapes Go.Deep Go.Joins
set_option linter.unusedVariables false
set_option maxRecDepth 100000
theorem wpList_load_mid_cm {ops : Array Oper} {rest : List Oper} {o : Oper} {a : Act} {W : World} {Q : Exit → Act → World → Prop} (hgd : o.guard = none) (x : Operand) (ho : o.op = .load 41 x)
    {b p : Nat} {c : Cm} (hx : a.eval x = .pointer (some ⟨b, p, none⟩)) (h : W.rangeAt b p c.cs) (k : wpList Try.prog ops Q rest (a.put o.dst c.v) W) : wpList Try.prog ops Q (o :: rest) a W :=
  wpList_load_mid hgd _ x ho b p hx c.cs _ h Try.underlying41 rfl Try.size30 k
theorem quiet_load_mid_cm {ops : Array Oper} {rest : List Oper} {o : Oper} {a : Act} {C : World → Prop} {Q : Act → Prop} (hw : Region.wanted o (yielded ops a.tmps) = true) (x : Operand) (ho : o.op = .load 41 x)
    {b p : Nat} {c : Cm} (hx : a.eval x = .pointer (some ⟨b, p, none⟩)) (h : ∀ W, C W → W.rangeAt b p c.cs) (k : wpQuiet Try.prog ops C Q rest (a.put o.dst c.v)) : wpQuiet Try.prog ops C Q (o :: rest) a := by
  rw [wpQuiet, if_pos hw]
  refine ⟨c.v, fun W hW => ?_, k⟩
  unfold Oper.quietAt
  have e0 : (Instr.loadAt 41 (.pointer (some ⟨b, p, none⟩))).run Try.prog W = .ok c.v W := run_loadAt_mid W b p _ c.cs _ (h W hW) Try.underlying41 rfl Try.size30
  have e : (execOp a.eval o).run Try.prog W = .ok (.value c.v) W := by
    unfold execOp
    simp only [ho, hx, Sem.run_bind, e0, Result.andThen_ok, Sem.run_pure]
  rw [e]
  exact ⟨rfl, rfl⟩
theorem range_on {W W' : World} {b p : Nat} {cs : List Value} (h : W.rangeAt b p cs) (hb : Below W.heap.size W W') : W'.rangeAt b p cs := fun j v hv => cell_below hb (h j v hv)
end
end Go.Proofs.Ythgnmpgdlemdlaa
