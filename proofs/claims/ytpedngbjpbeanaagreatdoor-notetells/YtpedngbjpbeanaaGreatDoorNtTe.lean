/- A load of a whole note in a region that draws and only reads. -/
import Derived.Test.YtpedngbjpbeanaaGreatDoorNtRi
import Derived.Test.YtpedngbjpbeanaaGreatDoorNtC
import Derived.Test.YtpedngbjpbeanaaGreatDoorNtD
namespace Go.Proofs.YtpedngbjpbeanaaGreatDoor
open Go.RowKit
set_option linter.unusedVariables false
theorem quiet_load_nt {ops : Array Oper} {rest : List Oper} {o : Oper} {a : Act} {C : World → Prop} {Q : Act → Prop} (hw : Region.wanted o (yielded ops a.tmps) = true) (x : Operand) (ho : o.op = .load 26 x)
    {g : Nat} {c : Nt} {q : Ns} (hx : a.eval x = .pointer (some ⟨g, 0, none⟩)) (h : ∀ W, C W → W.heap[g]? = some (c.o q)) (k : wpQuiet Tryz.prog ops C Q rest (a.put o.dst (c.v q))) : wpQuiet Tryz.prog ops C Q (o :: rest) a := by
  rw [wpQuiet, if_pos hw]
  refine ⟨c.v q, fun W hW => ?_, k⟩
  unfold Oper.quietAt
  have e0 : (Instr.loadAt 26 (.pointer (some ⟨g, 0, none⟩))).run Tryz.prog W = .ok (c.v q) W := by
    simp only [Instr.loadAt, Instr.sureAddr, Sem.run_bind, Sem.run_pure, Result.andThen_ok]
    exact run_loadVar_row W g _ _ _ _ _ (h W hW) Tryz.underlying26 rfl Tryz.sizeNt
  have e : (execOp a.eval o).run Tryz.prog W = .ok (.value (c.v q)) W := by
    unfold execOp
    simp only [ho, hx, Sem.run_bind, e0, Result.andThen_ok, Sem.run_pure]
  rw [e]
  exact ⟨rfl, rfl⟩
end Go.Proofs.YtpedngbjpbeanaaGreatDoor
