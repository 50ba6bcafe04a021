/- Contract of Bytes of the reference. -/
import Derived.Test.YtjdlcocncacmlaaEvB
import Derived.Test.YtjdlcocncacmlaaEvE
namespace Go.Proofs.Ytjdlcocncacmlaa
open Go.RowKit
set_option linter.unusedVariables false
theorem Try.sizeT11 : (Try.prog.info? 40).map (·.size) = some 11 := by kernel_rfl
theorem Try.sizeD12 : (Try.prog.info? 42).map (·.size) = some 12 := by kernel_rfl
theorem wpList_load_mid_th {ops : Array Oper} {rest : List Oper} {o : Oper} {a : Act} {W : World} {Q : Exit → Act → World → Prop} (hgd : o.guard = none) (x : Operand) (ho : o.op = .load 40 x)
    {b p : Nat} {c : Th} (hx : a.eval x = .pointer (some ⟨b, p, none⟩)) (h : W.rangeAt b p c.cs) (k : wpList Try.prog ops Q rest (a.put o.dst c.v) W) : wpList Try.prog ops Q (o :: rest) a W :=
  wpList_load_mid hgd _ x ho b p hx c.cs _ h Try.underlying40 rfl Try.sizeT11 k
theorem wpList_load_mid_dl {ops : Array Oper} {rest : List Oper} {o : Oper} {a : Act} {W : World} {Q : Exit → Act → World → Prop} (hgd : o.guard = none) (x : Operand) (ho : o.op = .load 42 x)
    {b p : Nat} {c : Dl} (hx : a.eval x = .pointer (some ⟨b, p, none⟩)) (h : W.rangeAt b p c.cs) (k : wpList Try.prog ops Q rest (a.put o.dst c.v) W) : wpList Try.prog ops Q (o :: rest) a W :=
  wpList_load_mid hgd _ x ho b p hx c.cs _ h Try.underlying42 rfl Try.sizeD12 k
/-- an event in the middle of a row, part by part -/
theorem range_parts {W : World} {b o : Nat} {e : Ev} (h : W.rangeAt b o e.cs) : W.cell? ⟨b, o, none⟩ = some (.int .i64 e.k) ∧ W.cell? ⟨b, o + 1, none⟩ = some (.int .i64 e.i) ∧ W.rangeAt b (o + 2) e.t.cs ∧ W.rangeAt b (o + 13) e.d.cs := by
  refine ⟨h 0 _ rfl, h 1 _ rfl, fun j v hv => ?_, fun j v hv => ?_⟩
  · have hj : j < 11 := by have := (List.getElem?_eq_some_iff.1 hv).1; rwa [Th.z] at this
    have e1 : e.cs = [.int .i64 e.k, .int .i64 e.i] ++ (e.t.cs ++ e.d.cs) := rfl
    have := h (2 + j) v (by rw [e1, List.getElem?_append_right (by simp), List.getElem?_append_left (by simp [Th.z]; omega)]; simpa using hv)
    rwa [← Nat.add_assoc] at this
  · have e1 : e.cs = ([.int .i64 e.k, .int .i64 e.i] ++ e.t.cs) ++ e.d.cs := rfl
    have := h (13 + j) v (by rw [e1, List.getElem?_append_right (by simp [Th.z])]; simpa [Th.z] using hv)
    rwa [← Nat.add_assoc] at this
end Go.Proofs.Ytjdlcocncacmlaa
