/- Contracts of the reference of commands. -/
import Derived.Test.YtpedngbjpbeanaaDoorCH
import Derived.Lib.MinMax
namespace Go.Proofs.YtpedngbjpbeanaaDoor
section
open Go.RowKit
set_option linter.unusedVariables false
def ptI (x y : Int) : Bool := inJ x (-1000) 1000 && inJ y (-1000) 1000
def rcI (a b c d : Int) : Bool := ptI a b && ptI c d
/-- only what its kind has -/
def shapeC (c : Cm) : Cm :=
  if c.kd = 1 then ⟨c.kd, 0, 0, 0, c.x, c.y, c.f0, c.f1, c.f2, c.f3, zF, c.cl, c.se, 0, 0, 0, 0⟩
  else if c.kd = 2 then ⟨c.kd, c.id, 0, 0, c.x, c.y, zF, zF, zF, zF, zF, c.cl, c.se, 0, 0, 0, 0⟩
  else if c.kd = 3 then ⟨c.kd, c.id, c.wh, 0, 0, 0, zF, zF, zF, zF, c.va, c.cl, c.se, 0, 0, 0, 0⟩
  else if c.kd = 4 then ⟨c.kd, c.id, 0, 0, 0, 0, zF, zF, zF, zF, zF, c.cl, c.se, 0, 0, 0, 0⟩
  else if c.kd = 5 then ⟨c.kd, 0, c.wh, c.tt, 0, 0, zF, zF, zF, zF, zF, c.cl, c.se, 0, 0, 0, 0⟩
  else if c.kd = 6 ∨ c.kd = 7 then ⟨c.kd, 0, 0, 0, 0, 0, zF, zF, zF, zF, zF, c.cl, c.se, c.r0, c.r1, c.r2, c.r3⟩
  else ⟨c.kd, 0, 0, 0, 0, 0, zF, zF, zF, zF, zF, c.cl, c.se, 0, 0, 0, 0⟩
end
section
open Go.RowKit
set_option linter.unusedVariables false
abbrev zL : Fl := ⟨0, ⟨#[]⟩⟩
abbrev headC (c : Cm) : Cm := ⟨c.kd, 0, 0, 0, 0, 0, zL, zL, zL, zL, zL, c.cl, c.se, 0, 0, 0, 0⟩
theorem But.drew {g : Nat} {w w' : World} (h : But g w w') : But g w w'.drew := ⟨h.os, h.tape, h.output, h.size, h.block⟩
end
end Go.Proofs.YtpedngbjpbeanaaDoor
