/- Laws for a region that draws its order, an operation a row: what yields in every world that the held fact allows is taken first. Of no program. -/
import Derived.Test.YtpedngbjpbeanaaGreatDoorXN
import Derived.Deep.RegionHeld3
namespace Go.Proofs.YtpedngbjpbeanaaGreatDoor
open Go.RowKit
set_option linter.unusedVariables false
/-- the operation of number k -/
def nthIs : List Oper → Nat → Oper → Prop
  | [], _, _ => False
  | a :: _, 0, b => a = b
  | _ :: l, k + 1, b => nthIs l k b
theorem nth_is : ∀ {l : List Oper} {k : Nat} {o : Oper}, nthIs l k o → l.toArray[k]? = some o
  | [], _, _, h => h.elim
  | a :: _, 0, b, h => by cases h; rfl
  | _ :: l, k + 1, b, h => by
    have := nth_is (l := l) h
    simpa using this
section
variable {P : Program} {l : List Oper} {Q : Exit → Act → World → Prop} {md : Region.Mode} {S : World → Prop}
theorem take_yes {i : Nat} {oi : Oper} {v : Value} {fuel : Nat} {listed : Array Bool} {a : Act} {w : World} (hi : nthIs l i oi) (hs : Region.noSelect l.toArray = true) (hf : Region.free md l.toArray listed i = true) (hr : (Region.ready md l.toArray listed).contains i = true)
    (hQ : ∀ c a w, Q (.panic c) (a.put oi.dst v) w → Q (.panic c) a w) (hw : Region.wanted oi (yielded l.toArray a.tmps) = true) (hy : ∀ w, S w → (execOp a.eval oi).run P w = .ok (.value v) w) (hS : S w)
    (h : wpAnyH P md l.toArray Q S fuel (listed.setIfInBounds i true) (a.put oi.dst v) w) : wpAnyH P md l.toArray Q S (fuel + 1) listed a w :=
  wpAnyH_take (nth_is hi) hs hf hr hQ (.inl ⟨hw, hy⟩) hS h
theorem take_no {i : Nat} {oi : Oper} {fuel : Nat} {listed : Array Bool} {a : Act} {w : World} (hi : nthIs l i oi) (hs : Region.noSelect l.toArray = true) (hf : Region.free md l.toArray listed i = true) (hr : (Region.ready md l.toArray listed).contains i = true)
    (hQ : ∀ c a w, Q (.panic c) (a.put oi.dst undef) w → Q (.panic c) a w) (hw : Region.wanted oi (yielded l.toArray a.tmps) = false) (hS : S w)
    (h : wpAnyH P md l.toArray Q S fuel (listed.setIfInBounds i true) (a.put oi.dst undef) w) : wpAnyH P md l.toArray Q S (fuel + 1) listed a w :=
  wpAnyH_take (nth_is hi) hs hf hr hQ (.inr ⟨hw, rfl⟩) hS h
theorem cons_at {fuel : Nat} {listed : Array Bool} {a : Act} {w : World} {i : Nat} {o : Oper} {rs : List Nat} (hi : nthIs l i o)
    (h : ∀ K' : Act → World → Prop, Shut (∀ a w, S w → (S w → wpAnyH P md l.toArray Q S fuel (listed.setIfInBounds i true) a w) → K' a w) → if Region.wanted o (yielded l.toArray a.tmps) = true then Oper.wp P o a w K' Q else K' (a.put o.dst undef) w)
    (hs : AllReadyH P md l.toArray Q S fuel listed a w rs) : AllReadyH P md l.toArray Q S fuel listed a w (i :: rs) := AllReadyH.cons (nth_is hi) h hs
end
end Go.Proofs.YtpedngbjpbeanaaGreatDoor
