/- The grid in plain words: a cell's place, its points, the cells that a rectangle has points of, who is beside whom. -/
import Derived.Test.YtfoncphdbaaedaaGreatDoorGeomP
import Derived.Test.YtfoncphdbaaedaaGreatDoorMortonP
namespace Go.Proofs.YtfoncphdbaaedaaGreatDoor
open Go.RowKit
def cx (c : Nat) : Nat := c % 2 + 2 * (c / 4 % 2)
def cy (c : Nat) : Nat := c / 2 % 2 + 2 * (c / 8 % 2)
theorem gat_cx : ∀ c, c < 16 → gat c = cx c ∧ gat (c / 2) = cy c := by decide +kernel
def isC (c : Int) : Bool := decide (0 ≤ c) && decide (c < 16)
def cellN (c : Nat) : Rc := ⟨(cx c : Nat) * 16, (cy c : Nat) * 16, ((cx c : Nat) + 1) * 16, ((cy c : Nat) + 1) * 16⟩
def cellR (c : Int) : Rc := if isC c then cellN c.toNat else ⟨0, 0, 0, 0⟩
def nearB (a b : Nat) : Bool := decide (a ≤ b + 1) && decide (b ≤ a + 1)
def besN (a b : Nat) : Bool := nearB (cx a) (cx b) && nearB (cy a) (cy b)
def besB (a b : Int) : Bool := isC a && isC b && !(a == b) && besN a.toNat b.toNat
def hasB (r : Rc) (c : Nat) : Bool := !emptyB (meetR (cellN c) r)
def coverL (r : Rc) (n : Nat) : List Nat := (List.range n).filter (hasB r)
def vals (l : List Nat) : List Value := l.map fun c => .int .i64 (c : Nat)
def wvN (x y : Nat) : Nat := x % 2 + 2 * (y % 2) + 4 * (x / 2) + 8 * (y / 2)
theorem weave_wvN : ∀ x, x < 4 → ∀ y, y < 4 → weave x y = wvN x y := by decide +kernel
theorem wvN_lt : ∀ x, x < 4 → ∀ y, y < 4 → wvN x y < 16 := by decide +kernel
theorem cx_wvN : ∀ x, x < 4 → ∀ y, y < 4 → cx (wvN x y) = x ∧ cy (wvN x y) = y := by decide +kernel
theorem wvN_cx : ∀ c, c < 16 → wvN (cx c) (cy c) = c := by decide +kernel
theorem cx_lt (c : Nat) : cx c < 4 := by unfold cx; omega
theorem cy_lt (c : Nat) : cy c < 4 := by unfold cy; omega
def ofN (x y : Int) : Nat := if onB x y then wvN (x / 16).toNat (y / 16).toNat else 0
def ofE (x y : Int) : Int := if onB x y then 0 else 14
theorem coverL_add {r : Rc} {k : Nat} (h : hasB r k = true) : coverL r (k + 1) = coverL r k ++ [k] := by simp [coverL, List.range_succ, h]
theorem coverL_skip {r : Rc} {k : Nat} (h : hasB r k = false) : coverL r (k + 1) = coverL r k := by simp [coverL, List.range_succ, h]
theorem coverL_le (r : Rc) (k : Nat) : (coverL r k).length ≤ k := by
  have := List.length_filter_le (hasB r) (List.range k)
  simpa [coverL] using this
theorem onB_iff (x y : Int) : onB x y = true ↔ (0 ≤ x ∧ x < 64 ∧ 0 ≤ y ∧ y < 64) := by
  simp [onB, inB, Bool.and_eq_true, and_assoc]
theorem isC_nat {c : Int} (h : isC c = true) : ∃ n : Nat, c = n ∧ n < 16 := by
  simp [isC] at h
  exact ⟨c.toNat, by omega, by omega⟩
theorem isC_of {n : Nat} (h : n < 16) : isC (n : Int) = true := by simp [isC]; omega
theorem cellR_of {n : Nat} (h : n < 16) : cellR (n : Int) = cellN n := by simp [cellR, isC_of h]
theorem vals_append (l m : List Nat) : vals (l ++ m) = vals l ++ vals m := by simp [vals]
theorem vals_length (l : List Nat) : (vals l).length = l.length := by simp [vals]
end Go.Proofs.YtfoncphdbaaedaaGreatDoor
