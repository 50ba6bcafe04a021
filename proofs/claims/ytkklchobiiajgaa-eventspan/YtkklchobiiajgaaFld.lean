/- Contracts of small functions of the package fields and of the statements. -/
import Derived.Test.YtkklchobiiajgaaFldP
import Derived.Test.YtkklchobiiajgaaGeom
import Derived.Test.YtkklchobiiajgaaRef
namespace Go.Proofs.Ytkklchobiiajgaa
open Go.RowKit
set_option linter.unusedVariables false
theorem equal_pt (W : World) (a0 a1 b0 b1 : Int) : (Op.equalIn 10000 38 (pt a0 a1) (pt b0 b1)).run Try.prog W = .ok (pEq a0 a1 b0 b1) W := by
  unfold pEq
  by_cases h0 : a0 = b0 <;> by_cases h1 : a1 = b1 <;> simp [go_sem, h0, h1]
theorem equal_fl (W : World) (a b : Fl) : (Op.equalIn 10000 40 a.v b.v).run Try.prog W = .ok (eqF a b) W := by
  obtain ⟨n, s⟩ := a
  obtain ⟨m, t⟩ := b
  by_cases h0 : n = m <;> by_cases h1 : s = t <;> simp [go_sem, h0, h1, toList_inj, eqF]
theorem equal_fl_at {a b : Fl} {q : Bool} (h : eqF a b = q) (W : World) : (Op.equalIn 10000 40 a.v b.v).run Try.prog W = .ok q W := by rw [equal_fl, h]
theorem bit_at (m k : Nat) (hm : m ≤ 255) : (bits .and .u8 ((m : Int) / 2 ^ k) 1 == 1) = m.testBit k := by
  have e : ((m : Int) / 2 ^ k) = ((m / 2 ^ k : Nat) : Int) := by simp
  have h1 : m / 2 ^ k ≤ m := Nat.div_le_self _ _
  have := u8_and_nat (m / 2 ^ k) 1 (by omega) (by omega)
  rw [e, show (1 : Int) = ((1 : Nat) : Int) from rfl, this, Nat.and_one_is_mod]
  rw [Nat.testBit_eq_decide_div_mod_eq]
  rw [Bool.eq_iff_iff]
  simp
  omega
theorem fields_has (w : World) (m : Nat) (k : Nat) (hm : m ≤ 255) (hk : k ≤ 4) : Calls Try.prog 62 #[.int .u8 m, .int .i64 k] w fun e w' => e = .returned (.bool (m.testBit k)) ∧ w' = w := by
  go_enter Try.func62, Try.ntmps62
  go_wp2
  go_ret
  exact ⟨congrArg (fun x => Ending.returned (.bool x)) (bit_at m k hm), rfl⟩
theorem fields_isField (w : World) (f : Fl) (hs : f.s.size ≤ maxLen) : Calls Try.prog 64 #[f.v] w fun e w' => e = .returned (.bool (isF f)) ∧ Below w.heap.size w w' := by
  go_enter Try.func64, Try.ntmps64
  go_wp2 <;> (go_ret; exact ⟨by simp_all [isF] <;> omega, below1 _ _⟩)
theorem ref_isField (w : World) (f : Fl) (hs : f.s.size ≤ maxLen) : Calls Try.prog 54 #[f.v] w fun e w' => e = .returned (.bool (isF f)) ∧ Below w.heap.size w w' := by
  go_enter Try.func54, Try.ntmps54
  go_wp2 <;> (go_ret; exact ⟨by simp_all [isF] <;> omega, below1 _ _⟩)
theorem few_field (w : World) (f : Fl) (hs : f.s.size ≤ maxLen) : Calls Try.prog 52 #[f.v] w fun e w' => e = .returned (.bool (decide (f.s.size ≤ 40))) ∧ Below w.heap.size w w' := by
  go_enter Try.func52, Try.ntmps52
  go_wp2 <;> (go_ret; exact ⟨by simp <;> omega, below1 _ _⟩)
end Go.Proofs.Ytkklchobiiajgaa
