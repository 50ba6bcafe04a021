/- Plain: one client's steps in a book in which nobody else watches; who is a command of the three. -/
import Derived.Test.YthgnmpgdlemdlaaKnown14
namespace Go.Proofs.Ythgnmpgdlemdlaa
open Go.RowKit
set_option linter.unusedVariables false
/-- nobody but the client k watches, and it watches o -/
def oneL (k : Nat) (o : Wt) : List Wt := noL.set k o
theorem oneL_no {k : Nat} (hk : k < 4) : oneL k noW = noL := by
  unfold oneL
  apply set_self
  rcases (by omega : k = 0 ∨ k = 1 ∨ k = 2 ∨ k = 3) with rfl | rfl | rfl | rfl <;> rfl
theorem oneL_at {k : Nat} (hk : k < 4) (o : Wt) : (oneL k o)[k]? = some o := by
  unfold oneL
  rw [List.getElem?_set_self (by simpa [noL] using hk)]
theorem oneL_of {k : Nat} (hk : k < 4) (o : Wt) : ofW (oneL k o) (k : Int) = o := by
  unfold ofW
  rw [if_pos (by simp [isCl]; omega), atW_nat (oneL_at hk o)]
theorem oneL_yes {k : Nat} (hk : k < 4) {o p : Wt} {c : Cm} {b : Int} (hc : c.cl = (k : Int)) (hf : formB c = true) (hm : mayB o c = true) (hp : nextW o c b = p) : wdoE (oneL k o) c = 0 ∧ wdoL (oneL k o) c b = oneL k p := by
  have e : wdoE (oneL k o) c = 0 := wdoE_ok hf (by rw [hc, atW_nat (oneL_at hk o)]; exact hm)
  exact ⟨e, by rw [wdoL_ok e hc (oneL_at hk o), hp]; unfold oneL; rw [List.set_set]⟩
theorem oneL_no_may {k : Nat} (hk : k < 4) {o : Wt} {c : Cm} {b : Int} (hc : c.cl = (k : Int)) (hf : formB c = true) (hm : mayB o c = false) : wdoE (oneL k o) c = 20 ∧ wdoL (oneL k o) c b = oneL k o := by
  have e : wdoE (oneL k o) c = 20 := wdoE_may hf (by rw [hc, atW_nat (oneL_at hk o)]; exact hm)
  exact ⟨e, wdoL_bad e (by decide)⟩
/-- the numbers of a rectangle that may be asked for -/
abbrev okR (r0 r1 r2 r3 : Int) : Prop := ((-1000 ≤ r0 ∧ r0 ≤ 1000) ∧ (-1000 ≤ r1 ∧ r1 ≤ 1000)) ∧ ((-1000 ≤ r2 ∧ r2 ≤ 1000) ∧ (-1000 ≤ r3 ∧ r3 ≤ 1000))
theorem form_cmW {kd cl se r0 r1 r2 r3 : Int} (hk : kd = 6 ∨ kd = 7 ∨ (kd = 8 ∧ r0 = 0 ∧ r1 = 0 ∧ r2 = 0 ∧ r3 = 0)) (hc : 0 ≤ cl ∧ cl ≤ 3) (hs : 0 ≤ se ∧ se ≤ 1000000) (hr : okR r0 r1 r2 r3) : formB (cmW kd cl se r0 r1 r2 r3) = true := by
  have h1 : isCm (cmW kd cl se r0 r1 r2 r3) = true := by
    rw [← isX_isC, isX_iff]
    have z := isF_zero
    have b0 : (-1000 : Int) ≤ 0 ∧ (0 : Int) ≤ 1000 := by decide
    have b1 : (0 : Int) ≤ 0 ∧ (0 : Int) ≤ 1000000 := by decide
    have b2 : (-1 : Int) ≤ 0 ∧ (0 : Int) ≤ 100 := by decide
    refine ⟨?_, hc, hs, ?_, ⟨b0, b0⟩, hr, b1, b2, b2, z, z, z, z, z⟩
    · show 1 ≤ kd ∧ kd ≤ 8
      omega
    · rcases hk with rfl | rfl | ⟨rfl, rfl, rfl, rfl, rfl⟩ <;> rfl
  have h2 : watchB kd = true := by
    rcases hk with rfl | rfl | ⟨rfl, -⟩ <;> rfl
  unfold formB
  rw [h1]
  exact h2
theorem run_min4 {P : Program} (w : World) (ts : Array TypeId) (t : TypeId) (a b c d : Int) : (Builtin.min_ ts t #[.int .i64 a, .int .i64 b, .int .i64 c, .int .i64 d]).run P w = .ok (.int .i64 (min (min (min a b) c) d)) w := by
  have e : ∀ x y : Int, (if y < x then y else x) = min x y := fun x y => by
    rw [Int.min_def]
    split <;> split <;> omega
  simp [Builtin.min_, Builtin.min2, e]
theorem run_max4 {P : Program} (w : World) (ts : Array TypeId) (t : TypeId) (a b c d : Int) : (Builtin.max_ ts t #[.int .i64 a, .int .i64 b, .int .i64 c, .int .i64 d]).run P w = .ok (.int .i64 (max (max (max a b) c) d)) w := by
  have e : ∀ x y : Int, (if y > x then y else x) = max x y := fun x y => by
    rw [Int.max_def]
    split <;> split <;> omega
  simp [Builtin.max_, Builtin.max2, e]
end Go.Proofs.Ythgnmpgdlemdlaa
