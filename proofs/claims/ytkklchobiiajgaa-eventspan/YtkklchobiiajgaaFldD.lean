/- Contracts of Diff, of the package fields and of the reference: what changed of two things. -/
import Derived.Test.YtkklchobiiajgaaFld
namespace Go.Proofs.Ytkklchobiiajgaa
open Go.RowKit
set_option linter.unusedVariables false
theorem index_f0 (W : World) (v0 v1 v2 v3 v4 v5 v6 v7 : Value) : (Instr.index 41 (.agg #[v0, v1, v2, v3, v4, v5, v6, v7]) (.int .i64 0)).run Try.prog W = .ok (.agg #[v0, v1]) W := by kernel_rfl
theorem index_f1 (W : World) (v0 v1 v2 v3 v4 v5 v6 v7 : Value) : (Instr.index 41 (.agg #[v0, v1, v2, v3, v4, v5, v6, v7]) (.int .i64 1)).run Try.prog W = .ok (.agg #[v2, v3]) W := by kernel_rfl
theorem index_f2 (W : World) (v0 v1 v2 v3 v4 v5 v6 v7 : Value) : (Instr.index 41 (.agg #[v0, v1, v2, v3, v4, v5, v6, v7]) (.int .i64 2)).run Try.prog W = .ok (.agg #[v4, v5]) W := by kernel_rfl
theorem index_f3 (W : World) (v0 v1 v2 v3 v4 v5 v6 v7 : Value) : (Instr.index 41 (.agg #[v0, v1, v2, v3, v4, v5, v6, v7]) (.int .i64 3)).run Try.prog W = .ok (.agg #[v6, v7]) W := by kernel_rfl
theorem dK_m (a b : Th) : ∀ k, (dK a b k).m < 2 ^ (k + 1)
  | 0 => by unfold dK; split <;> simp
  | k + 1 => by
    have ih := dK_m a b k
    have h2 : 2 ^ (k + 1) < 2 ^ (k + 1 + 1) := Nat.pow_lt_pow_right (by decide) (by omega)
    unfold dK
    split
    · omega
    · exact Nat.or_lt_two_pow (by omega) h2
theorem dK_m8 {a b : Th} {k : Nat} {D : Dl} (h : dK a b k = D) (hk : k ≤ 4) : D.m < 256 := by
  have := dK_m a b k
  have h2 : 2 ^ (k + 1) ≤ 2 ^ 5 := Nat.pow_le_pow_right (by decide) (by omega)
  rw [h] at this
  omega
theorem dK_same {a b : Th} {k : Nat} {D : Dl} (h : dK a b k = D) (hr : eqF (a.f k) (b.f k) = true) : dK a b (k + 1) = D := by
  rw [dK, if_pos hr, h]
theorem dK_next {a b : Th} {k : Nat} {D : Dl} (h : dK a b k = D) (hr : eqF (a.f k) (b.f k) = false) : dK a b (k + 1) = { D.set k (b.f k) with m := D.m ||| 2 ^ (k + 1) } := by
  rw [dK, if_neg (by rw [hr]; decide), h]
theorem below_set12 {B : Nat} {w w' : World} (h : Below B w w') {g : Nat} (hg : B ≤ g) (v0 v1 v2 v3 v4 v5 v6 v7 v8 v9 v10 v11 : Value) : Below B w ((((((((((((w'.setCell ⟨g, 0, none⟩ v0).setCell ⟨g, 1, none⟩ v1).setCell ⟨g, 2, none⟩ v2).setCell ⟨g, 3, none⟩ v3).setCell ⟨g, 4, none⟩ v4).setCell ⟨g, 5, none⟩ v5).setCell ⟨g, 6, none⟩ v6).setCell ⟨g, 7, none⟩ v7).setCell ⟨g, 8, none⟩ v8).setCell ⟨g, 9, none⟩ v9).setCell ⟨g, 10, none⟩ v10).setCell ⟨g, 11, none⟩ v11) :=
  (((((((((((h.setCell hg v0).setCell hg v1).setCell hg v2).setCell hg v3).setCell hg v4).setCell hg v5).setCell hg v6).setCell hg v7).setCell hg v8).setCell hg v9).setCell hg v10).setCell hg v11
theorem below_set11 {B : Nat} {w w' : World} (h : Below B w w') {g : Nat} (hg : B ≤ g) (v0 v1 v2 v3 v4 v5 v6 v7 v8 v9 v10 : Value) : Below B w (((((((((((w'.setCell ⟨g, 0, none⟩ v0).setCell ⟨g, 1, none⟩ v1).setCell ⟨g, 2, none⟩ v2).setCell ⟨g, 3, none⟩ v3).setCell ⟨g, 4, none⟩ v4).setCell ⟨g, 5, none⟩ v5).setCell ⟨g, 6, none⟩ v6).setCell ⟨g, 7, none⟩ v7).setCell ⟨g, 8, none⟩ v8).setCell ⟨g, 9, none⟩ v9).setCell ⟨g, 10, none⟩ v10) :=
  ((((((((((h.setCell hg v0).setCell hg v1).setCell hg v2).setCell hg v3).setCell hg v4).setCell hg v5).setCell hg v6).setCell hg v7).setCell hg v8).setCell hg v9).setCell hg v10
end Go.Proofs.Ytkklchobiiajgaa
