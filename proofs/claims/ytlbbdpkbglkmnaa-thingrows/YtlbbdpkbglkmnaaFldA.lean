/- Contracts of Apply, of the package fields and of the reference: what a delta makes of a thing. -/
import Derived.Test.YtlbbdpkbglkmnaaFld
namespace Go.Proofs.Ytlbbdpkbglkmnaa
open Go.RowKit
set_option linter.unusedVariables false
theorem indexA_f0 (W : World) (v0 v1 v2 v3 v4 v5 v6 v7 : Value) : (Instr.index 26 (.agg #[v0, v1, v2, v3, v4, v5, v6, v7]) (.int .i64 0)).run Try.prog W = .ok (.agg #[v0, v1]) W := by kernel_rfl
theorem indexA_f1 (W : World) (v0 v1 v2 v3 v4 v5 v6 v7 : Value) : (Instr.index 26 (.agg #[v0, v1, v2, v3, v4, v5, v6, v7]) (.int .i64 1)).run Try.prog W = .ok (.agg #[v2, v3]) W := by kernel_rfl
theorem indexA_f2 (W : World) (v0 v1 v2 v3 v4 v5 v6 v7 : Value) : (Instr.index 26 (.agg #[v0, v1, v2, v3, v4, v5, v6, v7]) (.int .i64 2)).run Try.prog W = .ok (.agg #[v4, v5]) W := by kernel_rfl
theorem indexA_f3 (W : World) (v0 v1 v2 v3 v4 v5 v6 v7 : Value) : (Instr.index 26 (.agg #[v0, v1, v2, v3, v4, v5, v6, v7]) (.int .i64 3)).run Try.prog W = .ok (.agg #[v6, v7]) W := by kernel_rfl
def zT : Th := ⟨0, 0, 0, zF, zF, zF, zF⟩
theorem aK_same {t : Th} {d : Dl} {k : Nat} {T : Th} (h : aK t d k = T) (hr : d.m.testBit (k + 1) = false) : aK t d (k + 1) = T := by
  rw [aK, hr, h]; rfl
theorem aK_next {t : Th} {d : Dl} {k : Nat} {T : Th} (h : aK t d k = T) (hr : d.m.testBit (k + 1) = true) : aK t d (k + 1) = T.set k (d.f k) := by
  rw [aK, hr, h]; rfl
theorem has_at {m k : Nat} {r : Bool} (h : m.testBit k = r) (w : World) (hm : m ≤ 255) (hk : k ≤ 4) : Calls Try.prog 48 #[.int .u8 m, .int .i64 k] w fun e w' => e = .returned (.bool r) ∧ w' = w := by
  rw [← h]; exact fields_has w m k hm hk
theorem bit_ne (m k : Nat) (hm : m ≤ 255) : (bits .and .u8 ((m : Int) / 2 ^ k) 1 != 0) = m.testBit k := by
  have h := bit_at m k hm
  have e : ((m : Int) / 2 ^ k) = ((m / 2 ^ k : Nat) : Int) := by simp
  have h1 : m / 2 ^ k ≤ m := Nat.div_le_self _ _
  have h2 := u8_and_nat (m / 2 ^ k) 1 (by omega) (by omega)
  rw [← h, e, show (1 : Int) = ((1 : Nat) : Int) from rfl, h2, Nat.and_one_is_mod]
  rw [Bool.eq_iff_iff]
  simp
  omega
theorem bit_eq0 (m k : Nat) (hm : m ≤ 255) : (bits .and .u8 ((m : Int) / 2 ^ k) 1 == 0) = !m.testBit k := by
  have h := bit_ne m k hm
  rw [← h]
  simp [bne]
theorem below_setT {B : Nat} {w w' : World} (h : Below B w w') {g : Nat} (hg : B ≤ g) (v0 v1 v2 v3 v4 v5 v6 v7 v8 v9 v10 : Value) : Below B w (((((((((((w'.setCell ⟨g, 0, none⟩ v0).setCell ⟨g, 1, none⟩ v1).setCell ⟨g, 2, none⟩ v2).setCell ⟨g, 3, none⟩ v3).setCell ⟨g, 4, none⟩ v4).setCell ⟨g, 5, none⟩ v5).setCell ⟨g, 6, none⟩ v6).setCell ⟨g, 7, none⟩ v7).setCell ⟨g, 8, none⟩ v8).setCell ⟨g, 9, none⟩ v9).setCell ⟨g, 10, none⟩ v10) :=
  ((((((((((h.setCell hg v0).setCell hg v1).setCell hg v2).setCell hg v3).setCell hg v4).setCell hg v5).setCell hg v6).setCell hg v7).setCell hg v8).setCell hg v9).setCell hg v10
end Go.Proofs.Ytlbbdpkbglkmnaa
