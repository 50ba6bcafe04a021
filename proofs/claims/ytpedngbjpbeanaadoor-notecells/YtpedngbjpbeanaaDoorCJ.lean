/- Contract of the reference Is; it says what the parts say. -/
import Derived.Test.YtpedngbjpbeanaaDoorCI
import Derived.Deep.Cut
namespace Go.Proofs.YtpedngbjpbeanaaDoor
section
open Go.RowKit
set_option linter.unusedVariables false
def isX0 (c : Cm) : Bool := inJ c.kd 1 8 && (inJ c.cl 0 3 && (inJ c.se 0 1000000 && (eqC c (shapeC c) && (ptI c.x c.y && (rcI c.r0 c.r1 c.r2 c.r3 && (inJ c.id 0 1000000 && (inJ c.wh (-1) 100 && (inJ c.tt (-1) 100 && isF c.va))))))))
def isXk (c : Cm) : Nat → Bool
  | 0 => isX0 c
  | k + 1 => isXk c k && isF (nth4 c k)
def isX (c : Cm) : Bool := isXk c 4
end
section
open Go.RowKit
set_option linter.unusedVariables false
theorem isF_zero : isF zF = true := by decide
theorem inI_iff {n lo hi : Int} : inJ n lo hi = true ↔ lo ≤ n ∧ n ≤ hi := by simp [inJ]
theorem isX_iff {c : Cm} : isX c = true ↔ (1 ≤ c.kd ∧ c.kd ≤ 8) ∧ (0 ≤ c.cl ∧ c.cl ≤ 3) ∧ (0 ≤ c.se ∧ c.se ≤ 1000000) ∧ c = shapeC c ∧ ((-1000 ≤ c.x ∧ c.x ≤ 1000) ∧ (-1000 ≤ c.y ∧ c.y ≤ 1000)) ∧ (((-1000 ≤ c.r0 ∧ c.r0 ≤ 1000) ∧ (-1000 ≤ c.r1 ∧ c.r1 ≤ 1000)) ∧ ((-1000 ≤ c.r2 ∧ c.r2 ≤ 1000) ∧ (-1000 ≤ c.r3 ∧ c.r3 ≤ 1000))) ∧ (0 ≤ c.id ∧ c.id ≤ 1000000) ∧ (-1 ≤ c.wh ∧ c.wh ≤ 100) ∧ (-1 ≤ c.tt ∧ c.tt ≤ 100) ∧ isF c.va = true ∧ isF c.f0 = true ∧ isF c.f1 = true ∧ isF c.f2 = true ∧ isF c.f3 = true := by
  unfold isX isXk isXk isXk isXk isXk isX0 rcI ptI
  simp only [Bool.and_eq_true, inI_iff, eqC_iff, nth4]
  constructor
  · rintro ⟨⟨⟨⟨⟨h1, h2, h3, h4, h5, h6, h7, h8, h9, h10⟩, h11⟩, h12⟩, h13⟩, h14⟩
    exact ⟨h1, h2, h3, h4, h5, h6, h7, h8, h9, h10, h11, h12, h13, h14⟩
  · rintro ⟨h1, h2, h3, h4, h5, h6, h7, h8, h9, h10, h11, h12, h13, h14⟩
    exact ⟨⟨⟨⟨⟨h1, h2, h3, h4, h5, h6, h7, h8, h9, h10⟩, h11⟩, h12⟩, h13⟩, h14⟩
theorem kd_cases {k : Int} (h1 : 1 ≤ k) (h2 : k ≤ 8) : k = 1 ∨ k = 2 ∨ k = 3 ∨ k = 4 ∨ k = 5 ∨ k = 6 ∨ k = 7 ∨ k = 8 := by omega
theorem isX_isC (c : Cm) : isX c = isCm c := by
  rw [Bool.eq_iff_iff, isX_iff, isC_iff]
  obtain ⟨a0, a1, a2, a3, a4, a5, a6, a7, a8, a9, a10, a11, a12, a13, a14, a15, a16⟩ := c
  simp only
  have zF1 := isF_zero
  constructor
  · rintro ⟨⟨k1, k2⟩, h2, h3, h4, h5, h6, h7, h8, h9, h10, h11, h12, h13, h14⟩
    rcases kd_cases k1 k2 with rfl | rfl | rfl | rfl | rfl | rfl | rfl | rfl
    all_goals
      simp [shapeC] at h4
      simp_all [partsP, headP, restP, Pa.is, Cm.i, Cm.f, clrL, Pa.clr, Cm.setI, Cm.setF, zC]
  · rintro ⟨h1, h2⟩
    have k0 := is_num.1 (h1 (.num 0 1 8) (by unfold partsP; simp [headP]))
    rcases kd_cases (k := a0) k0.1 k0.2 with rfl | rfl | rfl | rfl | rfl | rfl | rfl | rfl
    all_goals
      simp [partsP, headP, restP, clrL, Pa.clr, Cm.setI, Cm.setF, zC] at h2
      simp [partsP, headP, restP, Pa.is, Cm.i, Cm.f] at h1
      simp_all [shapeC]
end
end Go.Proofs.YtpedngbjpbeanaaDoor
