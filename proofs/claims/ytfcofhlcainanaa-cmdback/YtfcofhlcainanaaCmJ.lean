/- Plain facts: a command spoilt in one part is none. -/
import Derived.Test.YtfcofhlcainanaaCmQ
namespace Go.Proofs.Ytfcofhlcainanaa
open Go.RowKit
set_option linter.unusedVariables false
theorem not_head {c : Cm} (h : (decide (1 ≤ c.kd) && decide (c.kd ≤ 8) && decide (0 ≤ c.cl) && decide (c.cl ≤ 3) && decide (0 ≤ c.se) && decide (c.se ≤ 1000000)) = false) : isC c = false := by
  cases hc : isC c
  · rfl
  · exfalso
    have h1 := (isC_iff.1 hc).1
    have k0 := is_num.1 (h1 (.num 0 1 8) (by unfold partsP; simp [headP]))
    have k1 := is_num.1 (h1 (.num 16 0 3) (by unfold partsP; simp [headP]))
    have k2 := is_num.1 (h1 (.num 17 0 1000000) (by unfold partsP; simp [headP]))
    have e0 : c.i 0 = c.kd := rfl
    have e1 : c.i 16 = c.cl := rfl
    have e2 : c.i 17 = c.se := rfl
    rw [e0] at k0
    rw [e1] at k1
    rw [e2] at k2
    simp [k0, k1, k2] at h
theorem not_tt {c : Cm} (h : c.tt = 101) : isC c = false := by
  cases hc : isC c
  · rfl
  · exfalso
    obtain ⟨h1, h2⟩ := isC_iff.1 hc
    have h2' := congrArg Cm.tt h2
    revert h1 h2'
    clear h2 hc
    generalize c.kd = kd
    unfold partsP
    refine rest_cases (P := fun l => (∀ p ∈ headP ++ l, p.is c = true) → (clrL (headP ++ l) c).tt = zC.tt → False) ?_ ?_ ?_ ?_ ?_ ?_ ?_ kd
    all_goals
      intro h1 h2
    · have : c.tt = 0 := h2
      omega
    · have : c.tt = 0 := h2
      omega
    · have : c.tt = 0 := h2
      omega
    · have : c.tt = 0 := h2
      omega
    · have := (is_num.1 (h1 (.num 3 (-1) 100) (by simp))).2
      have e : c.i 3 = c.tt := rfl
      omega
    · have : c.tt = 0 := h2
      omega
    · have : c.tt = 0 := h2
      omega
theorem not_id {c : Cm} (h : c.id = -1) : isC c = false := by
  cases hc : isC c
  · rfl
  · exfalso
    obtain ⟨h1, h2⟩ := isC_iff.1 hc
    have h2' := congrArg Cm.id h2
    revert h1 h2'
    clear h2 hc
    generalize c.kd = kd
    unfold partsP
    have e : c.i 1 = c.id := rfl
    refine rest_cases (P := fun l => (∀ p ∈ headP ++ l, p.is c = true) → (clrL (headP ++ l) c).id = zC.id → False) ?_ ?_ ?_ ?_ ?_ ?_ ?_ kd
    all_goals
      intro h1 h2
    · have : c.id = 0 := h2
      omega
    · have := (is_num.1 (h1 (.num 1 0 1000000) (by simp))).1
      omega
    · have := (is_num.1 (h1 (.num 1 0 1000000) (by simp))).1
      omega
    · have := (is_num.1 (h1 (.num 1 0 1000000) (by simp))).1
      omega
    · have : c.id = 0 := h2
      omega
    · have : c.id = 0 := h2
      omega
    · have : c.id = 0 := h2
      omega
theorem spoilt_ne {c d : Cm} (hc : isC c = true) (hd : isC d = false) : eqC c d = false := by
  rw [eqC_no]
  rintro rfl
  rw [hc] at hd
  cases hd
theorem spoilt_bytes {d : Cm} (hd : isC d = false) : bytesC d = ([], 11) := by unfold bytesC; rw [hd]; rfl
end Go.Proofs.Ytfcofhlcainanaa
