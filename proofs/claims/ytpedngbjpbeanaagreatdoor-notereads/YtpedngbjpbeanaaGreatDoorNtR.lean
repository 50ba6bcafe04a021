/- Notes, plain: what is read of whatever bytes. -/
import Derived.Test.YtpedngbjpbeanaaGreatDoorNtA
import Derived.Test.YtpedngbjpbeanaaGreatDoorCJ
namespace Go.Proofs.YtpedngbjpbeanaaGreatDoor
open Go.RowKit
set_option linter.unusedVariables false
/-- a reader: what it takes, and what it takes it for -/
structure RdOk {α : Type} (rd : List UInt8 → α × Nat × Nat) (P : α → Prop) : Prop where
  le : ∀ l, (rd l).2.1 ≤ l.length
  pos : ∀ l, (rd l).2.2 = 0 → 1 ≤ (rd l).2.1 ∧ P (rd l).1
theorem readS_pos (l : List UInt8) : ∀ b, (readS l b).2.2 = 0 → 1 ≤ (readS l b).2.1
  | 0, h => by
    rw [readS] at h ⊢
    unfold headR at h ⊢
    split at h
    · rename_i q; exact absurd h q
    · split at h
      · simp at h
      · rename_i q1 q2
        rw [if_neg q1, if_neg q2]
        show 1 ≤ (pairR l).2.2.1
        unfold pairR at q1 ⊢
        split
        · rename_i q; rw [if_pos q] at q1; exact absurd q q1
        · rename_i q
          split
          · rename_i q'; rw [if_neg q, if_pos q'] at q1; exact absurd q' q1
          · rcases hg : get l with ⟨n, k, e⟩
            rw [hg] at q
            have := (get_ok hg).2.2.2.2 (by simpa using q)
            show 1 ≤ k + _
            omega
  | b + 1, h => by
    rw [readS] at h ⊢
    split at h
    · rename_i q; exact absurd h q
    · rename_i q
      have ih := readS_pos l b (by simpa using q)
      rw [if_neg q]
      split
      · exact ih
      · split <;> (show 1 ≤ _ + _; omega)
theorem readT_rd : RdOk readT (fun t => isT t = true ∧ inT t) := by
  refine ⟨fun l => ?_, fun l h => ?_⟩
  · rcases hr : readT l with ⟨t, n, e⟩
    exact (readT_fits hr).1
  · rcases hr : readT l with ⟨t, n, e⟩
    rw [hr] at h
    obtain ⟨h1, h2, h3, -⟩ := readT_fits hr
    refine ⟨?_, h2 h, h3⟩
    show 1 ≤ n
    have hr2 := hr
    unfold readT at hr
    split at hr
    · rename_i q; simp only [Prod.mk.injEq] at hr; exact absurd (hr.2.2.trans h) q
    · split at hr
      · simp only [Prod.mk.injEq] at hr; have := hr.2.2.trans h; simp at this
      · rename_i q q2
        simp only [Prod.mk.injEq] at hr
        rw [← hr.2.1]
        unfold read at q ⊢
        split
        · rename_i q3; rw [if_pos q3] at q; exact absurd q3 q
        · rename_i q3
          rw [if_neg q3] at q
          split
          · rename_i q4; rw [if_pos q4] at q; simp at q
          · exact readS_pos l 5 (by simpa using q3)
theorem is_fit {c : Cm} (h : isCm c = true) (hn : numsC c) : fitC c := by
  have hX := isX_iff.1 ((isX_isC c).trans h)
  obtain ⟨-, -, -, -, -, -, -, -, -, i4, i0, i1, i2, i3⟩ := hX
  have small : ∀ f : Fl, isF f = true → f.s.size ≤ maxLen := fun f hf => by
    unfold isF at hf
    simp only [Bool.and_eq_true, decide_eq_true_eq] at hf
    unfold maxLen
    omega
  intro k
  refine ⟨?_, hn k⟩
  apply small
  unfold Cm.f
  split <;> assumption
theorem readC_rd : RdOk readC (fun c => isCm c = true ∧ fitC c) := by
  refine ⟨fun l => ?_, fun l h => ?_⟩
  · rcases hr : readC l with ⟨c, n, e⟩
    show n ≤ l.length
    by_cases he : e = 0
    · subst he; exact (read_canon hr).2.2.1
    · have := (read_errC hr he).2.1; omega
  · rcases hr : readC l with ⟨c, n, e⟩
    rw [hr] at h
    have h : e = 0 := h
    subst h
    obtain ⟨h1, h2, h3, h4⟩ := read_canon hr
    refine ⟨?_, h1, is_fit h1 h4⟩
    show 1 ≤ n
    have := told_pos c
    have e2 := congrArg List.length h2
    rw [List.length_append, List.length_drop] at e2
    omega
theorem rdI_le (l : List UInt8) : (rdI l).2.1 ≤ l.length ∧ ((rdI l).2.2 = 0 → 1 ≤ (rdI l).2.1) := by
  rcases hg : get l with ⟨n, k, e⟩
  unfold rdI
  rw [hg]
  exact ⟨(get_ok hg).2.1, (get_ok hg).2.2.2.2⟩
theorem readH_rd : RdOk readH (fun _ => True) := by
  have hd : ∀ l : List UInt8, readH l = if (rdI l).2.2 ≠ 0 then (⟨(rdI l).1, 0⟩, 0, (rdI l).2.2) else if (rdI (l.drop (rdI l).2.1)).2.2 ≠ 0 then (⟨(rdI l).1, (rdI (l.drop (rdI l).2.1)).1⟩, 0, (rdI (l.drop (rdI l).2.1)).2.2) else (⟨(rdI l).1, (rdI (l.drop (rdI l).2.1)).1⟩, (rdI l).2.1 + (rdI (l.drop (rdI l).2.1)).2.1, 0) := fun l => by
    unfold readH
    rw [runP, List.drop_zero]
    show (if (rdI l).2.2 ≠ 0 then _ else runP stepH l [1] ⟨(rdI l).1, 0⟩ (0 + (rdI l).2.1)) = _
    rw [runP, Nat.zero_add]
    rfl
  refine ⟨fun l => ?_, fun l h => ?_⟩
  · rw [hd]
    split
    · exact Nat.zero_le _
    · split
      · exact Nat.zero_le _
      · have h1 := rdI_le l
        have h2 := rdI_le (l.drop (rdI l).2.1)
        rw [List.length_drop] at h2
        show _ + _ ≤ _
        omega
  · rw [hd] at h ⊢
    split at h
    · rename_i q; exact absurd h q
    · split at h
      · rename_i q; exact absurd h q
      · rename_i q q2
        rw [if_neg q, if_neg q2]
        have h1 := (rdI_le l).2 (by simpa using q)
        exact ⟨by show 1 ≤ _ + _; omega, trivial⟩
section
variable {α : Type} {rd : List UInt8 → α × Nat × Nat} {P : α → Prop}
theorem rdF_bad {l : List UInt8} {k z i e : Nat} {A : List α} {x : α} {r : List α × Nat × Nat} (hr : rdF rd l (k + 1) z A = r) (h : rd (l.drop z) = (x, i, e)) (he : ¬ e = 0) : r = (A, 0, e) := by
  rw [← hr, rdF, h]; simp only; rw [if_pos he]
theorem rdF_next {l : List UInt8} {k z i : Nat} {A : List α} {x : α} {r : List α × Nat × Nat} (hr : rdF rd l (k + 1) z A = r) (h : rd (l.drop z) = (x, i, 0)) : rdF rd l k (z + i) (A ++ [x]) = r := by
  rw [← hr, rdF, h]; rfl
theorem rdF_ok (H : RdOk rd P) {l : List UInt8} : ∀ (k z : Nat) (A : List α) (L : List α) (y e : Nat), rdF rd l k z A = (L, y, e) → z ≤ l.length → A.length ≤ z → (∀ a ∈ A, P a) → y ≤ l.length ∧ L.length ≤ l.length ∧ ∀ a ∈ L, P a
  | 0, z, A, L, y, e, h, hz, hA, hP => by
    simp only [rdF, Prod.mk.injEq] at h
    obtain ⟨rfl, rfl, -⟩ := h
    exact ⟨hz, by omega, hP⟩
  | k + 1, z, A, L, y, e, h, hz, hA, hP => by
    rcases hx : rd (l.drop z) with ⟨x, i, e2⟩
    have h1 := H.le (l.drop z)
    have h2 := H.pos (l.drop z)
    rw [hx, List.length_drop] at h1
    rw [hx] at h2
    simp only at h1 h2
    by_cases he : e2 = 0
    · subst he
      obtain ⟨p1, p2⟩ := h2 rfl
      refine rdF_ok H k (z + i) (A ++ [x]) L y e (rdF_next h hx) (by omega) (by rw [List.length_append]; simp; omega) ?_
      intro a ha
      rcases List.mem_append.1 ha with ha | ha
      · exact hP a ha
      · simp only [List.mem_singleton] at ha
        subst ha
        exact p2
    · have := rdF_bad h hx he
      simp only [Prod.mk.injEq] at this
      obtain ⟨rfl, rfl, rfl⟩ := this
      exact ⟨by omega, by omega, hP⟩
theorem rdL_bad {l : List UInt8} {n i e : Nat} {r : List α × Nat × Nat} (hr : rdL rd l = r) (hg : get l = (n, i, e)) (he : ¬ e = 0) : r = ([], 0, e) := by
  rw [← hr]; unfold rdL; rw [hg]; simp only; rw [if_pos he]
theorem rdL_go {l : List UInt8} {n i : Nat} {r : List α × Nat × Nat} (hr : rdL rd l = r) (hg : get l = (n, i, 0)) : rdF rd l n i [] = r := by
  rw [← hr]; unfold rdL; rw [hg]; rfl
theorem rdL_ok (H : RdOk rd P) {l : List UInt8} {L : List α} {y e : Nat} (h : rdL rd l = (L, y, e)) : y ≤ l.length ∧ L.length ≤ l.length ∧ ∀ a ∈ L, P a := by
  rcases hg : get l with ⟨n, i, x⟩
  by_cases he : x = 0
  · subst he
    exact rdF_ok H n i [] L y e (rdL_go h hg) (get_ok hg).2.1 (Nat.zero_le _) (fun a ha => by simp at ha)
  · have := rdL_bad h hg he
    simp only [Prod.mk.injEq] at this
    obtain ⟨rfl, rfl, rfl⟩ := this
    exact ⟨by omega, by simp, fun a ha => by simp at ha⟩
end
end Go.Proofs.YtpedngbjpbeanaaGreatDoor
