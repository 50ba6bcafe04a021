/- Plain facts: bytes that are read as a number, as a text, are just those that are told of it. -/
import Derived.Test.YtfcofhlcainanaaFldR
namespace Go.Proofs.Ytfcofhlcainanaa
open Go.RowKit
set_option linter.unusedVariables false
theorem getF_canon : ∀ (l : List UInt8) (i acc N K : Nat), getF l i acc = (N, K, 0) → i ≤ 9 → ∃ m, N = acc + m * 128 ^ i ∧ i < K ∧ l.take (K - i) = putF (9 - i) m ∧ (0 < i → 0 < m)
  | [], i, acc, N, K, h, hi => by simp [getF] at h
  | b :: r, i, acc, N, K, h, hi => by
    have hb := b.toNat_lt
    simp only [getF] at h
    by_cases h1 : i = 9 ∧ 1 < b.toNat
    · rw [if_pos h1] at h; simp at h
    · rw [if_neg h1] at h
      by_cases h2 : 0 < i ∧ b.toNat = 0
      · rw [if_pos h2] at h; simp at h
      · rw [if_neg h2] at h
        by_cases h3 : b.toNat < 128
        · rw [if_pos h3] at h
          simp only [Prod.mk.injEq, and_true] at h
          obtain ⟨rfl, rfl⟩ := h
          refine ⟨b.toNat, rfl, by omega, ?_, by omega⟩
          rw [show i + 1 - i = 1 by omega, putF_last _ _ h3]
          simp [lastB]
        · rw [if_neg h3] at h
          obtain ⟨m, e1, e2, e3, e4⟩ := getF_canon r (i + 1) _ N K h (by omega)
          have hm := e4 (by omega)
          refine ⟨(b.toNat - 128) + m * 128, ?_, by omega, ?_, by omega⟩
          · rw [e1, Nat.pow_succ, Nat.add_mul, Nat.mul_assoc, Nat.mul_comm 128 (128 ^ i)]; omega
          · rw [show K - i = (K - (i + 1)) + 1 by omega, List.take_succ_cons, e3, show 9 - i = (9 - (i + 1)) + 1 by omega, putF_more _ _ (by omega)]
            congr 1
            · unfold moreB
              rw [show (b.toNat - 128 + m * 128) % 128 + 128 = b.toNat by omega]
              simp
            · rw [show (b.toNat - 128 + m * 128) / 128 = m by omega]
theorem get_canon {l : List UInt8} {n k : Nat} (h : get l = (n, k, 0)) : l.take k = put n := by
  obtain ⟨m, e1, e2, e3, e4⟩ := getF_canon l 0 0 n k h (by omega)
  have : n = m := by simpa using e1
  subst this
  simpa [put] using e3
theorem texts_canon {l u : List UInt8} {k : Nat} (h : texts l 12 = (u, k, 0)) : l.take k = text u := by
  rcases hg : get l with ⟨n, i, x⟩
  obtain ⟨h1, h2, h3, h4, h5⟩ := get_ok hg
  unfold texts at h
  rw [hg] at h
  simp only at h
  split at h
  · simp_all
  · split at h
    · simp at h
    · split at h
      · simp at h
      · have hx : x = 0 := by simp_all
        subst hx
        simp only [Prod.mk.injEq, and_true] at h
        obtain ⟨rfl, rfl⟩ := h
        unfold text
        rw [List.take_add, get_canon hg]
        congr 2
        simp only [List.length_take, List.length_drop]
        omega
end Go.Proofs.Ytfcofhlcainanaa
