/- Plain facts, of no program: what is read is what was put; a frame that is opened, cut off, turned. No conditions beyond those typed. -/
import Derived.Test.YtcolllffjlahbaaNum3
import Derived.Test.YtcolllffjlahbaaSumP
namespace Go.Proofs.Ytcolllffjlahbaa
open Go.RowKit
set_option linter.unusedVariables false
theorem getF_back : ∀ (l : List UInt8) (i acc n j : Nat), i ≤ 9 → getF l i acc = (n, j, 0) →
    ∃ m, n = acc + m * 128 ^ i ∧ i < j ∧ l.take (j - i) = putF (9 - i) m ∧ (0 < i → 0 < m)
  | [], i, acc, n, j, _, h => by simp [getF] at h
  | b :: r, i, acc, n, j, hi, h => by
    have hb := b.toNat_lt
    simp only [getF] at h
    by_cases h1 : i = 9 ∧ 1 < b.toNat
    · rw [if_pos h1] at h; simp at h
    · rw [if_neg h1] at h
      by_cases h2 : 0 < i ∧ b.toNat = 0
      · rw [if_pos h2] at h; simp at h
      · rw [if_neg h2] at h
        by_cases h3 : b.toNat < 128
        · rw [if_pos h3] at h
          cases h
          refine ⟨b.toNat, rfl, by omega, ?_, by omega⟩
          rw [putF_last _ _ h3, show i + 1 - i = 1 by omega]
          simp [lastB]
        · rw [if_neg h3] at h
          obtain ⟨m, e1, e2, e3, e4⟩ := getF_back r (i + 1) _ n j (by omega) h
          refine ⟨(b.toNat - 128) + 128 * m, ?_, by omega, ?_, by omega⟩
          · rw [e1, Nat.pow_succ, Nat.add_mul]
            have : m * (128 ^ i * 128) = 128 * m * 128 ^ i := by ac_rfl
            omega
          · rw [show j - i = (j - (i + 1)) + 1 by omega, List.take_succ_cons, e3, show 9 - i = (9 - (i + 1)) + 1 by omega, putF_more _ _ (by have := e4 (by omega); omega)]
            congr 1
            · apply UInt8.toNat_inj.mp
              rw [moreB_toNat]; omega
            · congr 1; omega
theorem get_back {l : List UInt8} {n j : Nat} (h : get l = (n, j, 0)) : l.take j = put n := by
  obtain ⟨m, e1, e2, e3, e4⟩ := getF_back l 0 0 n j (by omega) h
  have : n = m := by omega
  subst this
  exact e3
theorem texts_front {l b : List UInt8} {m : Int} {k : Nat} (h : texts l m = (b, k, 0)) : l.take k = text b := by
  rcases hg : get l with ⟨n, j, f⟩
  unfold texts at h
  rw [hg] at h
  simp only at h
  split at h
  · simp at h; omega
  · split at h
    · simp at h
    · split at h
      · simp at h
      · cases h
        have hf : f = 0 := by omega
        subst hf
        have hl : ((l.drop j).take n).length = n := by simp; omega
        unfold text
        rw [List.take_add, get_back hg, hl]
theorem unwrap_wrap (l tail : List UInt8) (hl : l.length ≤ 40000) : unwrap (wrap l ++ tail) = (l, (wrap l).length, 0) := by
  have ht := texts_back l (four (crc l) ++ tail) 40000 (by omega) (by omega)
  rw [← List.append_assoc] at ht
  have hw : text l ++ four (crc l) = wrap l := rfl
  rw [hw] at ht
  rw [unwrap_0 ht (by simp [wrap_length]; omega) (by unfold wrap; rw [List.append_assoc, List.drop_left, List.take_left' (four_length _)]), wrap_length]
theorem unwrap_large (l tail : List UInt8) (hl : l.length ≤ 18446744073709551615) (hm : 40000 < l.length) : unwrap (wrap l ++ tail) = ([], 0, 13) := by
  refine unwrap_bad (e := 13) (b := []) (k := 0) ?_ (by omega)
  unfold wrap
  rw [List.append_assoc]
  exact texts_large l _ 40000 hl (by omega) (by omega)
theorem texts_cut (l : List UInt8) (m : Int) (c : Nat) (hl : l.length ≤ 18446744073709551615) (hm : (l.length : Int) ≤ max m 0) (hc : c < (text l).length) : texts ((text l).take c) m = ([], 0, 10) := by
  have hlen : (text l).length = (put l.length).length + l.length := by simp [text]
  by_cases h : c < (put l.length).length
  · have hg := get_cut l.length c h
    unfold texts
    rw [show (text l).take c = (put l.length).take c by unfold text; rw [List.take_append_of_le_length (by omega)], hg]
    simp
  · have e : (text l).take c = put l.length ++ l.take (c - (put l.length).length) := by
      unfold text; rw [List.take_append, List.take_of_length_le (by omega)]
    have hg := get_put l.length hl (l.take (c - (put l.length).length))
    unfold texts
    rw [e, hg]
    simp only [ne_eq, not_true_eq_false, if_false]
    rw [if_neg (by omega), if_pos (by simp; omega)]
theorem unwrap_cut (l : List UInt8) (c : Nat) (hl : l.length ≤ 40000) (hc : c < (wrap l).length) : unwrap ((wrap l).take c) = ([], 0, 10) := by
  rw [wrap_length] at hc
  by_cases h : c < (text l).length
  · have ht := texts_cut l 40000 c (by omega) (by omega) h
    refine unwrap_bad (b := []) (k := 0) ?_ (by omega)
    unfold wrap
    rw [List.take_append_of_le_length (by omega)]
    exact ht
  · have e : (wrap l).take c = text l ++ (four (crc l)).take (c - (text l).length) := by
      unfold wrap; rw [List.take_append, List.take_of_length_le (by omega)]
    have ht := texts_back l ((four (crc l)).take (c - (text l).length)) 40000 (by omega) (by omega)
    rw [e]
    exact unwrap_10 ht (by simp [four_length]; omega)
theorem put_small (n : Nat) (h : n < 128) : put n = [UInt8.ofNat n] := by
  unfold put; rw [putF_last _ _ h]; rfl
/-- other bytes of the same number under the same sum, or another sum under the same bytes -/
theorem unwrap_other (l F tail : List UInt8) (hl : l.length ≤ 40000) (hF : F.length = 4) (hn : F ≠ four (crc l)) : unwrap (text l ++ F ++ tail) = ([], 0, 12) := by
  have ht := texts_back l (F ++ tail) 40000 (by omega) (by omega)
  rw [← List.append_assoc] at ht
  refine unwrap_12 ht (by simp; omega) ?_
  rw [List.append_assoc, List.drop_left, List.take_left' hF]
  exact hn
end Go.Proofs.Ytcolllffjlahbaa
