/- More plain facts: what was written is read, cut off it isn't, how many bytes there are. -/
import Derived.Test.YtkklchobiiajgaaPlain
namespace Go.Proofs.Ytkklchobiiajgaa
open Go.RowKit
def texts (l : List UInt8) (most : Int) : List UInt8 × Nat × Nat :=
  if (get l).2.2 ≠ 0 then ([], 0, (get l).2.2)
  else if max most 0 < (get l).1 then ([], 0, 13)
  else if l.length - (get l).2.1 < (get l).1 then ([], 0, 10)
  else ((l.drop (get l).2.1).take (get l).1, (get l).2.1 + (get l).1, 0)
def text (l : List UInt8) : List UInt8 := put l.length ++ l
theorem getF_ok : ∀ (l : List UInt8) (i acc : Nat), i ≤ 9 → acc < 128 ^ i →
    (getF l i acc).1 ≤ 18446744073709551615 ∧ (getF l i acc).2.1 ≤ i + l.length ∧ (getF l i acc).2.1 ≤ 10 ∧ ((getF l i acc).2.2 = 0 ∨ (getF l i acc).2.2 = 10 ∨ (getF l i acc).2.2 = 11) ∧ ((getF l i acc).2.2 = 0 → i + 1 ≤ (getF l i acc).2.1)
  | [], i, acc, _, _ => by simp [getF]
  | b :: r, i, acc, hi, ha => by
    have hb := b.toNat_lt
    simp only [getF]
    by_cases h1 : i = 9 ∧ 1 < b.toNat
    · rw [if_pos h1]; simp
    · rw [if_neg h1]
      by_cases h2 : 0 < i ∧ b.toNat = 0
      · rw [if_pos h2]; simp
      · rw [if_neg h2]
        by_cases h3 : b.toNat < 128
        · rw [if_pos h3]
          have := (or_add acc b.toNat i ha hi h3 (by omega)).2
          simp only [List.length_cons]
          exact ⟨by omega, by omega, by omega, Or.inl trivial, fun _ => by omega⟩
        · rw [if_neg h3]
          have ih := getF_ok r (i + 1) (acc + (b.toNat - 128) * 128 ^ i) (by omega) (acc_next _ _ _ ha (by omega))
          simp only [List.length_cons]
          omega
theorem get_ok {l : List UInt8} {n k e : Nat} (h : get l = (n, k, e)) : n ≤ 18446744073709551615 ∧ k ≤ l.length ∧ k ≤ 10 ∧ (e = 0 ∨ e = 10 ∨ e = 11) ∧ (e = 0 → 1 ≤ k) := by
  have := getF_ok l 0 0 (by omega) (by omega)
  unfold get at h
  rw [h] at this
  simpa using this
theorem moreB_toNat (n : Nat) : (moreB n).toNat = n % 128 + 128 := by unfold moreB; simp; omega
theorem getF_putF : ∀ (f n i acc : Nat) (tail : List UInt8), i + f = 9 → acc < 128 ^ i → n * 128 ^ i ≤ 18446744073709551615 → (0 < i → 0 < n) →
    getF (putF f n ++ tail) i acc = (acc + n * 128 ^ i, i + (putF f n).length, 0) := by
  intro f
  induction f with
  | zero =>
    intro n i acc tail hi ha hn hp
    obtain rfl : i = 9 := by omega
    have h1 : n ≤ 1 := by
      rcases Nat.lt_or_ge n 2 with h | h
      · omega
      · have : 2 * 128 ^ 9 ≤ n * 128 ^ 9 := Nat.mul_le_mul_right _ h
        omega
    have hl := last_eq n (by omega)
    rw [putF_last _ _ (by omega)]
    simp only [List.cons_append, getF, hl, List.length_cons, List.length_nil]
    rw [if_neg (by omega), if_neg (by omega), if_pos (by omega)]
  | succ f ih =>
    intro n i acc tail hi ha hn hp
    by_cases h : n < 128
    · have hl := last_eq n h
      rw [putF_last _ _ h]
      simp only [List.cons_append, getF, hl, List.length_cons, List.length_nil]
      rw [if_neg (by omega), if_neg (by omega), if_pos (by omega)]
    · have hm := moreB_toNat n
      rw [putF_more _ _ (by omega)]
      simp only [List.cons_append, getF, hm, List.length_cons]
      rw [if_neg (by omega), if_neg (by omega), if_neg (by omega)]
      rw [ih (n / 128) (i + 1) _ tail (by omega) (acc_next _ _ _ ha (by omega)) (m_next n i hn) (by omega)]
      have e : acc + (n % 128 + 128 - 128) * 128 ^ i + n / 128 * 128 ^ (i + 1) = acc + n * 128 ^ i := by
        have h1 : n * 128 ^ i = (n % 128 + 128 * (n / 128)) * 128 ^ i := by rw [Nat.mod_add_div]
        rw [h1, Nat.add_sub_cancel, Nat.pow_succ, Nat.add_mul, Nat.mul_comm 128 (n / 128), Nat.mul_assoc, Nat.mul_comm 128 (128 ^ i)]
        omega
      rw [e]
      congr 2
      omega
theorem get_put (n : Nat) (hn : n ≤ 18446744073709551615) (tail : List UInt8) : get (put n ++ tail) = (n, (put n).length, 0) := by
  unfold get put
  rw [getF_putF 9 n 0 0 tail rfl (by omega) (by omega) (by omega)]
  simp
theorem getF_cut : ∀ (f n i acc c : Nat), i + f = 9 → c < (putF f n).length → getF ((putF f n).take c) i acc = (0, 0, 10) := by
  intro f
  induction f with
  | zero =>
    intro n i acc c _ hc
    simp only [putF, List.length_cons, List.length_nil] at hc
    obtain rfl : c = 0 := by omega
    rfl
  | succ f ih =>
    intro n i acc c hi hc
    by_cases h : n < 128
    · rw [putF_last _ _ h] at hc ⊢
      simp only [List.length_cons, List.length_nil] at hc
      obtain rfl : c = 0 := by omega
      rfl
    · have hm := moreB_toNat n
      rw [putF_more _ _ (by omega)] at hc ⊢
      cases c with
      | zero => rfl
      | succ c =>
        simp only [List.take_succ_cons, getF, hm]
        rw [if_neg (by omega), if_neg (by omega), if_neg (by omega)]
        exact ih _ _ _ c (by omega) (by simpa using hc)
theorem get_cut (n c : Nat) (hc : c < (put n).length) : get ((put n).take c) = (0, 0, 10) := getF_cut 9 n 0 0 c rfl hc
theorem putF_length : ∀ (f n : Nat), 1 ≤ (putF f n).length ∧ (putF f n).length ≤ f + 1 := by
  intro f
  induction f with
  | zero => intro n; simp [putF]
  | succ f ih =>
    intro n
    by_cases h : n < 128
    · rw [putF_last _ _ h]; simp
    · rw [putF_more _ _ (by omega)]; have := ih (n / 128); simp only [List.length_cons]; omega
theorem put_length (n : Nat) : 1 ≤ (put n).length ∧ (put n).length ≤ 10 := putF_length 9 n
theorem put_inj (a b : Nat) (ha : a ≤ 18446744073709551615) (hb : b ≤ 18446744073709551615) (r : List UInt8) (h : put a ++ r = put b) : a = b := by
  have h1 := get_put a ha r
  have h2 := get_put b hb []
  rw [List.append_nil, ← h, h1] at h2
  simpa using congrArg Prod.fst h2
theorem putF_size : ∀ (f n k : Nat), k ≤ 7 * f + 6 → 2 ^ k ≤ n → n < 2 ^ (k + 1) → (putF f n).length = k / 7 + 1 := by
  intro f
  induction f with
  | zero => intro n k hk _ _; simp [putF]; omega
  | succ f ih =>
    intro n k hk h1 h2
    by_cases h : k < 7
    · have : 2 ^ (k + 1) ≤ 2 ^ 7 := Nat.pow_le_pow_right (by decide) (by omega)
      rw [putF_last _ _ (by omega)]; simp; omega
    · obtain ⟨j, rfl⟩ : ∃ j, k = j + 7 := ⟨k - 7, by omega⟩
      have e1 : 2 ^ (j + 7) = 2 ^ j * 128 := by rw [Nat.pow_add]
      have e2 : 2 ^ (j + 7 + 1) = 2 ^ (j + 1) * 128 := by rw [show j + 7 + 1 = (j + 1) + 7 by omega, Nat.pow_add]
      have e3 : 1 ≤ 2 ^ j := Nat.pow_pos (by decide)
      rw [putF_more _ _ (by omega), List.length_cons, ih (n / 128) j (by omega) (by omega) (by omega)]
      omega
theorem putF_high : ∀ (f n i : Nat) (b : UInt8), n < 128 ^ (f + 1) → (putF f n)[i]? = some b → (128 ≤ b.toNat ↔ i + 1 < (putF f n).length) := by
  intro f
  induction f with
  | zero =>
    intro n i b hn hb
    rw [putF_last _ _ (by omega)] at hb ⊢
    have := last_eq n (by omega)
    cases i with
    | zero => simp at hb; subst hb; simp; omega
    | succ i => simp at hb
  | succ f ih =>
    intro n i b hn hb
    by_cases h : n < 128
    · rw [putF_last _ _ h] at hb ⊢
      have := last_eq n h
      cases i with
      | zero => simp at hb; subst hb; simp; omega
      | succ i => simp at hb
    · rw [putF_more _ _ (by omega)] at hb ⊢
      cases i with
      | zero =>
        have h1 := moreB_toNat n
        have := (putF_length f (n / 128)).1
        simp at hb; subst hb; simp only [List.length_cons]; omega
      | succ i =>
        have hn' : n / 128 < 128 ^ (f + 1) := by
          rw [Nat.div_lt_iff_lt_mul (by decide)]; rw [Nat.pow_succ] at hn; exact hn
        have := ih (n / 128) i b hn' (by simpa using hb)
        simp only [List.length_cons]; omega
theorem put_high (n i : Nat) (b : UInt8) (hn : n ≤ 18446744073709551615) (hb : (put n)[i]? = some b) : (128 ≤ b.toNat ↔ i + 1 < (put n).length) :=
  putF_high 9 n i b (by omega) hb
theorem texts_text (l tail : List UInt8) (most : Int) (hl : l.length ≤ 18446744073709551615) (hm : (l.length : Int) ≤ most) : texts (text l ++ tail) most = (l, (put l.length).length + l.length, 0) := by
  have hg := get_put l.length hl (l ++ tail)
  unfold texts text
  rw [List.append_assoc, hg]
  simp only [ne_eq, not_true_eq_false, if_false]
  rw [if_neg (by omega), if_neg (by simp only [List.length_append]; omega)]
  simp
theorem texts_large (l tail : List UInt8) (most : Int) (hl : l.length ≤ 18446744073709551615) (hm : most < (l.length : Int)) (h0 : 0 < l.length) : texts (text l ++ tail) most = ([], 0, 13) := by
  have hg := get_put l.length hl (l ++ tail)
  unfold texts text
  rw [List.append_assoc, hg]
  simp only [ne_eq, not_true_eq_false, if_false]
  rw [if_pos (by omega)]
end Go.Proofs.Ytkklchobiiajgaa
