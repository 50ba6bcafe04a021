/- Plain: what is read of a note's bytes that are cut off, of which one is another; whose bytes are the same. -/
import Derived.Test.YtpedngbjpbeanaaGreatDoorKnown17
namespace Go.Proofs.YtpedngbjpbeanaaGreatDoor
open Go.RowKit
set_option linter.unusedVariables false
theorem turnedH (l tail : List UInt8) (k H : Nat) (b y : UInt8) (hl : l.length ≤ 40000) (hH : (put l.length).length = H) (hk : H ≤ k) (hk2 : k < (wrap l).length) (hb : (wrap l)[k]? = some b) (hy : y ≠ b) : unwrap ((wrap l).set k y ++ tail) = ([], 0, 12) := by
  have ht : text l = put l.length ++ l := rfl
  have hw : (wrap l).length = H + l.length + 4 := by rw [wrap_length, ht, List.length_append, hH]
  by_cases h : k < H + l.length
  · have hb' : l[k - H]? = some b := by
      unfold wrap at hb
      rw [ht, List.append_assoc, List.getElem?_append_right (by omega), hH, List.getElem?_append_left (by omega)] at hb
      exact hb
    obtain ⟨hlt, hb''⟩ := List.getElem?_eq_some_iff.1 hb'
    have e : (wrap l).set k y = text (l.set (k - H) y) ++ four (crc l) := by
      unfold wrap text
      rw [List.length_set, List.append_assoc, List.set_append_right _ _ (by omega), hH, List.set_append_left _ _ (by omega), List.append_assoc]
    rw [e]
    refine unwrap_other _ _ _ (by rw [List.length_set]; omega) (four_length _) fun hf => hy ?_
    have hc := four_inj _ _ (crc_lt _) (crc_lt _) hf
    have e1 : l = l.take (k - H) ++ b :: l.drop (k - H + 1) := by
      conv => lhs; rw [← List.take_append_drop (k - H) l]
      rw [List.drop_eq_getElem_cons hlt, hb'']
    have e2 : l.set (k - H) y = l.take (k - H) ++ y :: l.drop (k - H + 1) := by
      rw [List.set_eq_take_append_cons_drop, if_pos hlt]
    rw [e2] at hc
    conv at hc => lhs; rw [e1]
    exact (crc_turned _ _ _ _ hc).symm
  · have hT : (text l).length = H + l.length := by rw [ht, List.length_append, hH]
    have e : (wrap l).set k y = text l ++ (four (crc l)).set (k - (H + l.length)) y := by
      unfold wrap
      rw [List.set_append_right _ _ (by omega), hT]
    rw [e]
    refine unwrap_other _ _ _ (by omega) (by rw [List.length_set, four_length]) fun hf => hy ?_
    have hb' : (four (crc l))[k - (H + l.length)]? = some b := by
      unfold wrap at hb
      rw [List.getElem?_append_right (by omega), hT] at hb
      exact hb
    rw [← hf, List.getElem?_set_self (by rw [four_length]; omega)] at hb'
    simpa using hb'
theorem bit_xor (b : UInt8) (n : Nat) (hn : n < 8) : ∃ y : UInt8, bits .xor .u8 (b.toNat : Int) (2 ^ n % 256) = (y.toNat : Int) ∧ y ≠ b := by
  have hp : (2 : Nat) ^ n < 2 ^ 8 := Nat.pow_lt_pow_right (by decide) hn
  have hp1 : 1 ≤ (2 : Nat) ^ n := Nat.pow_pos (by decide)
  have hx := u8_xor_nat b.toNat (2 ^ n) b.toNat_lt (by omega)
  have hl : b.toNat ^^^ 2 ^ n < 256 := Nat.xor_lt_two_pow (n := 8) b.toNat_lt hp
  have hy : (UInt8.ofNat (b.toNat ^^^ 2 ^ n)).toNat = b.toNat ^^^ 2 ^ n := by rw [UInt8.toNat_ofNat']; exact Nat.mod_eq_of_lt hl
  refine ⟨UInt8.ofNat (b.toNat ^^^ 2 ^ n), ?_, fun e => ?_⟩
  · rw [hy, ← hx]
    congr 1
    have : ((2 : Int) ^ n) = ((2 ^ n : Nat) : Int) := by norm_cast
    rw [this]; omega
  · have e' := congrArg UInt8.toNat e
    rw [hy] at e'
    have : 2 ^ n = 0 := by
      have := congrArg (b.toNat ^^^ ·) e'
      simp [← Nat.xor_assoc] at this
    omega
theorem read_cut (l : List UInt8) (c : Nat) (hl : l.length ≤ 40000) (hc : c < (wrap l).length) : readNt ((wrap l).take c) = (zN, 0, 10) := readNt_not rfl (unwrap_cut l c hl hc) (by decide)
theorem read_turned {l B tail : List UInt8} {k H : Nat} {b y : UInt8} (hB : wrap l = B) (hl : l.length ≤ 40000) (hH : (put l.length).length = H) (hk : H ≤ k) (hk2 : k < B.length) (hb : B[k]? = some b) (hy : y ≠ b) : readNt (B.set k y ++ tail) = (zN, 0, 12) := by
  subst hB
  exact readNt_not rfl (turnedH l tail k H b y hl hH hk hk2 hb hy) (by decide)
theorem get_wrap {l B : List UInt8} (hB : wrap l = B) (hl : l.length ≤ 40000) : get B = (l.length, (put l.length).length, 0) := by
  rw [← hB]
  unfold wrap text
  rw [List.append_assoc]
  exact get_put l.length (by omega) _
theorem wrap_five {l B : List UInt8} (hB : wrap l = B) : B.length = (put l.length).length + l.length + 4 ∧ 1 ≤ (put l.length).length := by
  have := wrap_length l
  have e : (text l).length = (put l.length).length + l.length := by unfold text; rw [List.length_append]
  have h := (put_length l.length).1
  rw [← hB]
  exact ⟨by omega, by omega⟩
/-- who has these bytes -/
theorem bytes_ok {n : Nt} {T : List UInt8} (h : bytesN n = (T, 0)) : isN n 4 = true ∧ T = wrap (noteB n) ∧ (noteB n).length ≤ 40000 := by
  unfold bytesN at h
  split at h
  · rename_i h1
    split at h
    · simp at h
    · rename_i h2
      simp only [Prod.mk.injEq] at h
      exact ⟨h1, h.1.symm, by omega⟩
  · simp at h
theorem same_wrap {n m : Nt} {B T : List UInt8} {q : Bool} (hn : bytesN n = (B, 0)) (hm : bytesN m = (T, 0)) (fn : FitN n) (fm : FitN m) (hq : q = true ↔ n = m) : (B == T) = q := by
  obtain ⟨i1, rfl, l1⟩ := bytes_ok hn
  obtain ⟨i2, rfl, l2⟩ := bytes_ok hm
  rw [Bool.eq_iff_iff, hq, beq_iff_eq]
  constructor
  · intro h
    exact noteB_inj i1 i2 fn fm (wrap_inj l1 l2 h)
  · intro h
    rw [h]
end Go.Proofs.YtpedngbjpbeanaaGreatDoor
