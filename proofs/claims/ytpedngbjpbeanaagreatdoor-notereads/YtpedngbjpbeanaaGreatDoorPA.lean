/- Numbers and texts as bytes: plain; contracts of num and of the reference. -/
import Derived.Test.YtpedngbjpbeanaaGreatDoorRows
import Derived.WalkKit
import Derived.WalkSpells
import Derived.WalkLawsBesides
import Derived.Handy
import Derived.Lib.BufferWrite
import Derived.Lib.UnsafeStr
import Derived.Laws.MakeOwn
namespace Go.Proofs.YtpedngbjpbeanaaGreatDoor
section
open Go.RowKit
def putF : Nat → Nat → List UInt8
  | 0, n => [UInt8.ofNat n]
  | f+1, n => if n < 128 then [UInt8.ofNat n] else UInt8.ofNat (n % 128 + 128) :: putF f (n / 128)
def moreB (m : Nat) : UInt8 := UInt8.ofNat (m % 128 + 128)
def lastB (m : Nat) : UInt8 := UInt8.ofNat m
def put (n : Nat) : List UInt8 := putF 9 n
def u8s (xs : List UInt8) : List Value := xs.map fun b => .int .u8 b.toNat
theorem strOfU8s (xs : List UInt8) : strOfNums (xs.map fun b => (b.toNat : Int)) = ⟨xs.toArray⟩ := by
  unfold strOfNums
  congr 2
  rw [List.map_map]
  conv => rhs; rw [← List.map_id xs]
  apply List.map_congr_left
  intro a _
  simp
theorem u8s_append (xs ys : List UInt8) : u8s (xs ++ ys) = u8s xs ++ u8s ys := by simp [u8s]
theorem convert_own {P : Program} {w : World} {base src dst e g n cap : Nat} {xs : List UInt8} (hs : P.underlying src = some (.slice e)) (he : P.underlying e = some (.int .u8)) (hd : P.underlying dst = some .string)
    (h : w.ownsRow base e 1 (.slice (some ⟨g, 0, none⟩) n cap) n (u8s xs)) (hn : xs.length = n) :
    (convert src dst (.slice (some ⟨g, 0, none⟩) n cap)).run P w = .ok (.string ⟨xs.toArray⟩) w := by
  rw [← strOfU8s]
  refine run_convert_bytes_arg w src e hs he g 0 n cap _ (by simpa using hn) (fun i hi => ?_) dst hd
  have := h.cellAt i (by omega)
  rw [Nat.zero_add, this]
  simp [u8s, List.getD, hn, hi]
theorem m_bound (m k : Nat) (h : m * 128 ^ k ≤ 18446744073709551615) : m ≤ 18446744073709551615 :=
  Nat.le_trans (Nat.le_mul_of_pos_right m (Nat.pow_pos (by decide))) h
theorem k_bound (m k : Nat) (h : m * 128 ^ k ≤ 18446744073709551615) (hm : 128 ≤ m) : k ≤ 8 := by
  rcases Nat.lt_or_ge k 9 with h1 | h1
  · omega
  · have h2 : 128 ^ 9 ≤ 128 ^ k := Nat.pow_le_pow_right (by decide) h1
    have h3 : 128 * 128 ^ 9 ≤ m * 128 ^ k := Nat.mul_le_mul hm h2
    omega
theorem m_next (m k : Nat) (h : m * 128 ^ k ≤ 18446744073709551615) : m / 128 * 128 ^ (k + 1) ≤ 18446744073709551615 := by
  refine Nat.le_trans ?_ h
  rw [Nat.pow_succ, Nat.mul_comm (128 ^ k) 128, ← Nat.mul_assoc]
  exact Nat.mul_le_mul_right _ (Nat.div_mul_le_self m 128)
theorem putF_more (f m : Nat) (h : 128 ≤ m) : putF (f + 1) m = moreB m :: putF f (m / 128) := by
  simp only [putF]; rw [if_neg (by omega)]; rfl
theorem putF_last (f m : Nat) (h : m < 128) : putF f m = [lastB m] := by
  cases f with
  | zero => rfl
  | succ f => simp only [putF]; rw [if_pos h]; rfl
theorem put_next {n m k : Nat} {xs : List UInt8} (h : xs ++ putF (9 - k) m = put n) (hm : 128 ≤ m) (hk : k ≤ 8) :
    (xs ++ [moreB m]) ++ putF (9 - (k + 1)) (m / 128) = put n := by
  rw [← h, show 9 - k = (9 - (k + 1)) + 1 by omega, putF_more _ _ hm]; simp
set_option maxRecDepth 10000 in
theorem or128 (m : Nat) : bits .or .u8 ((m : Int) % 256) 128 = ((moreB m).toNat : Int) := by
  have e : ((m : Int) % 256) = ((m % 256 : Nat) : Int) := by omega
  rw [e]
  have := u8_or_nat (m % 256) 128 (by omega) (by omega)
  rw [show ((128 : Nat) : Int) = 128 from rfl] at this
  rw [this]
  have h2 : m % 256 ||| 128 = m % 128 + 128 := by
    have h3 : ∀ x : Fin 256, x.val ||| 128 = x.val % 128 + 128 := by decide
    have := h3 ⟨m % 256, by omega⟩
    simp only at this
    rw [this]; omega
  rw [h2]
  simp [moreB]
  omega
theorem last_eq (m : Nat) (h : m < 128) : (lastB m).toNat = m := by
  simp [lastB]; omega
def getF : List UInt8 → Nat → Nat → Nat × Nat × Nat
  | [], _, _ => (0, 0, 10)
  | b :: r, i, acc =>
    if i = 9 ∧ 1 < b.toNat then (0, 0, 11)
    else if 0 < i ∧ b.toNat = 0 then (0, 0, 11)
    else if b.toNat < 128 then (acc + b.toNat * 128 ^ i, i + 1, 0)
    else getF r (i + 1) (acc + (b.toNat - 128) * 128 ^ i)
def get (l : List UInt8) : Nat × Nat × Nat := getF l 0 0
theorem getF_at (s : ByteArray) (k acc : Nat) (h : k < s.size) : getF (s.data.toList.drop k) k acc =
    if k = 9 ∧ 1 < s[k].toNat then (0, 0, 11)
    else if 0 < k ∧ s[k].toNat = 0 then (0, 0, 11)
    else if s[k].toNat < 128 then (acc + s[k].toNat * 128 ^ k, k + 1, 0)
    else getF (s.data.toList.drop (k + 1)) (k + 1) (acc + (s[k].toNat - 128) * 128 ^ k) := by
  rw [List.drop_eq_getElem_cons (show k < s.data.toList.length from h)]
  rfl
theorem getF_bad9 {s : ByteArray} {k acc : Nat} {h : k < s.size} {r : Nat × Nat × Nat} (e : getF (s.data.toList.drop k) k acc = r) (h1 : (k : Int) = 9) (h2 : 1 < (s[k].toNat : Int)) : r = (0, 0, 11) := by
  rw [← e, getF_at s k acc h, if_pos (by omega)]
theorem getF_bad0 {s : ByteArray} {k acc : Nat} {h : k < s.size} {r : Nat × Nat × Nat} (e : getF (s.data.toList.drop k) k acc = r) (h1 : 0 < k) (h2 : ((s[k].toNat : Int) == 0) = true) : r = (0, 0, 11) := by
  rw [beq_iff_eq] at h2
  rw [← e, getF_at s k acc h, if_neg (by omega), if_pos (by omega)]
theorem getF_end {s : ByteArray} {k acc : Nat} {h : k < s.size} {r : Nat × Nat × Nat} (e : getF (s.data.toList.drop k) k acc = r) (h1 : (k : Int) = 9 → (s[k].toNat : Int) ≤ 1) (h2 : 0 < k → ((s[k].toNat : Int) == 0) = false) (h3 : (s[k].toNat : Int) < 128) : r = (acc + s[k].toNat * 128 ^ k, k + 1, 0) := by
  have h2' : 0 < k → ¬ (s[k].toNat : Int) = 0 := fun h => by simpa using h2 h
  rw [← e, getF_at s k acc h, if_neg (by omega), if_neg (by omega), if_pos (by omega)]
theorem getF_go {s : ByteArray} {k acc : Nat} {h : k < s.size} {r : Nat × Nat × Nat} (e : getF (s.data.toList.drop k) k acc = r) (h1 : ¬ (k : Int) = 9) (h3 : 128 ≤ (s[k].toNat : Int)) : getF (s.data.toList.drop (k + 1)) (k + 1) (acc + (s[k].toNat - 128) * 128 ^ k) = r := by
  rw [← e, getF_at s k acc h, if_neg (by omega), if_neg (by omega), if_neg (by omega)]
theorem getF_out {s : ByteArray} {k acc : Nat} {r : Nat × Nat × Nat} (e : getF (s.data.toList.drop k) k acc = r) (h : ¬ k < s.size) : r = (0, 0, 10) := by
  rw [← e, List.drop_eq_nil_of_le (show s.data.toList.length ≤ k from Nat.le_of_not_lt h)]; rfl
theorem pow_128 (k : Nat) : 128 ^ k = 2 ^ (7 * k) := by rw [Nat.pow_mul]
theorem or_add (acc b k : Nat) (h : acc < 128 ^ k) (hk : k ≤ 9) (hb : b < 128) (h9 : k = 9 → b ≤ 1) : (acc ||| b * 128 ^ k) = acc + b * 128 ^ k ∧ acc + b * 128 ^ k < 18446744073709551616 := by
  rw [pow_128] at *
  constructor
  · rw [Nat.or_comm, Nat.add_comm]
    exact nat_join (7 * k) _ _ (Nat.mul_mod_left _ _) h
  · have e : acc + b * 2 ^ (7 * k) < (b + 1) * 2 ^ (7 * k) := by rw [Nat.add_mul]; omega
    refine Nat.lt_of_lt_of_le e ?_
    rcases Nat.lt_or_ge k 9 with h1 | h1
    · have : (b + 1) * 2 ^ (7 * k) ≤ 128 * 2 ^ 56 := Nat.mul_le_mul (by omega) (Nat.pow_le_pow_right (by decide) (by omega))
      omega
    · obtain rfl : k = 9 := by omega
      have := h9 rfl
      have : (b + 1) * 2 ^ (7 * 9) ≤ 2 * 2 ^ 63 := Nat.mul_le_mul (by omega) (by decide)
      omega
theorem or_walk (acc b k : Nat) (h : acc < 128 ^ k) (hk : k ≤ 9) (hb : b < 128) (h9 : k = 9 → b ≤ 1) : bits .or .u64 (acc : Int) (IntKind.u64.wrap ((b : Int) * 2 ^ (7 * k))) = ((acc + b * 128 ^ k : Nat) : Int) := by
  obtain ⟨h1, h2⟩ := or_add acc b k h hk hb h9
  have e : (b : Int) * 2 ^ (7 * k) = ((b * 128 ^ k : Nat) : Int) := by rw [pow_128]; simp
  rw [e, IntWalk.u64_in _ ⟨by omega, by omega⟩]
  rw [u64_or_nat _ _ (by omega) (by omega), h1]
theorem or_walk9 (acc b k : Nat) (h : acc < 128 ^ k) (hk : (k : Int) = 9) (hb : (b : Int) ≤ 1) : bits .or .u64 (acc : Int) ((b : Int) * 9223372036854775808) = ((acc + b * 128 ^ k : Nat) : Int) := by
  obtain rfl : k = 9 := by omega
  rw [← or_walk acc b 9 h (by omega) (by omega) (by omega), IntWalk.u64_in _ ⟨by omega, by omega⟩, show (2 : Int) ^ (7 * 9) = 9223372036854775808 by simp]
theorem or_more (acc b k : Nat) (h : acc < 128 ^ k) (hk : k ≤ 9) (hk' : ¬ (k : Int) = 9) (hb : 128 ≤ (b : Int)) (hb' : b < 256) : bits .or .u64 (acc : Int) (IntKind.u64.wrap (((b : Int) - 128) % 256 * 2 ^ (7 * k))) = ((acc + (b - 128) * 128 ^ k : Nat) : Int) := by
  rw [← or_walk acc (b - 128) k h hk (by omega) (by omega), show ((b : Int) - 128) % 256 = ((b - 128 : Nat) : Int) by omega]
theorem acc_next (acc b k : Nat) (h : acc < 128 ^ k) (hb : b < 128) : acc + b * 128 ^ k < 128 ^ (k + 1) := by
  have e : acc + b * 128 ^ k < (b + 1) * 128 ^ k := by rw [Nat.add_mul]; omega
  refine Nat.lt_of_lt_of_le e ?_
  rw [Nat.pow_succ, Nat.mul_comm (128 ^ k) 128]
  exact Nat.mul_le_mul_right _ (by omega)
theorem fin3 {a b c a' b' c' : Int} (h1 : a = a') (h2 : b = b') (h3 : c = c') : Ending.returned (.tuple #[.int .u64 a, .int .i64 b, .int .i64 c]) = .returned (.tuple #[.int .u64 a', .int .i64 b', .int .i64 c']) := by rw [h1, h2, h3]
def zig (z : Int) : Nat := (if 0 ≤ z then 2 * z else -2 * z - 1).toNat
def zag (n : Nat) : Int := if n % 2 = 0 then ((n / 2 : Nat) : Int) else - ((n / 2 : Nat) : Int) - 1
theorem zig_nonneg (z : Int) (h : 0 ≤ z) : (zig z : Int) = 2 * z := by unfold zig; rw [if_pos h]; omega
theorem zig_neg (z : Int) (h : z < 0) : (zig z : Int) = -2 * z - 1 := by unfold zig; rw [if_neg (by omega)]; omega
theorem zig_le (z : Int) (h0 : -9223372036854775808 ≤ z) (h1 : z ≤ 9223372036854775807) : zig z ≤ 18446744073709551615 := by
  rcases Int.lt_or_le z 0 with h | h
  · have := zig_neg z h; omega
  · have := zig_nonneg z h; omega
theorem zag_even (n : Nat) (h : n % 2 = 0) : zag n = ((n / 2 : Nat) : Int) := by unfold zag; rw [if_pos h]
theorem zag_odd (n : Nat) (h : ¬ n % 2 = 0) : zag n = - ((n / 2 : Nat) : Int) - 1 := by unfold zag; rw [if_neg h]
theorem zag_le (n : Nat) (h : n ≤ 18446744073709551615) : -9223372036854775808 ≤ zag n ∧ zag n ≤ 9223372036854775807 := by
  by_cases he : n % 2 = 0
  · rw [zag_even n he]; omega
  · rw [zag_odd n he]; omega
theorem zag_zig (z : Int) : zag (zig z) = z := by
  rcases Int.lt_or_le z 0 with h | h
  · have := zig_neg z h; rw [zag_odd _ (by omega)]; omega
  · have := zig_nonneg z h; rw [zag_even _ (by omega)]; omega
theorem zig_zag (n : Nat) : zig (zag n) = n := by
  by_cases he : n % 2 = 0
  · have := zig_nonneg (zag n) (by rw [zag_even n he]; omega); rw [zag_even n he] at *; omega
  · have := zig_neg (zag n) (by rw [zag_odd n he]; omega); rw [zag_odd n he] at *; omega
theorem xor_u64_ones (a : Nat) (h : a ≤ 18446744073709551615) : bits .xor .u64 (a : Int) 18446744073709551615 = 18446744073709551615 - a := by
  have h1 : BitVec.ofInt 64 18446744073709551615 = BitVec.allOnes 64 := by decide
  show IntKind.u64.wrap ((BitVec.ofInt 64 (a : Int) ^^^ BitVec.ofInt 64 18446744073709551615).toNat : Int) = _
  rw [h1, BitVec.xor_allOnes, BitVec.toNat_not, ofInt_u64 a (by omega), IntKind.wrap_u64]
  omega
theorem xor_i64_ones (a : Nat) (h : a ≤ 9223372036854775807) : bits .xor .i64 (a : Int) (-1) = - a - 1 := by
  have h1 : BitVec.ofInt 64 (-1) = BitVec.allOnes 64 := by decide
  show IntKind.i64.wrap ((BitVec.ofInt 64 (a : Int) ^^^ BitVec.ofInt 64 (-1)).toNat : Int) = _
  rw [h1, BitVec.xor_allOnes, BitVec.toNat_not, ofInt_u64 a (by omega), IntKind.wrap_i64]
  omega
theorem xor_i64_zero (a : Nat) (h : a ≤ 9223372036854775807) : bits .xor .i64 (a : Int) 0 = a := by
  show IntKind.i64.wrap ((BitVec.ofInt 64 (a : Int) ^^^ BitVec.ofInt 64 0).toNat : Int) = _
  rw [show BitVec.ofInt 64 0 = 0#64 by decide, BitVec.xor_zero, ofInt_u64 a (by omega), IntKind.wrap_i64]
  omega
theorem zig_walk (z : Int) (h0 : -9223372036854775808 ≤ z) (h1 : z ≤ 9223372036854775807) :
    bits .xor .u64 (IntKind.u64.wrap (IntKind.u64.wrap z * 2)) (IntKind.u64.wrap (z / 9223372036854775808)) = (zig z : Int) := by
  simp only [IntKind.wrap_u64]
  rcases Int.lt_or_le z 0 with h | h
  · have e1 : z % 18446744073709551616 * 2 % 18446744073709551616 = (((2 * z + 18446744073709551616).toNat : Nat) : Int) := by omega
    have e2 : z / 9223372036854775808 % 18446744073709551616 = 18446744073709551615 := by omega
    rw [e1, e2, xor_u64_ones _ (by omega), zig_neg z h]; omega
  · have e1 : z % 18446744073709551616 * 2 % 18446744073709551616 = (((2 * z).toNat : Nat) : Int) := by omega
    have e2 : z / 9223372036854775808 % 18446744073709551616 = ((0 : Nat) : Int) := by omega
    rw [e1, e2, u64_xor_nat _ _ (by omega) (by omega), Nat.xor_zero, zig_nonneg z h]; omega
theorem zag_walk (n : Nat) (h1 : n ≤ 18446744073709551615) :
    bits .xor .i64 ((n : Int) / 2) (wrap64 (-wrap64 (bits .and .u64 (n : Int) 1))) = zag n := by
  have e : bits .and .u64 (n : Int) 1 = ((n % 2 : Nat) : Int) := by
    have := u64_and_nat n 1 (by omega) (by omega)
    rw [nat_mask1] at this
    exact this
  rw [e, show (n : Int) / 2 = ((n / 2 : Nat) : Int) by omega]
  by_cases he : n % 2 = 0
  · rw [he, show wrap64 (-wrap64 ((0 : Nat) : Int)) = 0 by simp only [wrap64]; omega, xor_i64_zero _ (by omega), zag_even n he]
  · rw [show n % 2 = 1 by omega, show wrap64 (-wrap64 ((1 : Nat) : Int)) = -1 by simp only [wrap64]; omega, xor_i64_ones _ (by omega), zag_odd n he]
end
section
open Go.RowKit
def texts (l : List UInt8) (most : Int) : List UInt8 × Nat × Nat :=
  if (get l).2.2 ≠ 0 then ([], 0, (get l).2.2)
  else if max most 0 < (get l).1 then ([], 0, 13)
  else if l.length - (get l).2.1 < (get l).1 then ([], 0, 10)
  else ((l.drop (get l).2.1).take (get l).1, (get l).2.1 + (get l).1, 0)
def text (l : List UInt8) : List UInt8 := put l.length ++ l
theorem getF_ok : ∀ (l : List UInt8) (i acc : Nat), i ≤ 9 → acc < 128 ^ i →
    (getF l i acc).1 ≤ 18446744073709551615 ∧ (getF l i acc).2.1 ≤ i + l.length ∧ (getF l i acc).2.1 ≤ 10 ∧ ((getF l i acc).2.2 = 0 ∨ (getF l i acc).2.2 = 10 ∨ (getF l i acc).2.2 = 11) ∧ ((getF l i acc).2.2 = 0 → i + 1 ≤ (getF l i acc).2.1)
  | [], i, acc, _, _ => by simp [getF]
  | b :: r, i, acc, hi, ha => by
    have hb := b.toNat_lt
    simp only [getF]
    by_cases h1 : i = 9 ∧ 1 < b.toNat
    · rw [if_pos h1]; simp
    · rw [if_neg h1]
      by_cases h2 : 0 < i ∧ b.toNat = 0
      · rw [if_pos h2]; simp
      · rw [if_neg h2]
        by_cases h3 : b.toNat < 128
        · rw [if_pos h3]
          have := (or_add acc b.toNat i ha hi h3 (by omega)).2
          simp only [List.length_cons]
          exact ⟨by omega, by omega, by omega, Or.inl trivial, fun _ => by omega⟩
        · rw [if_neg h3]
          have ih := getF_ok r (i + 1) (acc + (b.toNat - 128) * 128 ^ i) (by omega) (acc_next _ _ _ ha (by omega))
          simp only [List.length_cons]
          omega
theorem get_ok {l : List UInt8} {n k e : Nat} (h : get l = (n, k, e)) : n ≤ 18446744073709551615 ∧ k ≤ l.length ∧ k ≤ 10 ∧ (e = 0 ∨ e = 10 ∨ e = 11) ∧ (e = 0 → 1 ≤ k) := by
  have := getF_ok l 0 0 (by omega) (by omega)
  unfold get at h
  rw [h] at this
  simpa using this
theorem moreB_toNat (n : Nat) : (moreB n).toNat = n % 128 + 128 := by unfold moreB; simp; omega
theorem getF_putF : ∀ (f n i acc : Nat) (tail : List UInt8), i + f = 9 → acc < 128 ^ i → n * 128 ^ i ≤ 18446744073709551615 → (0 < i → 0 < n) →
    getF (putF f n ++ tail) i acc = (acc + n * 128 ^ i, i + (putF f n).length, 0) := by
  intro f
  induction f with
  | zero =>
    intro n i acc tail hi ha hn hp
    obtain rfl : i = 9 := by omega
    have h1 : n ≤ 1 := by
      rcases Nat.lt_or_ge n 2 with h | h
      · omega
      · have : 2 * 128 ^ 9 ≤ n * 128 ^ 9 := Nat.mul_le_mul_right _ h
        omega
    have hl := last_eq n (by omega)
    rw [putF_last _ _ (by omega)]
    simp only [List.cons_append, getF, hl, List.length_cons, List.length_nil]
    rw [if_neg (by omega), if_neg (by omega), if_pos (by omega)]
  | succ f ih =>
    intro n i acc tail hi ha hn hp
    by_cases h : n < 128
    · have hl := last_eq n h
      rw [putF_last _ _ h]
      simp only [List.cons_append, getF, hl, List.length_cons, List.length_nil]
      rw [if_neg (by omega), if_neg (by omega), if_pos (by omega)]
    · have hm := moreB_toNat n
      rw [putF_more _ _ (by omega)]
      simp only [List.cons_append, getF, hm, List.length_cons]
      rw [if_neg (by omega), if_neg (by omega), if_neg (by omega)]
      rw [ih (n / 128) (i + 1) _ tail (by omega) (acc_next _ _ _ ha (by omega)) (m_next n i hn) (by omega)]
      have e : acc + (n % 128 + 128 - 128) * 128 ^ i + n / 128 * 128 ^ (i + 1) = acc + n * 128 ^ i := by
        have h1 : n * 128 ^ i = (n % 128 + 128 * (n / 128)) * 128 ^ i := by rw [Nat.mod_add_div]
        rw [h1, Nat.add_sub_cancel, Nat.pow_succ, Nat.add_mul, Nat.mul_comm 128 (n / 128), Nat.mul_assoc, Nat.mul_comm 128 (128 ^ i)]
        omega
      rw [e]
      congr 2
      omega
theorem get_put (n : Nat) (hn : n ≤ 18446744073709551615) (tail : List UInt8) : get (put n ++ tail) = (n, (put n).length, 0) := by
  unfold get put
  rw [getF_putF 9 n 0 0 tail rfl (by omega) (by omega) (by omega)]
  simp
theorem getF_cut : ∀ (f n i acc c : Nat), i + f = 9 → c < (putF f n).length → getF ((putF f n).take c) i acc = (0, 0, 10) := by
  intro f
  induction f with
  | zero =>
    intro n i acc c _ hc
    simp only [putF, List.length_cons, List.length_nil] at hc
    obtain rfl : c = 0 := by omega
    rfl
  | succ f ih =>
    intro n i acc c hi hc
    by_cases h : n < 128
    · rw [putF_last _ _ h] at hc ⊢
      simp only [List.length_cons, List.length_nil] at hc
      obtain rfl : c = 0 := by omega
      rfl
    · have hm := moreB_toNat n
      rw [putF_more _ _ (by omega)] at hc ⊢
      cases c with
      | zero => rfl
      | succ c =>
        simp only [List.take_succ_cons, getF, hm]
        rw [if_neg (by omega), if_neg (by omega), if_neg (by omega)]
        exact ih _ _ _ c (by omega) (by simpa using hc)
theorem get_cut (n c : Nat) (hc : c < (put n).length) : get ((put n).take c) = (0, 0, 10) := getF_cut 9 n 0 0 c rfl hc
theorem putF_length : ∀ (f n : Nat), 1 ≤ (putF f n).length ∧ (putF f n).length ≤ f + 1 := by
  intro f
  induction f with
  | zero => intro n; simp [putF]
  | succ f ih =>
    intro n
    by_cases h : n < 128
    · rw [putF_last _ _ h]; simp
    · rw [putF_more _ _ (by omega)]; have := ih (n / 128); simp only [List.length_cons]; omega
theorem put_length (n : Nat) : 1 ≤ (put n).length ∧ (put n).length ≤ 10 := putF_length 9 n
theorem put_inj (a b : Nat) (ha : a ≤ 18446744073709551615) (hb : b ≤ 18446744073709551615) (r : List UInt8) (h : put a ++ r = put b) : a = b := by
  have h1 := get_put a ha r
  have h2 := get_put b hb []
  rw [List.append_nil, ← h, h1] at h2
  simpa using congrArg Prod.fst h2
theorem putF_size : ∀ (f n k : Nat), k ≤ 7 * f + 6 → 2 ^ k ≤ n → n < 2 ^ (k + 1) → (putF f n).length = k / 7 + 1 := by
  intro f
  induction f with
  | zero => intro n k hk _ _; simp [putF]; omega
  | succ f ih =>
    intro n k hk h1 h2
    by_cases h : k < 7
    · have : 2 ^ (k + 1) ≤ 2 ^ 7 := Nat.pow_le_pow_right (by decide) (by omega)
      rw [putF_last _ _ (by omega)]; simp; omega
    · obtain ⟨j, rfl⟩ : ∃ j, k = j + 7 := ⟨k - 7, by omega⟩
      have e1 : 2 ^ (j + 7) = 2 ^ j * 128 := by rw [Nat.pow_add]
      have e2 : 2 ^ (j + 7 + 1) = 2 ^ (j + 1) * 128 := by rw [show j + 7 + 1 = (j + 1) + 7 by omega, Nat.pow_add]
      have e3 : 1 ≤ 2 ^ j := Nat.pow_pos (by decide)
      rw [putF_more _ _ (by omega), List.length_cons, ih (n / 128) j (by omega) (by omega) (by omega)]
      omega
theorem putF_high : ∀ (f n i : Nat) (b : UInt8), n < 128 ^ (f + 1) → (putF f n)[i]? = some b → (128 ≤ b.toNat ↔ i + 1 < (putF f n).length) := by
  intro f
  induction f with
  | zero =>
    intro n i b hn hb
    rw [putF_last _ _ (by omega)] at hb ⊢
    have := last_eq n (by omega)
    cases i with
    | zero => simp at hb; subst hb; simp; omega
    | succ i => simp at hb
  | succ f ih =>
    intro n i b hn hb
    by_cases h : n < 128
    · rw [putF_last _ _ h] at hb ⊢
      have := last_eq n h
      cases i with
      | zero => simp at hb; subst hb; simp; omega
      | succ i => simp at hb
    · rw [putF_more _ _ (by omega)] at hb ⊢
      cases i with
      | zero =>
        have h1 := moreB_toNat n
        have := (putF_length f (n / 128)).1
        simp at hb; subst hb; simp only [List.length_cons]; omega
      | succ i =>
        have hn' : n / 128 < 128 ^ (f + 1) := by
          rw [Nat.div_lt_iff_lt_mul (by decide)]; rw [Nat.pow_succ] at hn; exact hn
        have := ih (n / 128) i b hn' (by simpa using hb)
        simp only [List.length_cons]; omega
theorem put_high (n i : Nat) (b : UInt8) (hn : n ≤ 18446744073709551615) (hb : (put n)[i]? = some b) : (128 ≤ b.toNat ↔ i + 1 < (put n).length) :=
  putF_high 9 n i b (by omega) hb
theorem texts_text (l tail : List UInt8) (most : Int) (hl : l.length ≤ 18446744073709551615) (hm : (l.length : Int) ≤ most) : texts (text l ++ tail) most = (l, (put l.length).length + l.length, 0) := by
  have hg := get_put l.length hl (l ++ tail)
  unfold texts text
  rw [List.append_assoc, hg]
  simp only [ne_eq, not_true_eq_false, if_false]
  rw [if_neg (by omega), if_neg (by simp only [List.length_append]; omega)]
  simp
theorem texts_large (l tail : List UInt8) (most : Int) (hl : l.length ≤ 18446744073709551615) (hm : most < (l.length : Int)) (h0 : 0 < l.length) : texts (text l ++ tail) most = ([], 0, 13) := by
  have hg := get_put l.length hl (l ++ tail)
  unfold texts text
  rw [List.append_assoc, hg]
  simp only [ne_eq, not_true_eq_false, if_false]
  rw [if_pos (by omega)]
end
section
open Go.RowKit
theorem Tryz.info5 : (Tryz.prog.info? 5).map (fun i => (i.zero, i.size, i.bytes)) = some (some (.int .u8 0), 1, 1) := by kernel_rfl
set_option maxRecDepth 100000 in
set_option maxHeartbeats 400000 in
theorem put_any (n : Nat) (h1 : n ≤ 18446744073709551615) (w : World) :
    Calls Tryz.prog 76 #[.int .u64 n] w fun e w' => e = .returned (.string ⟨(put n).toArray⟩) ∧ Below w.heap.size w w' := by
  obtain ⟨i0, hi, hz0, hz1, hz2⟩ := info_parts Tryz.info5
  go_enter Tryz.func76, Tryz.ntmps76
  go_wp2_with (at_make; refine wpList_make_own _ rfl _ _ 38 rfl w.heap.size 5 i0 (.int .u8 0) 1 Tryz.underlying38 hi hz0 hz1 _ _ _ 10 rfl rfl rfl (by omega) (by decide) (Nat.le_refl _) ?_)
  intro w1 hown hgrow
  have hb1 : Below w.heap.size w w1 := (Below.refl _ _).grown hgrow (Nat.le_refl _) (by simp)
  go_wp2
  go_loopw [0, 3] (fun v s wr => ∃ (m k : Nat) (xs : List UInt8), v = .int .u64 m ∧ m * 128 ^ k ≤ 18446744073709551615 ∧ k ≤ 9 ∧ xs.length = k ∧ xs ++ putF (9 - k) m = put n ∧ s = .slice (some ⟨w.heap.size, 0, none⟩) k 10 ∧ wr.ownsRow w.heap.size 5 1 (.slice (some ⟨w.heap.size, 0, none⟩) k 10) k (u8s xs) ∧ Below w.heap.size w wr) (fun v _ _ => (intOf v).toNat)
  case atStart => exact ⟨n, 0, [], rfl, by omega, by omega, rfl, rfl, rfl, hown, hb1⟩
  case round =>
    clear hown hgrow
    obtain ⟨m, k, xs, rfl, hm, hk, hxs, heq, rfl, hown, hb⟩ := hrel
    have hmb : m ≤ 18446744073709551615 := m_bound m k hm
    have H1 : Hid (m * 128 ^ k ≤ 18446744073709551615) := hm
    have H2 : Hid (xs ++ putF (9 - k) m = put n) := heq
    have H3 : Hid (xs.length = k) := hxs
    have hsz := hb.size
    clear heq hxs
    by_cases hlt : 128 ≤ m
    · have hk9 : k ≤ 8 := k_bound m k hm hlt
      clear hm
      have ho := or128 m
      go_wp2_with (at_builtin; refine wpList_append_fits _ rfl _ _ 38 rfl w.heap.size 5 i0 1 Tryz.underlying38 hi hz1 w.heap.size k 10 (u8s xs) rfl (hown.alloc _) ⟨wr.heap.size, 0, none⟩ 1 1 (u8s [moreB m]) rfl rfl ?c1 ?c2 (by omega) ?_)
      case c1 =>
        intro j u hj
        match j, hj with
        | 0, hj => simp [u8s] at hj; subst hj; simp [Addr.add]
      case c2 => intro u hu; simp [u8s] at hu; subst hu; rfl
      intro w2 hown2 hgrow2
      have hb2 : Below w.heap.size w w2 := (hb.alloc hsz _).grown hgrow2 (by simp; omega) (by simp)
      clear hown hgrow2 hb
      go_wp2
      go_roundw
      case rel =>
        refine ⟨m / 128, k + 1, xs ++ [moreB m], by go_num, m_next m k H1.out, by omega, by simp [H3.out], put_next H2.out hlt hk9, rfl, ?_, hb2⟩
        rw [u8s_append]; exact hown2
      case measure => simp [intOf]; omega
    · have hL : Hid ((lastB m).toNat = m) := last_eq m (by omega)
      go_wp2_with (at_builtin; refine wpList_append_fits _ rfl _ _ 38 rfl w.heap.size 5 i0 1 Tryz.underlying38 hi hz1 w.heap.size k 10 (u8s xs) rfl (hown.alloc _) ⟨wr.heap.size, 0, none⟩ 1 1 (u8s [lastB m]) rfl rfl ?d1 ?d2 (by omega) ?_)
      case d1 =>
        intro j u hj
        match j, hj with
        | 0, hj => simp [u8s] at hj; subst hj; simp [Addr.add, hL.out]
      case d2 => intro u hu; simp [u8s] at hu; subst hu; rfl
      intro w2 hown2 hgrow2
      have hb2 : Below w.heap.size w w2 := (hb.alloc hsz _).grown hgrow2 (by simp; omega) (by simp)
      clear hown hgrow2 hb
      rw [← u8s_append] at hown2
      have hcv := convert_own (P := Tryz.prog) (src := 38) (dst := 9) Tryz.underlying38 Tryz.underlying5 Tryz.underlying9 hown2 (by simp [H3.out])
      go_wp2
      go_ret
      have h2 := H2.out
      rw [putF_last _ _ (by omega)] at h2
      exact ⟨by rw [← h2]; rfl, hb2⟩
set_option maxRecDepth 100000 in
set_option maxHeartbeats 400000 in
theorem get_any (s : ByteArray) (hs : s.size ≤ maxLen) (w : World) :
    Calls Tryz.prog 80 #[.string s] w fun e w' => e = .returned (.tuple #[.int .u64 (get s.data.toList).1, .int .i64 (get s.data.toList).2.1, .int .i64 (get s.data.toList).2.2]) ∧ w' = w := by
  unfold maxLen at hs
  go_enter Tryz.func80, Tryz.ntmps80
  go_wp2
  go_step3
  go_wp2
  go_step3
  go_wp2
  go_loop [5, 7, 12] (fun n e i => ∃ k acc : Nat, k ≤ s.size ∧ k ≤ 9 ∧ i = .int .i64 k ∧ n = .int .u64 acc ∧ e = .int .i64 10 ∧ acc < 128 ^ k ∧ getF (s.data.toList.drop k) k acc = get s.data.toList) (fun _ _ i => s.size - (intOf i).toNat)
  case atStart => exact ⟨0, 0, by omega, by omega, rfl, rfl, rfl, by omega, rfl⟩
  case round =>
    obtain ⟨k, acc, hk, hk9, rfl, rfl, rfl, hacc, heq⟩ := hrel
    have H1 : Hid (acc < 128 ^ k) := hacc
    have H2 : Hid (getF (s.data.toList.drop k) k acc = get s.data.toList) := heq
    clear hacc heq
    by_cases hlt : k < s.size
    · go_wp2
      · go_ret3
        rw [getF_bad9 H2.out ‹_› ‹_›]
        exact ⟨fin3 rfl rfl rfl, rfl⟩
      · go_ret3
        rw [getF_bad0 H2.out (by omega) ‹_›]
        exact ⟨fin3 rfl rfl rfl, rfl⟩
      · go_ret3
        rw [getF_end H2.out (fun _ => ‹_›) (fun _ => ‹_›) ‹_›]
        refine ⟨fin3 ?_ ?_ rfl, rfl⟩
        · exact or_walk9 acc _ k H1.out ‹_› ‹_›
        · simp; omega
      · go_ret3
        rw [getF_bad0 H2.out (by omega) ‹_›]
        exact ⟨fin3 rfl rfl rfl, rfl⟩
      · go_ret3
        rw [getF_end H2.out (fun _ => by omega) (fun _ => ‹_›) ‹_›]
        refine ⟨fin3 ?_ ?_ rfl, rfl⟩
        · exact or_walk acc _ k H1.out hk9 (by omega) (by omega)
        · simp
      · go_round
        case rel =>
          refine ⟨k + 1, acc + (s[k].toNat - 128) * 128 ^ k, by omega, by omega, by go_num, ?_, rfl, acc_next _ _ _ H1.out (by have := s[k].toNat_lt; omega), getF_go H2.out ‹_› ‹_›⟩
          rw [or_more acc _ k H1.out hk9 ‹_› ‹_› s[k].toNat_lt]
        case measure => simp [intOf]; omega
      · go_ret3
        rw [getF_end H2.out (fun _ => by omega) (fun _ => by omega) ‹_›]
        refine ⟨fin3 ?_ ?_ rfl, rfl⟩
        · exact or_walk acc _ k H1.out hk9 (by omega) (by omega)
        · simp
      · go_round
        case rel =>
          refine ⟨k + 1, acc + (s[k].toNat - 128) * 128 ^ k, by omega, by omega, by go_num, ?_, rfl, acc_next _ _ _ H1.out (by have := s[k].toNat_lt; omega), getF_go H2.out ‹_› ‹_›⟩
          rw [or_more acc _ k H1.out hk9 ‹_› ‹_› s[k].toNat_lt]
        case measure => simp [intOf]; omega
    · go_wp2
      go_ret3
      rw [getF_out H2.out hlt]
      exact ⟨fin3 rfl rfl rfl, rfl⟩
theorem Tryz.cells5 : Tryz.prog.cellsOf 5 = 1 := by kernel_rfl
set_option maxRecDepth 100000 in
set_option maxHeartbeats 1000000 in
theorem lite_clone (s : ByteArray) (w : World) (hs : s.size ≤ 281474976710656) :
    Calls Tryz.prog 93 #[.string s] w fun e w' => e = .returned (.string s) ∧ Below w.heap.size w w' := by
  rcases Nat.eq_zero_or_pos s.size with hz | hz
  · obtain rfl : s = ⟨#[]⟩ := ByteArray.ext (Array.eq_empty_of_size_eq_zero hz)
    go_enter Tryz.func93, Tryz.ntmps93
    go_wp2
    go_ret
    exact ⟨rfl, Below.refl _ _⟩
  · obtain ⟨i0, hi, hz0, hz1, hz2⟩ := info_parts Tryz.info5
    have hsz1 : (Tryz.prog.info? 5).map (·.size) = some 1 := by rw [hi]; simp [hz1]
    obtain ⟨M, hM, hmk⟩ : ∃ M : Array Value, M.size = s.size ∧ ∀ W : World, (Instr.makeSlice 38 (.int .i64 (s.size : Int)) (.int .i64 (s.size : Int))).run Tryz.prog W = .ok (.slice (some ⟨W.heap.size, 0, none⟩) s.size s.size) (W.alloc (.cells M 5)) := by
      refine ⟨madeCells (Value.int .u8 0).cells (((s.size : Nat) : Int).toNat * i0.size), by rw [size_madeCells, hz1]; simp, fun W => ?_⟩
      simpa using run_make (P := Tryz.prog) W 38 5 i0 (.int .u8 0) Tryz.underlying38 hi hz0 .i64 .i64 (s.size : Int) (s.size : Int) (by omega) (by omega) (by rw [hz2]; omega) (by omega)
    have hcp := Lib.run_copy_row_string (P := Tryz.prog) (w.alloc (.cells M 5)) 38 9 3 5 w.heap.size 0 s.size s.size s M 5 Tryz.underlying38 hsz1 (heap_alloc_new w _) (Nat.le_refl _) (by omega)
    obtain ⟨Y, hY, hYl⟩ : ∃ Y : Array Value, (M.toList.take 0 ++ Lib.byteCells s.data.toList ++ M.toList.drop (0 + s.size)).toArray = Y ∧ Y.toList = Lib.byteCells s.data.toList := by
      refine ⟨_, rfl, ?_⟩
      rw [List.drop_of_length_le (by rw [Array.length_toList]; omega)]
      simp
    rw [hY] at hcp
    have hYs : Y.size = s.size := by rw [← Array.length_toList, hYl, Lib.byteCells_length, ← Lib.size_eq]
    have hrow : ((w.alloc (.cells M 5)).setRow w.heap.size Y).heap[w.heap.size]? = some (.cells Y 5 (0, 0)) := setRow_heap _ _ M _ 5 (0, 0) (heap_alloc_new w _)
    have hus := Lib.run_unsafeString_row (P := Tryz.prog) ((w.alloc (.cells M 5)).setRow w.heap.size Y) 162 3 9 5 Tryz.underlying162 Tryz.cells5 w.heap.size Y.size (by unfold World.shape?; rw [hrow]) s.data.toList
      (fun e => by rw [Lib.size_eq, e] at hz; simp at hz) (by rw [← Lib.size_eq]; omega) (by rw [← Lib.size_eq]; omega)
      (fun j x hx => Lib.cells_of_row hrow Y.size j _ (by rw [List.take_of_length_le (by rw [Array.length_toList]; exact Nat.le_refl _), hYl]; simp [Lib.byteCells, hx]))
    rw [← Lib.size_eq] at hus
    clear hY
    go_enter Tryz.func93, Tryz.ntmps93
    go_wp2
    go_ret
    have hb1 : Below w.heap.size w (w.alloc (.cells M 5)) := (Below.refl _ w).alloc (Nat.le_refl _) _
    have hb2 : Below w.heap.size (w.alloc (.cells M 5)) ((w.alloc (.cells M 5)).setRow w.heap.size Y) := ⟨rfl, rfl, rfl, by simp, fun k hk => setRow_other _ _ _ _ (by omega)⟩
    exact ⟨rfl, Lib.below_freeze (hb1.trans hb2) (p := ⟨w.heap.size, 0, none⟩) (Nat.le_refl _) _⟩
set_option maxRecDepth 100000 in
set_option maxHeartbeats 400000 in
theorem str_clone (s : ByteArray) (w : World) (hs : s.size ≤ 281474976710656) :
    Calls Tryz.prog 81 #[.string s] w fun e w' => e = .returned (.string s) ∧ Below w.heap.size w w' := by
  go_enter Tryz.func81, Tryz.ntmps81
  go_wp2_with fail
  refine (lite_clone s _ hs).mono ?_
  rintro e w' ⟨rfl, hb⟩
  go_wp2
  go_ret
  exact ⟨rfl, hb⟩
set_option maxRecDepth 100000 in
set_option maxHeartbeats 400000 in
theorem num_zig (z : Int) (h0 : -9223372036854775808 ≤ z) (h1 : z ≤ 9223372036854775807) (w : World) :
    Calls Tryz.prog 97 #[.int .i64 z] w fun e w' => e = .returned (.int .u64 (zig z)) ∧ w' = w := by
  go_enter Tryz.func97, Tryz.ntmps97
  go_wp2
  go_ret
  exact ⟨congrArg (fun x => Ending.returned (.int .u64 x)) (zig_walk z h0 h1), rfl⟩
set_option maxRecDepth 100000 in
set_option maxHeartbeats 400000 in
theorem num_zag (n : Nat) (h1 : n ≤ 18446744073709551615) (w : World) :
    Calls Tryz.prog 98 #[.int .u64 n] w fun e w' => e = .returned (.int .i64 (zag n)) ∧ w' = w := by
  go_enter Tryz.func98, Tryz.ntmps98
  go_wp2
  go_ret
  exact ⟨congrArg (fun x => Ending.returned (.int .i64 x)) (zag_walk n h1), rfl⟩
end
section
open Go.RowKit
theorem fin3s {a a' : ByteArray} {b c b' c' : Int} (h1 : a = a') (h2 : b = b') (h3 : c = c') : Ending.returned (.tuple #[.string a, .int .i64 b, .int .i64 c]) = .returned (.tuple #[.string a', .int .i64 b', .int .i64 c']) := by rw [h1, h2, h3]
theorem max_if (most : Int) : (if most < 0 then 0 else most) = max most 0 := by split <;> omega
theorem texts_bad {l : List UInt8} {n k e : Nat} {most : Int} (h : get l = (n, k, e)) (h1 : ((e : Int) != 0) = true) : texts l most = ([], 0, e) := by
  have h1' : e ≠ 0 := by intro h; simp [h] at h1
  unfold texts; rw [h]; simp only; rw [if_pos h1']
theorem texts_13 {l : List UInt8} {n k e : Nat} {most : Int} (h : get l = (n, k, e)) (h1 : ((e : Int) != 0) = false) (h2 : (if most < 0 then 0 else most) < (n : Int)) : texts l most = ([], 0, 13) := by
  have h1' : e = 0 := by simp at h1; omega
  rw [max_if] at h2
  unfold texts; rw [h]; simp only; rw [if_neg (by simp [h1']), if_pos h2]
theorem texts_10 {s : ByteArray} {n k e : Nat} {most : Int} (h : get s.data.toList = (n, k, e)) (h1 : ((e : Int) != 0) = false) (h2 : (n : Int) ≤ if most < 0 then 0 else most) (h3 : s.size - k < n) : texts s.data.toList most = ([], 0, 10) := by
  have h1' : e = 0 := by simp at h1; omega
  rw [max_if] at h2
  unfold texts; rw [h]; simp only; rw [if_neg (by simp [h1']), if_neg (by omega), if_pos (by exact h3)]
theorem texts_0 {s : ByteArray} {n k e : Nat} {most : Int} (h : get s.data.toList = (n, k, e)) (h1 : ((e : Int) != 0) = false) (h2 : (n : Int) ≤ if most < 0 then 0 else most) (h3 : ¬ s.size - k < n) : texts s.data.toList most = ((s.data.toList.drop k).take n, k + n, 0) := by
  have h1' : e = 0 := by simp at h1; omega
  rw [max_if] at h2
  unfold texts; rw [h]; simp only; rw [if_neg (by simp [h1']), if_neg (by omega), if_neg (by exact h3)]
theorem cut_text (s : ByteArray) (k n : Nat) (hk : k ≤ s.size) : (s.extract k s.size).extract 0 n = ⟨((s.data.toList.drop k).take n).toArray⟩ := by
  obtain ⟨⟨l⟩⟩ := s
  have e1 := ByteArray.extract_mk l k l.length
  have e2 := ByteArray.extract_mk ((l.drop k).take (l.length - k)) 0 n
  show ((ByteArray.mk l.toArray).extract k l.length).extract 0 n = _
  rw [e1, e2, List.take_of_length_le (l := l.drop k) (by simp)]
  simp
theorem get_eq {s : ByteArray} {n k e : Nat} (h : Hid (get s.data.toList = (n, k, e))) (hs : s.size ≤ maxLen) (w : World) :
    Calls Tryz.prog 80 #[.string s] w fun x w' => x = .returned (.tuple #[.int .u64 n, .int .i64 k, .int .i64 e]) ∧ w' = w := by
  have := get_any s hs w
  rw [h.out] at this
  exact this
set_option maxRecDepth 100000 in
set_option maxHeartbeats 400000 in
theorem num_texts (s : ByteArray) (most : Int) (hs : s.size ≤ 281474976710656) (hm0 : -9223372036854775808 ≤ most) (hm1 : most ≤ 9223372036854775807) (w : World) :
    Calls Tryz.prog 67 #[.string s, .int .i64 most] w fun x w' => x = .returned (.tuple #[.string ⟨(texts s.data.toList most).1.toArray⟩, .int .i64 (texts s.data.toList most).2.1, .int .i64 (texts s.data.toList most).2.2]) ∧ Below w.heap.size w w' := by
  rcases hg : get s.data.toList with ⟨n, k, e⟩
  obtain ⟨hn, hk, hk1, he, hek⟩ := get_ok hg
  have hk : k ≤ s.size := hk
  have HG : Hid (get s.data.toList = (n, k, e)) := hg
  clear hg
  go_enter Tryz.func67, Tryz.ntmps67
  go_wp2_with fail
  refine (get_eq HG (by unfold maxLen; omega) _).mono ?_
  rintro x w' ⟨rfl, rfl⟩
  go_wp2_with fail
  · go_ret3
    rw [texts_bad HG.out ‹_›]
    exact ⟨fin3s rfl rfl rfl, Below.refl _ _⟩
  · go_ret3
    rw [texts_13 HG.out ‹_› ‹_›]
    exact ⟨fin3s rfl rfl rfl, Below.refl _ _⟩
  · go_ret3
    rw [texts_13 HG.out ‹_› ‹_›]
    exact ⟨fin3s rfl rfl rfl, Below.refl _ _⟩
  · go_ret3
    rw [texts_10 HG.out ‹_› ‹_› ‹_›]
    exact ⟨fin3s rfl rfl rfl, Below.refl _ _⟩
  all_goals
    refine (str_clone _ _ (by rw [ByteArray.size_extract, ByteArray.size_extract]; omega)).mono ?_
    rintro x w2 ⟨rfl, hb⟩
    go_wp2
    go_ret3
    rw [texts_0 HG.out ‹_› ‹_› ‹_›]
    exact ⟨fin3s (cut_text s k n hk) (by simp) rfl, hb⟩
set_option maxRecDepth 100000 in
set_option maxHeartbeats 400000 in
theorem num_int (z : Int) (h0 : -9223372036854775808 ≤ z) (h1 : z ≤ 9223372036854775807) (w : World) :
    Calls Tryz.prog 94 #[.int .i64 z] w fun e w' => e = .returned (.string ⟨(put (zig z)).toArray⟩) ∧ Below w.heap.size w w' := by
  go_enter Tryz.func94, Tryz.ntmps94
  go_wp2_with fail
  refine (num_zig z h0 h1 _).mono ?_
  rintro x w1 ⟨rfl, rfl⟩
  go_wp2_with fail
  refine (put_any _ (zig_le z h0 h1) _).mono ?_
  rintro x w2 ⟨rfl, hb⟩
  go_wp2
  go_ret
  exact ⟨rfl, hb⟩
set_option maxRecDepth 100000 in
set_option maxHeartbeats 400000 in
theorem num_ints (s : ByteArray) (hs : s.size ≤ maxLen) (w : World) :
    Calls Tryz.prog 96 #[.string s] w fun e w' => e = .returned (.tuple #[.int .i64 (zag (get s.data.toList).1), .int .i64 (get s.data.toList).2.1, .int .i64 (get s.data.toList).2.2]) ∧ w' = w := by
  rcases hg : get s.data.toList with ⟨n, k, e⟩
  obtain ⟨hn, _⟩ := get_ok hg
  have HG : Hid (get s.data.toList = (n, k, e)) := hg
  clear hg
  go_enter Tryz.func96, Tryz.ntmps96
  go_wp2_with fail
  refine (get_eq HG hs _).mono ?_
  rintro x w' ⟨rfl, rfl⟩
  go_wp2_with fail
  refine (num_zag n hn _).mono ?_
  rintro x w1 ⟨rfl, rfl⟩
  go_wp2
  go_ret3
  exact ⟨rfl, rfl⟩
set_option maxRecDepth 100000 in
set_option maxHeartbeats 400000 in
theorem num_text (s : ByteArray) (hs : s.size ≤ 281474976710656) (w : World) :
    Calls Tryz.prog 48 #[.string s] w fun e w' => e = .returned (.string ⟨(text s.data.toList).toArray⟩) ∧ Below w.heap.size w w' := by
  have hl := (put_length s.size).2
  go_enter Tryz.func48, Tryz.ntmps48
  go_wp2_with fail
  refine (put_any s.size (by omega) _).mono ?_
  rintro x w1 ⟨rfl, hb⟩
  go_wp2
  go_ret
  exact ⟨congrArg (fun x => Ending.returned (.string x)) (ByteArray.mk_append_mk (put s.size) s.data.toList), hb⟩
theorem put_box (n : Nat) (h1 : n ≤ 18446744073709551615) (w : World) :
    Calls Tryz.prog 76 #[.int .u64 n] w fun e w' => ∃ L : List UInt8, e = .returned (.string ⟨L.toArray⟩) ∧ Hid (L = put n) ∧ Below w.heap.size w w' :=
  (put_any n h1 w).mono fun _ _ h => ⟨put n, h.1, rfl, h.2⟩
end
section
open Go.RowKit
theorem put_at {n : Nat} {L : List UInt8} (H : Hid (L = put n)) (h1 : n ≤ 18446744073709551615) (w : World) :
    Calls Tryz.prog 76 #[.int .u64 n] w fun e w' => e = .returned (.string ⟨L.toArray⟩) ∧ Below w.heap.size w w' := by
  rw [H.out]; exact put_any n h1 w
theorem int_at {z : Int} {L : List UInt8} (H : Hid (L = put (zig z))) (h0 : -9223372036854775808 ≤ z) (h1 : z ≤ 9223372036854775807) (w : World) :
    Calls Tryz.prog 94 #[.int .i64 z] w fun e w' => e = .returned (.string ⟨L.toArray⟩) ∧ Below w.heap.size w w' := by
  rw [H.out]; exact num_int z h0 h1 w
theorem text_at {s : ByteArray} {L : List UInt8} (H : Hid (L = text s.data.toList)) (hs : s.size ≤ 281474976710656) (w : World) :
    Calls Tryz.prog 48 #[.string s] w fun e w' => e = .returned (.string ⟨L.toArray⟩) ∧ Below w.heap.size w w' := by
  rw [H.out]; exact num_text s hs w
theorem ints_at {s : ByteArray} {n k e : Nat} {z : Int} (h : Hid (get s.data.toList = (n, k, e))) (hz : Hid (zag n = z)) (hs : s.size ≤ maxLen) (w : World) :
    Calls Tryz.prog 96 #[.string s] w fun x w' => x = .returned (.tuple #[.int .i64 z, .int .i64 k, .int .i64 e]) ∧ w' = w := by
  have := num_ints s hs w
  rw [h.out, hz.out] at this
  exact this
theorem texts_at {s u : ByteArray} {most : Int} {k e : Nat} (h : Hid (texts s.data.toList most = (u.data.toList, k, e))) (hs : s.size ≤ 281474976710656) (hm0 : -9223372036854775808 ≤ most) (hm1 : most ≤ 9223372036854775807) (w : World) :
    Calls Tryz.prog 67 #[.string s, .int .i64 most] w fun x w' => x = .returned (.tuple #[.string u, .int .i64 k, .int .i64 e]) ∧ Below w.heap.size w w' := by
  have := num_texts s most hs hm0 hm1 w
  rw [h.out] at this
  exact this
theorem zag_at {n : Nat} {z : Int} (hz : Hid (zag n = z)) (h1 : n ≤ 18446744073709551615) (w : World) :
    Calls Tryz.prog 98 #[.int .u64 n] w fun e w' => e = .returned (.int .i64 z) ∧ w' = w := by
  rw [← hz.out]; exact num_zag n h1 w
theorem zig_at {z : Int} {n : Nat} (hz : Hid (zig z = n)) (h0 : -9223372036854775808 ≤ z) (h1 : z ≤ 9223372036854775807) (w : World) :
    Calls Tryz.prog 97 #[.int .i64 z] w fun e w' => e = .returned (.int .u64 n) ∧ w' = w := by
  rw [← hz.out]; exact num_zig z h0 h1 w
theorem data_append (l : List UInt8) (t : ByteArray) : ((⟨l.toArray⟩ : ByteArray) ++ t).data.toList = l ++ t.data.toList := by
  have := ByteArray.mk_append_mk l t.data.toList
  rw [show (⟨t.data.toList.toArray⟩ : ByteArray) = t from rfl] at this
  rw [this]
theorem texts_back (l tail : List UInt8) (most : Int) (hl : l.length ≤ 18446744073709551615) (hm : (l.length : Int) ≤ max most 0) : texts (text l ++ tail) most = (l, (text l).length, 0) := by
  have hg := get_put l.length hl (l ++ tail)
  unfold texts text
  rw [List.append_assoc, hg]
  simp only [ne_eq, not_true_eq_false, if_false]
  rw [if_neg (by omega), if_neg (by simp only [List.length_append]; omega)]
  simp
theorem flat_succ {α : Type} (f : α → List UInt8) (xs : List α) (k : Nat) (h : k < xs.length) : (xs.take (k + 1)).flatMap f = (xs.take k).flatMap f ++ f xs[k] := by
  rw [List.take_succ_eq_append_getElem h, List.flatMap_append]
  simp
theorem flat_drop {α : Type} (f : α → List UInt8) (xs : List α) (k : Nat) (h : k < xs.length) (R : List UInt8) : (xs.flatMap f ++ R).drop ((xs.take k).flatMap f).length = f xs[k] ++ ((xs.drop (k + 1)).flatMap f ++ R) := by
  have e : xs.flatMap f = (xs.take k).flatMap f ++ (f xs[k] ++ (xs.drop (k + 1)).flatMap f) := by
    conv => lhs; rw [← List.take_append_drop k xs, List.drop_eq_getElem_cons h]
    rw [List.flatMap_append, List.flatMap_cons]
  rw [e, List.append_assoc, List.drop_left]
  simp
theorem flat_len {α : Type} (f : α → List UInt8) (B : Nat) : ∀ (l : List α), (∀ x ∈ l, (f x).length ≤ B) → (l.flatMap f).length ≤ B * l.length
  | [], _ => by simp
  | x :: r, h => by
    have h1 := h x (by simp)
    have h2 := flat_len f B r (fun y hy => h y (by simp [hy]))
    rw [List.flatMap_cons, List.length_append, List.length_cons, Nat.mul_add]
    omega
theorem flat_take_le {α : Type} (f : α → List UInt8) (xs : List α) (k : Nat) : ((xs.take k).flatMap f).length ≤ (xs.flatMap f).length := by
  conv => rhs; rw [← List.take_append_drop k xs, List.flatMap_append, List.length_append]
  omega
theorem extract_tail (S : List UInt8) (p : Nat) : ((⟨S.toArray⟩ : ByteArray).extract p S.length).data.toList = S.drop p := by
  rw [ByteArray.extract_mk]
  show (S.drop p).take (S.length - p) = _
  exact List.take_of_length_le (by simp)
end
section
open Go.RowKit
theorem conv1 {P : Program} {src dst e : TypeId} (hs : P.underlying src = some (.slice e)) (he : P.underlying e = some (.int .u8)) (hd : P.underlying dst = some .string) (wr : World) (b : UInt8) (x : Int) (hx : (b.toNat : Int) = x) :
    (convert src dst (.slice (some ⟨wr.heap.size, 0, none⟩) 1 1)).run P (wr.alloc (.cells #[.int .u8 x] e)) = .ok (.string ⟨[b].toArray⟩) (wr.alloc (.cells #[.int .u8 x] e)) := by
  subst hx
  rw [← strOfU8s]
  refine run_convert_bytes_arg _ src e hs he wr.heap.size 0 1 1 _ rfl (fun i hi => ?_) dst hd
  obtain rfl : i = 0 := by omega
  simp
theorem and_or_walk (m : Nat) (h : m ≤ 18446744073709551615) : bits .or .u8 (bits .and .u64 (m : Int) 127 % 256) 128 = ((moreB m).toNat : Int) := by
  have e := u64_and_nat m 127 (by omega) (by omega)
  rw [nat_mask7, show ((127 : Nat) : Int) = 127 from rfl] at e
  have := or128 (m % 128)
  rw [e, this]
  unfold moreB
  rw [Nat.mod_mod]
set_option maxRecDepth 100000 in
set_option maxHeartbeats 400000 in
theorem ref_put (n : Nat) (h1 : n ≤ 18446744073709551615) (w : World) :
    Calls Tryz.prog 66 #[.int .u64 n] w fun e w' => e = .returned (.string ⟨(put n).toArray⟩) ∧ Below w.heap.size w w' := by
  obtain ⟨i0, hi, hz0, hz1, hz2⟩ := info_parts Tryz.info5
  go_enter Tryz.func66, Tryz.ntmps66
  go_wp2
  go_loopw [0, 3] (fun v s wr => ∃ (m k : Nat) (xs : List UInt8), v = .int .u64 m ∧ m * 128 ^ k ≤ 18446744073709551615 ∧ k ≤ 9 ∧ xs.length = k ∧ xs ++ putF (9 - k) m = put n ∧ s = .string ⟨xs.toArray⟩ ∧ Below w.heap.size w wr) (fun v _ _ => (intOf v).toNat)
  case atStart => exact ⟨n, 0, [], rfl, by omega, by omega, rfl, rfl, rfl, Below.refl _ _⟩
  case round =>
    obtain ⟨m, k, xs, rfl, hm, hk, hxs, heq, rfl, hb⟩ := hrel
    have hmb : m ≤ 18446744073709551615 := m_bound m k hm
    have H1 : Hid (m * 128 ^ k ≤ 18446744073709551615) := hm
    have H2 : Hid (xs ++ putF (9 - k) m = put n) := heq
    have H3 : Hid (xs.length = k) := hxs
    have hsz := hb.size
    have hxl : xs.length ≤ 9 := by omega
    clear heq hxs
    by_cases hlt : 128 ≤ m
    · have hk9 : k ≤ 8 := k_bound m k hm hlt
      clear hm
      have ho := and_or_walk m hmb
      have hcv := conv1 (P := Tryz.prog) (src := 38) (dst := 9) Tryz.underlying38 Tryz.underlying5 Tryz.underlying9 wr (moreB m) _ rfl
      go_wp2
      go_roundw
      case rel =>
        refine ⟨m / 128, k + 1, xs ++ [moreB m], by go_num, m_next m k H1.out, by omega, by simp [H3.out], put_next H2.out hlt hk9, ?_, hb.alloc hsz _⟩
        rw [ByteArray.mk_append_mk]
      case measure => simp [intOf]; omega
    · have hcv := conv1 (P := Tryz.prog) (src := 38) (dst := 9) Tryz.underlying38 Tryz.underlying5 Tryz.underlying9 wr (lastB m) m (by rw [last_eq m (by omega)])
      go_wp2
      go_ret
      have h2 := H2.out
      rw [putF_last _ _ (by omega)] at h2
      rw [← h2]
      exact ⟨congrArg (fun x => Ending.returned (.string x)) (ByteArray.mk_append_mk _ _), hb.alloc hsz _⟩
theorem and127 (b : Nat) (h : b < 256) : bits .and .u8 (b : Int) 127 = ((b % 128 : Nat) : Int) := by
  have e := u8_and_nat b 127 h (by omega)
  rw [nat_mask7] at e
  exact e
theorem or_ref (acc b k : Nat) (h : acc < 128 ^ k) (hk : k ≤ 9) (hb : b < 256) (h9 : k = 9 → b ≤ 1) : bits .or .u64 (acc : Int) (IntKind.u64.wrap (IntKind.u64.wrap (bits .and .u8 (b : Int) 127) * 2 ^ (7 * k))) = ((acc + b % 128 * 128 ^ k : Nat) : Int) := by
  rw [and127 b hb, IntWalk.u64_in ((b % 128 : Nat) : Int) ⟨by omega, by omega⟩, or_walk acc (b % 128) k h hk (by omega) (by omega)]
theorem or_ref9 (acc b k : Nat) (h : acc < 128 ^ k) (hk : (k : Int) = 9) (hb : (b : Int) ≤ 1) : bits .or .u64 (acc : Int) (IntKind.u64.wrap (IntKind.u64.wrap (bits .and .u8 (b : Int) 127) * 9223372036854775808)) = ((acc + b * 128 ^ k : Nat) : Int) := by
  rw [and127 b (by omega), IntWalk.u64_in ((b % 128 : Nat) : Int) ⟨by omega, by omega⟩, IntWalk.u64_in _ ⟨by omega, by omega⟩, Nat.mod_eq_of_lt (by omega), or_walk9 acc b k h hk hb]
theorem getF_bad0' {s : ByteArray} {k acc : Nat} {h : k < s.size} {r : Nat × Nat × Nat} (e : getF (s.data.toList.drop k) k acc = r) (h1 : 0 < k) (h2 : s[k].toNat = 0) : r = (0, 0, 11) := by
  rw [← e, getF_at s k acc h, if_neg (by omega), if_pos (by omega)]
theorem getF_end' {s : ByteArray} {k acc b : Nat} {h : k < s.size} {r : Nat × Nat × Nat} (e : getF (s.data.toList.drop k) k acc = r) (hb : s[k].toNat = b) (h1 : (k : Int) = 9 → (b : Int) ≤ 1) (h2 : 0 < k → ¬ b = 0) (h3 : (b : Int) < 128) : r = (acc + b * 128 ^ k, k + 1, 0) := by
  rw [← e, getF_at s k acc h, if_neg (by omega), if_neg (by omega), if_pos (by omega), hb]
set_option maxRecDepth 100000 in
set_option maxHeartbeats 400000 in
theorem ref_get (s : ByteArray) (hs : s.size ≤ maxLen) (w : World) :
    Calls Tryz.prog 65 #[.string s] w fun e w' => e = .returned (.tuple #[.int .u64 (get s.data.toList).1, .int .i64 (get s.data.toList).2.1, .int .i64 (get s.data.toList).2.2]) ∧ w' = w := by
  unfold maxLen at hs
  go_enter Tryz.func65, Tryz.ntmps65
  go_wp2
  go_loop [5, 6] (fun n i => ∃ k acc : Nat, k ≤ s.size ∧ k ≤ 9 ∧ i = .int .i64 k ∧ n = .int .u64 acc ∧ acc < 128 ^ k ∧ getF (s.data.toList.drop k) k acc = get s.data.toList) (fun _ i => s.size - (intOf i).toNat)
  case atStart => exact ⟨0, 0, by omega, by omega, rfl, rfl, by omega, rfl⟩
  case round =>
    obtain ⟨k, acc, hk, hk9, rfl, rfl, hacc, heq⟩ := hrel
    have H1 : Hid (acc < 128 ^ k) := hacc
    have H2 : Hid (getF (s.data.toList.drop k) k acc = get s.data.toList) := heq
    clear hacc heq
    by_cases hlt : k < s.size
    · go_wp2
      · go_ret3
        rw [getF_bad9 H2.out ‹_› ‹_›]
        exact ⟨fin3 rfl rfl rfl, rfl⟩
      · go_ret3
        rw [getF_bad0' H2.out (by omega) ‹_›]
        exact ⟨fin3 rfl rfl rfl, rfl⟩
      · go_ret3
        rw [getF_end' H2.out rfl (fun _ => ‹_›) (fun _ => ‹_›) ‹_›]
        exact ⟨fin3 (or_ref9 acc _ k H1.out ‹_› ‹_›) (by simp; omega) rfl, rfl⟩
      · go_ret3
        rw [getF_bad0' H2.out (by omega) ‹_›]
        exact ⟨fin3 rfl rfl rfl, rfl⟩
      · go_ret3
        rw [getF_end' H2.out ‹_› (fun _ => by omega) (fun _ => by omega) (by omega)]
        exact ⟨fin3 (or_ref acc 0 k H1.out hk9 (by omega) (by omega)) (by simp) rfl, rfl⟩
      · go_ret3
        rw [getF_end' H2.out rfl (fun _ => by omega) (fun _ => ‹_›) ‹_›]
        refine ⟨fin3 ?_ (by simp) rfl, rfl⟩
        rw [or_ref acc _ k H1.out hk9 (by omega) (by omega), Nat.mod_eq_of_lt (by omega)]
      · have hlt' := s[k].toNat_lt
        go_round
        case rel =>
          refine ⟨k + 1, acc + (s[k].toNat - 128) * 128 ^ k, by omega, by omega, by go_num, ?_, acc_next _ _ _ H1.out (by omega), getF_go H2.out ‹_› ‹_›⟩
          rw [or_ref acc _ k H1.out hk9 (by omega) (by omega), show s[k].toNat % 128 = s[k].toNat - 128 by omega]
        case measure => simp [intOf]; omega
    · go_wp2
      go_ret3
      rw [getF_out H2.out hlt]
      exact ⟨fin3 rfl rfl rfl, rfl⟩
theorem if_max (most : Int) : (if 0 < most then most else 0) = if most < 0 then 0 else most := by split <;> split <;> omega
theorem cut_text' (s : ByteArray) (k n : Nat) : s.extract k (k + n) = ⟨((s.data.toList.drop k).take n).toArray⟩ := by
  obtain ⟨⟨l⟩⟩ := s
  have e1 := ByteArray.extract_mk l k (k + n)
  rw [show k + n - k = n by omega] at e1
  exact e1
theorem ref_get_eq {s : ByteArray} {n k e : Nat} (h : Hid (get s.data.toList = (n, k, e))) (hs : s.size ≤ maxLen) (w : World) :
    Calls Tryz.prog 65 #[.string s] w fun x w' => x = .returned (.tuple #[.int .u64 n, .int .i64 k, .int .i64 e]) ∧ w' = w := by
  have := ref_get s hs w
  rw [h.out] at this
  exact this
set_option maxRecDepth 100000 in
set_option maxHeartbeats 400000 in
theorem ref_text (s : ByteArray) (hs : s.size ≤ 281474976710656) (w : World) :
    Calls Tryz.prog 38 #[.string s] w fun e w' => e = .returned (.string ⟨(text s.data.toList).toArray⟩) ∧ Below w.heap.size w w' := by
  have hl := (put_length s.size).2
  go_enter Tryz.func38, Tryz.ntmps38
  go_wp2_with fail
  refine (ref_put s.size (by omega) _).mono ?_
  rintro x w1 ⟨rfl, hb⟩
  go_wp2
  go_ret
  exact ⟨congrArg (fun x => Ending.returned (.string x)) (ByteArray.mk_append_mk (put s.size) s.data.toList), hb⟩
set_option maxRecDepth 100000 in
set_option maxHeartbeats 400000 in
theorem ref_texts (s : ByteArray) (most : Int) (hs : s.size ≤ 281474976710656) (hm0 : -9223372036854775808 ≤ most) (hm1 : most ≤ 9223372036854775807) (w : World) :
    Calls Tryz.prog 36 #[.string s, .int .i64 most] w fun x w' => x = .returned (.tuple #[.string ⟨(texts s.data.toList most).1.toArray⟩, .int .i64 (texts s.data.toList most).2.1, .int .i64 (texts s.data.toList most).2.2]) ∧ w' = w := by
  rcases hg : get s.data.toList with ⟨n, k, e⟩
  obtain ⟨hn, hk, hk1, he, hek⟩ := get_ok hg
  have hk : k ≤ s.size := hk
  have HG : Hid (get s.data.toList = (n, k, e)) := hg
  clear hg
  go_enter Tryz.func36, Tryz.ntmps36
  go_wp2_with fail
  refine (ref_get_eq HG (by unfold maxLen; omega) _).mono ?_
  rintro x w' ⟨rfl, rfl⟩
  go_wp2
  · go_ret3
    rw [texts_bad HG.out ‹_›]
    exact ⟨fin3s rfl rfl rfl, rfl⟩
  · go_ret3
    rw [texts_13 HG.out ‹_› (by rw [← if_max]; assumption)]
    exact ⟨fin3s rfl rfl rfl, rfl⟩
  · go_ret3
    rw [texts_13 HG.out ‹_› (by rw [← if_max]; assumption)]
    exact ⟨fin3s rfl rfl rfl, rfl⟩
  · go_ret3
    rw [texts_10 HG.out ‹_› (by rw [← if_max]; assumption) (by omega)]
    exact ⟨fin3s rfl rfl rfl, rfl⟩
  all_goals
    go_ret3
    rw [texts_0 HG.out ‹_› (by rw [← if_max]; assumption) (by omega)]
    exact ⟨fin3s (cut_text' s k n) (by simp) rfl, rfl⟩
end
end Go.Proofs.YtpedngbjpbeanaaGreatDoor
