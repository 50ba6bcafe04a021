/- Plain facts on numbers and bytes, of no program: what numbers as bytes are (put, get, texts, zig, zag), and what the walks' own terms come to. No conditions beyond those typed. -/
import Derived.WalkKit
import Derived.WalkSpells
import Derived.WalkLawsBesides
import Derived.Handy
namespace Go.Proofs.Ytkklchobiiajgaa
open Go.RowKit
def putF : Nat → Nat → List UInt8
  | 0, n => [UInt8.ofNat n]
  | f+1, n => if n < 128 then [UInt8.ofNat n] else UInt8.ofNat (n % 128 + 128) :: putF f (n / 128)
def moreB (m : Nat) : UInt8 := UInt8.ofNat (m % 128 + 128)
def lastB (m : Nat) : UInt8 := UInt8.ofNat m
def put (n : Nat) : List UInt8 := putF 9 n
def u8s (xs : List UInt8) : List Value := xs.map fun b => .int .u8 b.toNat
theorem strOfU8s (xs : List UInt8) : strOfNums (xs.map fun b => (b.toNat : Int)) = ⟨xs.toArray⟩ := by
  unfold strOfNums
  congr 2
  rw [List.map_map]
  conv => rhs; rw [← List.map_id xs]
  apply List.map_congr_left
  intro a _
  simp
theorem u8s_append (xs ys : List UInt8) : u8s (xs ++ ys) = u8s xs ++ u8s ys := by simp [u8s]
theorem convert_own {P : Program} {w : World} {base src dst e g n cap : Nat} {xs : List UInt8} (hs : P.underlying src = some (.slice e)) (he : P.underlying e = some (.int .u8)) (hd : P.underlying dst = some .string)
    (h : w.ownsRow base e 1 (.slice (some ⟨g, 0, none⟩) n cap) n (u8s xs)) (hn : xs.length = n) :
    (convert src dst (.slice (some ⟨g, 0, none⟩) n cap)).run P w = .ok (.string ⟨xs.toArray⟩) w := by
  rw [← strOfU8s]
  refine run_convert_bytes_arg w src e hs he g 0 n cap _ (by simpa using hn) (fun i hi => ?_) dst hd
  have := h.cellAt i (by omega)
  rw [Nat.zero_add, this]
  simp [u8s, List.getD, hn, hi]
theorem m_bound (m k : Nat) (h : m * 128 ^ k ≤ 18446744073709551615) : m ≤ 18446744073709551615 :=
  Nat.le_trans (Nat.le_mul_of_pos_right m (Nat.pow_pos (by decide))) h
theorem k_bound (m k : Nat) (h : m * 128 ^ k ≤ 18446744073709551615) (hm : 128 ≤ m) : k ≤ 8 := by
  rcases Nat.lt_or_ge k 9 with h1 | h1
  · omega
  · have h2 : 128 ^ 9 ≤ 128 ^ k := Nat.pow_le_pow_right (by decide) h1
    have h3 : 128 * 128 ^ 9 ≤ m * 128 ^ k := Nat.mul_le_mul hm h2
    omega
theorem m_next (m k : Nat) (h : m * 128 ^ k ≤ 18446744073709551615) : m / 128 * 128 ^ (k + 1) ≤ 18446744073709551615 := by
  refine Nat.le_trans ?_ h
  rw [Nat.pow_succ, Nat.mul_comm (128 ^ k) 128, ← Nat.mul_assoc]
  exact Nat.mul_le_mul_right _ (Nat.div_mul_le_self m 128)
theorem putF_more (f m : Nat) (h : 128 ≤ m) : putF (f + 1) m = moreB m :: putF f (m / 128) := by
  simp only [putF]; rw [if_neg (by omega)]; rfl
theorem putF_last (f m : Nat) (h : m < 128) : putF f m = [lastB m] := by
  cases f with
  | zero => rfl
  | succ f => simp only [putF]; rw [if_pos h]; rfl
theorem put_next {n m k : Nat} {xs : List UInt8} (h : xs ++ putF (9 - k) m = put n) (hm : 128 ≤ m) (hk : k ≤ 8) :
    (xs ++ [moreB m]) ++ putF (9 - (k + 1)) (m / 128) = put n := by
  rw [← h, show 9 - k = (9 - (k + 1)) + 1 by omega, putF_more _ _ hm]; simp
set_option maxRecDepth 10000 in
theorem or128 (m : Nat) : bits .or .u8 ((m : Int) % 256) 128 = ((moreB m).toNat : Int) := by
  have e : ((m : Int) % 256) = ((m % 256 : Nat) : Int) := by omega
  rw [e]
  have := u8_or_nat (m % 256) 128 (by omega) (by omega)
  rw [show ((128 : Nat) : Int) = 128 from rfl] at this
  rw [this]
  have h2 : m % 256 ||| 128 = m % 128 + 128 := by
    have h3 : ∀ x : Fin 256, x.val ||| 128 = x.val % 128 + 128 := by decide
    have := h3 ⟨m % 256, by omega⟩
    simp only at this
    rw [this]; omega
  rw [h2]
  simp [moreB]
  omega
theorem last_eq (m : Nat) (h : m < 128) : (lastB m).toNat = m := by
  simp [lastB]; omega
def getF : List UInt8 → Nat → Nat → Nat × Nat × Nat
  | [], _, _ => (0, 0, 10)
  | b :: r, i, acc =>
    if i = 9 ∧ 1 < b.toNat then (0, 0, 11)
    else if 0 < i ∧ b.toNat = 0 then (0, 0, 11)
    else if b.toNat < 128 then (acc + b.toNat * 128 ^ i, i + 1, 0)
    else getF r (i + 1) (acc + (b.toNat - 128) * 128 ^ i)
def get (l : List UInt8) : Nat × Nat × Nat := getF l 0 0
theorem getF_at (s : ByteArray) (k acc : Nat) (h : k < s.size) : getF (s.data.toList.drop k) k acc =
    if k = 9 ∧ 1 < s[k].toNat then (0, 0, 11)
    else if 0 < k ∧ s[k].toNat = 0 then (0, 0, 11)
    else if s[k].toNat < 128 then (acc + s[k].toNat * 128 ^ k, k + 1, 0)
    else getF (s.data.toList.drop (k + 1)) (k + 1) (acc + (s[k].toNat - 128) * 128 ^ k) := by
  rw [List.drop_eq_getElem_cons (show k < s.data.toList.length from h)]
  rfl
theorem getF_bad9 {s : ByteArray} {k acc : Nat} {h : k < s.size} {r : Nat × Nat × Nat} (e : getF (s.data.toList.drop k) k acc = r) (h1 : (k : Int) = 9) (h2 : 1 < (s[k].toNat : Int)) : r = (0, 0, 11) := by
  rw [← e, getF_at s k acc h, if_pos (by omega)]
theorem getF_bad0 {s : ByteArray} {k acc : Nat} {h : k < s.size} {r : Nat × Nat × Nat} (e : getF (s.data.toList.drop k) k acc = r) (h1 : 0 < k) (h2 : ((s[k].toNat : Int) == 0) = true) : r = (0, 0, 11) := by
  rw [beq_iff_eq] at h2
  rw [← e, getF_at s k acc h, if_neg (by omega), if_pos (by omega)]
theorem getF_end {s : ByteArray} {k acc : Nat} {h : k < s.size} {r : Nat × Nat × Nat} (e : getF (s.data.toList.drop k) k acc = r) (h1 : (k : Int) = 9 → (s[k].toNat : Int) ≤ 1) (h2 : 0 < k → ((s[k].toNat : Int) == 0) = false) (h3 : (s[k].toNat : Int) < 128) : r = (acc + s[k].toNat * 128 ^ k, k + 1, 0) := by
  have h2' : 0 < k → ¬ (s[k].toNat : Int) = 0 := fun h => by simpa using h2 h
  rw [← e, getF_at s k acc h, if_neg (by omega), if_neg (by omega), if_pos (by omega)]
theorem getF_go {s : ByteArray} {k acc : Nat} {h : k < s.size} {r : Nat × Nat × Nat} (e : getF (s.data.toList.drop k) k acc = r) (h1 : ¬ (k : Int) = 9) (h3 : 128 ≤ (s[k].toNat : Int)) : getF (s.data.toList.drop (k + 1)) (k + 1) (acc + (s[k].toNat - 128) * 128 ^ k) = r := by
  rw [← e, getF_at s k acc h, if_neg (by omega), if_neg (by omega), if_neg (by omega)]
theorem getF_out {s : ByteArray} {k acc : Nat} {r : Nat × Nat × Nat} (e : getF (s.data.toList.drop k) k acc = r) (h : ¬ k < s.size) : r = (0, 0, 10) := by
  rw [← e, List.drop_eq_nil_of_le (show s.data.toList.length ≤ k from Nat.le_of_not_lt h)]; rfl
theorem pow_128 (k : Nat) : 128 ^ k = 2 ^ (7 * k) := by rw [Nat.pow_mul]
theorem or_add (acc b k : Nat) (h : acc < 128 ^ k) (hk : k ≤ 9) (hb : b < 128) (h9 : k = 9 → b ≤ 1) : (acc ||| b * 128 ^ k) = acc + b * 128 ^ k ∧ acc + b * 128 ^ k < 18446744073709551616 := by
  rw [pow_128] at *
  constructor
  · rw [Nat.or_comm, Nat.add_comm]
    exact nat_join (7 * k) _ _ (Nat.mul_mod_left _ _) h
  · have e : acc + b * 2 ^ (7 * k) < (b + 1) * 2 ^ (7 * k) := by rw [Nat.add_mul]; omega
    refine Nat.lt_of_lt_of_le e ?_
    rcases Nat.lt_or_ge k 9 with h1 | h1
    · have : (b + 1) * 2 ^ (7 * k) ≤ 128 * 2 ^ 56 := Nat.mul_le_mul (by omega) (Nat.pow_le_pow_right (by decide) (by omega))
      omega
    · obtain rfl : k = 9 := by omega
      have := h9 rfl
      have : (b + 1) * 2 ^ (7 * 9) ≤ 2 * 2 ^ 63 := Nat.mul_le_mul (by omega) (by decide)
      omega
theorem or_walk (acc b k : Nat) (h : acc < 128 ^ k) (hk : k ≤ 9) (hb : b < 128) (h9 : k = 9 → b ≤ 1) : bits .or .u64 (acc : Int) (IntKind.u64.wrap ((b : Int) * 2 ^ (7 * k))) = ((acc + b * 128 ^ k : Nat) : Int) := by
  obtain ⟨h1, h2⟩ := or_add acc b k h hk hb h9
  have e : (b : Int) * 2 ^ (7 * k) = ((b * 128 ^ k : Nat) : Int) := by rw [pow_128]; simp
  rw [e, IntWalk.u64_in _ ⟨by omega, by omega⟩]
  rw [u64_or_nat _ _ (by omega) (by omega), h1]
theorem or_walk9 (acc b k : Nat) (h : acc < 128 ^ k) (hk : (k : Int) = 9) (hb : (b : Int) ≤ 1) : bits .or .u64 (acc : Int) ((b : Int) * 9223372036854775808) = ((acc + b * 128 ^ k : Nat) : Int) := by
  obtain rfl : k = 9 := by omega
  rw [← or_walk acc b 9 h (by omega) (by omega) (by omega), IntWalk.u64_in _ ⟨by omega, by omega⟩, show (2 : Int) ^ (7 * 9) = 9223372036854775808 by simp]
theorem or_more (acc b k : Nat) (h : acc < 128 ^ k) (hk : k ≤ 9) (hk' : ¬ (k : Int) = 9) (hb : 128 ≤ (b : Int)) (hb' : b < 256) : bits .or .u64 (acc : Int) (IntKind.u64.wrap (((b : Int) - 128) % 256 * 2 ^ (7 * k))) = ((acc + (b - 128) * 128 ^ k : Nat) : Int) := by
  rw [← or_walk acc (b - 128) k h hk (by omega) (by omega), show ((b : Int) - 128) % 256 = ((b - 128 : Nat) : Int) by omega]
theorem acc_next (acc b k : Nat) (h : acc < 128 ^ k) (hb : b < 128) : acc + b * 128 ^ k < 128 ^ (k + 1) := by
  have e : acc + b * 128 ^ k < (b + 1) * 128 ^ k := by rw [Nat.add_mul]; omega
  refine Nat.lt_of_lt_of_le e ?_
  rw [Nat.pow_succ, Nat.mul_comm (128 ^ k) 128]
  exact Nat.mul_le_mul_right _ (by omega)
theorem fin3 {a b c a' b' c' : Int} (h1 : a = a') (h2 : b = b') (h3 : c = c') : Ending.returned (.tuple #[.int .u64 a, .int .i64 b, .int .i64 c]) = .returned (.tuple #[.int .u64 a', .int .i64 b', .int .i64 c']) := by rw [h1, h2, h3]
def zig (z : Int) : Nat := (if 0 ≤ z then 2 * z else -2 * z - 1).toNat
def zag (n : Nat) : Int := if n % 2 = 0 then ((n / 2 : Nat) : Int) else - ((n / 2 : Nat) : Int) - 1
theorem zig_nonneg (z : Int) (h : 0 ≤ z) : (zig z : Int) = 2 * z := by unfold zig; rw [if_pos h]; omega
theorem zig_neg (z : Int) (h : z < 0) : (zig z : Int) = -2 * z - 1 := by unfold zig; rw [if_neg (by omega)]; omega
theorem zig_le (z : Int) (h0 : -9223372036854775808 ≤ z) (h1 : z ≤ 9223372036854775807) : zig z ≤ 18446744073709551615 := by
  rcases Int.lt_or_le z 0 with h | h
  · have := zig_neg z h; omega
  · have := zig_nonneg z h; omega
theorem zag_even (n : Nat) (h : n % 2 = 0) : zag n = ((n / 2 : Nat) : Int) := by unfold zag; rw [if_pos h]
theorem zag_odd (n : Nat) (h : ¬ n % 2 = 0) : zag n = - ((n / 2 : Nat) : Int) - 1 := by unfold zag; rw [if_neg h]
theorem zag_le (n : Nat) (h : n ≤ 18446744073709551615) : -9223372036854775808 ≤ zag n ∧ zag n ≤ 9223372036854775807 := by
  by_cases he : n % 2 = 0
  · rw [zag_even n he]; omega
  · rw [zag_odd n he]; omega
theorem zag_zig (z : Int) : zag (zig z) = z := by
  rcases Int.lt_or_le z 0 with h | h
  · have := zig_neg z h; rw [zag_odd _ (by omega)]; omega
  · have := zig_nonneg z h; rw [zag_even _ (by omega)]; omega
theorem zig_zag (n : Nat) : zig (zag n) = n := by
  by_cases he : n % 2 = 0
  · have := zig_nonneg (zag n) (by rw [zag_even n he]; omega); rw [zag_even n he] at *; omega
  · have := zig_neg (zag n) (by rw [zag_odd n he]; omega); rw [zag_odd n he] at *; omega
theorem xor_u64_ones (a : Nat) (h : a ≤ 18446744073709551615) : bits .xor .u64 (a : Int) 18446744073709551615 = 18446744073709551615 - a := by
  have h1 : BitVec.ofInt 64 18446744073709551615 = BitVec.allOnes 64 := by decide
  show IntKind.u64.wrap ((BitVec.ofInt 64 (a : Int) ^^^ BitVec.ofInt 64 18446744073709551615).toNat : Int) = _
  rw [h1, BitVec.xor_allOnes, BitVec.toNat_not, ofInt_u64 a (by omega), IntKind.wrap_u64]
  omega
theorem xor_i64_ones (a : Nat) (h : a ≤ 9223372036854775807) : bits .xor .i64 (a : Int) (-1) = - a - 1 := by
  have h1 : BitVec.ofInt 64 (-1) = BitVec.allOnes 64 := by decide
  show IntKind.i64.wrap ((BitVec.ofInt 64 (a : Int) ^^^ BitVec.ofInt 64 (-1)).toNat : Int) = _
  rw [h1, BitVec.xor_allOnes, BitVec.toNat_not, ofInt_u64 a (by omega), IntKind.wrap_i64]
  omega
theorem xor_i64_zero (a : Nat) (h : a ≤ 9223372036854775807) : bits .xor .i64 (a : Int) 0 = a := by
  show IntKind.i64.wrap ((BitVec.ofInt 64 (a : Int) ^^^ BitVec.ofInt 64 0).toNat : Int) = _
  rw [show BitVec.ofInt 64 0 = 0#64 by decide, BitVec.xor_zero, ofInt_u64 a (by omega), IntKind.wrap_i64]
  omega
theorem zig_walk (z : Int) (h0 : -9223372036854775808 ≤ z) (h1 : z ≤ 9223372036854775807) :
    bits .xor .u64 (IntKind.u64.wrap (IntKind.u64.wrap z * 2)) (IntKind.u64.wrap (z / 9223372036854775808)) = (zig z : Int) := by
  simp only [IntKind.wrap_u64]
  rcases Int.lt_or_le z 0 with h | h
  · have e1 : z % 18446744073709551616 * 2 % 18446744073709551616 = (((2 * z + 18446744073709551616).toNat : Nat) : Int) := by omega
    have e2 : z / 9223372036854775808 % 18446744073709551616 = 18446744073709551615 := by omega
    rw [e1, e2, xor_u64_ones _ (by omega), zig_neg z h]; omega
  · have e1 : z % 18446744073709551616 * 2 % 18446744073709551616 = (((2 * z).toNat : Nat) : Int) := by omega
    have e2 : z / 9223372036854775808 % 18446744073709551616 = ((0 : Nat) : Int) := by omega
    rw [e1, e2, u64_xor_nat _ _ (by omega) (by omega), Nat.xor_zero, zig_nonneg z h]; omega
theorem zag_walk (n : Nat) (h1 : n ≤ 18446744073709551615) :
    bits .xor .i64 ((n : Int) / 2) (wrap64 (-wrap64 (bits .and .u64 (n : Int) 1))) = zag n := by
  have e : bits .and .u64 (n : Int) 1 = ((n % 2 : Nat) : Int) := by
    have := u64_and_nat n 1 (by omega) (by omega)
    rw [nat_mask1] at this
    exact this
  rw [e, show (n : Int) / 2 = ((n / 2 : Nat) : Int) by omega]
  by_cases he : n % 2 = 0
  · rw [he, show wrap64 (-wrap64 ((0 : Nat) : Int)) = 0 by simp only [wrap64]; omega, xor_i64_zero _ (by omega), zag_even n he]
  · rw [show n % 2 = 1 by omega, show wrap64 (-wrap64 ((1 : Nat) : Int)) = -1 by simp only [wrap64]; omega, xor_i64_ones _ (by omega), zag_odd n he]
end Go.Proofs.Ytkklchobiiajgaa
