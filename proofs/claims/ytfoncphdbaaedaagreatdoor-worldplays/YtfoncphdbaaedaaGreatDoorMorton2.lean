/- Contracts of the package morton's outer functions and of their references over this translation. -/
import Derived.Test.YtfoncphdbaaedaaGreatDoorMorton
import Derived.Lib.MinMax
namespace Go.Proofs.YtfoncphdbaaedaaGreatDoor
open Go.RowKit
theorem weave_bits (a b : Nat) (ha : a < 4294967296) : bits .or .u32 (a : Int) ((b : Int) * 2 % 4294967296) = ((a ||| (b <<< 1) % 4294967296 : Nat) : Int) := by
  have e : (b : Int) * (2 : Int) % (4294967296 : Int) = (((b <<< 1) % 4294967296 : Nat) : Int) := by
    rw [Nat.shiftLeft_eq]; simp
  rw [e, u32_or_nat _ _ ha (Nat.mod_lt _ (by decide))]
set_option maxRecDepth 100000 in
set_option maxHeartbeats 400000 in
theorem weave_at (x y : Nat) (hx : x < 65536) (hy : y < 65536) (w : World) (hM : Masks w) :
    Calls Tryz.prog 120 #[.int .u16 x, .int .u16 y] w fun e w' => e = .returned (.int .u32 (weave x y : Nat)) ∧ w' = w := by
  have HM : Hid (Masks w) := hM
  clear hM
  obtain ⟨a, ha⟩ : ∃ a, Hid (a = spr x) := ⟨_, rfl⟩
  obtain ⟨b, hb⟩ : ∃ b, Hid (b = spr y) := ⟨_, rfl⟩
  have hal : a < 4294967296 := by rw [ha.out]; exact spr_lt x
  have hbl : b < 4294967296 := by rw [hb.out]; exact spr_lt y
  go_enter Tryz.func120, Tryz.ntmps120
  go_wp2_with fail
  go_at_call 131
  refine (spread_at x hx _ HM.out).mono ?_
  rintro z w1 ⟨rfl, rfl⟩
  rw [← ha.out]
  go_wp2_with fail
  go_at_call 131
  refine (spread_at y hy _ HM.out).mono ?_
  rintro z w2 ⟨rfl, rfl⟩
  rw [← hb.out]
  go_wp2
  go_ret
  refine ⟨congrArg (fun v => Ending.returned (Value.int .u32 v)) ((weave_bits a b hal).trans ?_), rfl⟩
  rw [ha.out, hb.out]; rfl
set_option maxRecDepth 100000 in
set_option maxHeartbeats 400000 in
theorem split_at (m : Nat) (hm : m < 4294967296) (w : World) (hM : Masks w) :
    Calls Tryz.prog 81 #[.int .u32 m] w fun e w' => e = .returned (.tuple #[.int .u16 (gat m : Nat), .int .u16 (gat (m / 2) : Nat)]) ∧ Below w.heap.size w w' := by
  have HM : Hid (Masks w) := hM
  clear hM
  have e1 := gat_lt m
  have e2 := gat_lt (m / 2)
  go_enter Tryz.func81, Tryz.ntmps81
  go_wp2_with fail
  go_at_call 111
  refine (gather_at m hm _ HM.out).mono ?_
  rintro z w1 ⟨rfl, hb⟩
  go_wp2_with fail
  go_at_call 111
  refine (gather_at (m / 2) (by omega) _ (HM.out.below hb)).mono ?_
  rintro z w2 ⟨rfl, hb2⟩
  go_wp2
  go_ret2
  exact ⟨rfl, below_on hb hb2⟩
set_option maxRecDepth 100000 in
theorem less_at (a b : Int) (w : World) :
    Calls Tryz.prog 110 #[.int .u32 a, .int .u32 b] w fun e w' => e = .returned (.bool (decide (a < b))) ∧ w' = w := by
  go_enter Tryz.func110, Tryz.ntmps110
  go_wp2
  go_ret
  exact ⟨rfl, rfl⟩
/-- how often a parent halves -/
def held (n : Int) : Nat := (max 0 (min n 16)).toNat
theorem held_shift (m : Nat) (n : Int) : (m : Int) / 2 ^ (2 * max 0 (min n 16)).toNat = ((m >>> (2 * held n) : Nat) : Int) := by
  rw [Nat.shiftRight_eq_div_pow, show (2 * max 0 (min n 16)).toNat = 2 * held n by unfold held; omega]
  simp
theorem shr_lt (a k B : Nat) (h : a < B) : a >>> k < B := by rw [Nat.shiftRight_eq_div_pow]; exact Nat.lt_of_le_of_lt (Nat.div_le_self _ _) h
theorem bit16 (a k : Nat) (ha : a < 65536) : bits .and .u16 ((a : Int) / 2 ^ k) 1 = ((a >>> k % 2 : Nat) : Int) := by
  have := u16_and_nat (a >>> k) 1 (shr_lt a k _ ha) (by omega)
  rw [Nat.and_one_is_mod, Nat.shiftRight_eq_div_pow] at this
  rw [Nat.shiftRight_eq_div_pow]
  simpa using this
theorem bit32 (a k : Nat) (ha : a < 4294967296) : bits .and .u32 ((a : Int) / 2 ^ k) 1 = ((a >>> k % 2 : Nat) : Int) := by
  have := u32_and_nat (a >>> k) 1 (shr_lt a k _ ha) (by omega)
  rw [Nat.and_one_is_mod, Nat.shiftRight_eq_div_pow] at this
  rw [Nat.shiftRight_eq_div_pow]
  simpa using this
theorem put_lt (b s n : Nat) (hb : b < 2) (hs : s < n) : b <<< s < 2 ^ n := by
  rw [Nat.shiftLeft_eq]
  have h1 : 2 ^ (s + 1) ≤ 2 ^ n := Nat.pow_le_pow_right (by omega) hs
  have h2 : b * 2 ^ s ≤ 1 * 2 ^ s := Nat.mul_le_mul_right _ (by omega)
  have h3 : 0 < 2 ^ s := Nat.pow_pos (by omega)
  rw [Nat.pow_succ] at h1
  omega
theorem put32 (b s : Nat) (hb : b < 2) (hs : s < 32) : (b : Int) % (4294967296 : Int) * 2 ^ s % (4294967296 : Int) = ((b <<< s : Nat) : Int) := by
  have h : b <<< s < 4294967296 := put_lt b s 32 hb hs
  rw [Int.emod_eq_of_lt (a := (b : Int)) (by omega) (by omega), show (b : Int) * 2 ^ s = ((b <<< s : Nat) : Int) by rw [Nat.shiftLeft_eq]; simp]
  exact Int.emod_eq_of_lt (Int.natCast_nonneg _) (Int.ofNat_lt.2 h)
theorem put16 (b s : Nat) (hb : b < 2) (hs : s < 16) : (b : Int) % (65536 : Int) * 2 ^ s % (65536 : Int) = ((b <<< s : Nat) : Int) := by
  have h : b <<< s < 65536 := put_lt b s 16 hb hs
  rw [Int.emod_eq_of_lt (a := (b : Int)) (by omega) (by omega), show (b : Int) * 2 ^ s = ((b <<< s : Nat) : Int) by rw [Nat.shiftLeft_eq]; simp]
  exact Int.emod_eq_of_lt (Int.natCast_nonneg _) (Int.ofNat_lt.2 h)
theorem wvR_lt (x y k : Nat) (hk : k ≤ 16) : wvR x y k < 4294967296 := by
  apply Nat.lt_pow_two_of_testBit (n := 32)
  intro j hj
  rw [wvR_bit]
  simp [show ¬ j < 2 * k by omega]
theorem gtR_lt (m o k : Nat) (hk : k ≤ 16) : gtR m o k < 65536 := by
  apply Nat.lt_pow_two_of_testBit (n := 16)
  intro j hj
  rw [gtR_bit]
  simp [show ¬ j < k by omega]
theorem wvR_step (x y k : Nat) (hx : x < 65536) (hy : y < 65536) (hk : k < 16) : bits .or .u32 (bits .or .u32 (wvR x y k : Nat) (bits .and .u16 ((x : Int) / 2 ^ k) 1 % (4294967296 : Int) * 2 ^ (2 * k) % (4294967296 : Int))) (bits .and .u16 ((y : Int) / 2 ^ k) 1 % (4294967296 : Int) * 2 ^ (2 * k + 1) % (4294967296 : Int)) = ((wvR x y (k + 1) : Nat) : Int) := by
  have l0 := wvR_lt x y k (by omega)
  have l1 := put_lt (x >>> k % 2) (2 * k) 32 (Nat.mod_lt _ (by omega)) (by omega)
  have l2 := put_lt (y >>> k % 2) (2 * k + 1) 32 (Nat.mod_lt _ (by omega)) (by omega)
  rw [bit16 x k hx, bit16 y k hy, put32 _ _ (Nat.mod_lt _ (by omega)) (by omega), put32 _ _ (Nat.mod_lt _ (by omega)) (by omega), u32_or_nat _ _ l0 l1, u32_or_nat _ _ (Nat.or_lt_two_pow (n := 32) l0 l1) l2]
  rfl
theorem gtR_step (m o k : Nat) (hm : m < 4294967296) (hk : k < 16) : bits .or .u16 (gtR m o k : Nat) (bits .and .u32 ((m : Int) / 2 ^ (2 * k + o)) 1 % (65536 : Int) * 2 ^ k % (65536 : Int)) = ((gtR m o (k + 1) : Nat) : Int) := by
  have l0 := gtR_lt m o k (by omega)
  have l1 := put_lt (m >>> (2 * k + o) % 2) k 16 (Nat.mod_lt _ (by omega)) (by omega)
  rw [bit32 m _ hm, put16 _ _ (Nat.mod_lt _ (by omega)) (by omega), u16_or_nat _ _ l0 l1]
  rfl
set_option maxRecDepth 100000 in
set_option maxHeartbeats 400000 in
theorem ref_weave (x y : Nat) (hx : x < 65536) (hy : y < 65536) (w : World) :
    Calls Tryz.prog 56 #[.int .u16 x, .int .u16 y] w fun e w' => e = .returned (.int .u32 (weave x y : Nat)) ∧ w' = w := by
  go_enter Tryz.func56, Tryz.ntmps56
  go_wp2
  go_loop [5, 6] (fun c i => ∃ k : Nat, k ≤ 16 ∧ i = .int .i64 k ∧ c = .int .u32 (wvR x y k : Nat)) (fun _ i => 16 - (intOf i).toNat)
  case atStart => exact ⟨0, by omega, rfl, rfl⟩
  case round =>
    obtain ⟨k, hk, rfl, rfl⟩ := hrel
    by_cases hlt : k < 16
    · go_wp2
      exact ⟨⟨k + 1, by omega, rfl, congrArg (Value.int .u32) (wvR_step x y k hx hy hlt)⟩, by simp [intOf]; omega⟩
    · obtain rfl : k = 16 := by omega
      rw [wvR_eq x y hx hy]
      have hl := weave_lt x y
      go_wp2
      go_ret
      exact ⟨rfl, rfl⟩
end Go.Proofs.YtfoncphdbaaedaaGreatDoor
