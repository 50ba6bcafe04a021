/- Plain facts on two numbers woven into one, of no program: how the bits lie, that weaving and parting undo each other, that the order is kept. No conditions beyond those typed. -/
import Derived.WalkKit
namespace Go.Proofs.YtfoncphdbaaedaaGreatDoor
set_option linter.unusedVariables false
/-- one step of the spreading of bits, in 32 bits -/
def sprStep (s m v : Nat) : Nat := (v ||| (v <<< s) % 4294967296) &&& m
def spr (v : Nat) : Nat := sprStep 1 1431655765 (sprStep 2 858993459 (sprStep 4 252645135 (sprStep 8 16711935 (sprStep 16 65535 v))))
def gatStep (s m v : Nat) : Nat := (v ||| v >>> s) &&& m
def gat (v : Nat) : Nat := gatStep 8 65535 (gatStep 4 16711935 (gatStep 2 252645135 (gatStep 1 858993459 (gatStep 0 1431655765 v))))
theorem sprStep_bit (s m v j : Nat) : (sprStep s m v).testBit j = ((v.testBit j || (decide (j < 32) && (decide (s ≤ j) && v.testBit (j - s)))) && m.testBit j) := by
  unfold sprStep
  rw [Nat.testBit_and, Nat.testBit_or, show (4294967296 : Nat) = 2 ^ 32 from rfl, Nat.testBit_mod_two_pow, Nat.testBit_shiftLeft]
theorem gatStep_bit (s m v j : Nat) : (gatStep s m v).testBit j = ((v.testBit j || v.testBit (s + j)) && m.testBit j) := by
  unfold gatStep
  rw [Nat.testBit_and, Nat.testBit_or, Nat.testBit_shiftRight]
theorem lt_bit {v n j : Nat} (h : v < 2 ^ n) (hj : n ≤ j) : v.testBit j = false :=
  Nat.testBit_lt_two_pow (Nat.lt_of_lt_of_le h (Nat.pow_le_pow_right (by omega) hj))
theorem m0_bit : ∀ k, k < 32 → Nat.testBit 65535 k = decide (k < 16) := by decide +kernel
theorem m1_bit : ∀ k, k < 32 → Nat.testBit 16711935 k = decide (k % 16 < 8) := by decide +kernel
theorem m2_bit : ∀ k, k < 32 → Nat.testBit 252645135 k = decide (k % 8 < 4) := by decide +kernel
theorem m3_bit : ∀ k, k < 32 → Nat.testBit 858993459 k = decide (k % 4 < 2) := by decide +kernel
theorem m4_bit : ∀ k, k < 32 → Nat.testBit 1431655765 k = decide (k % 2 < 1) := by decide +kernel
theorem spr_bit (v j : Nat) (hv : v < 65536) : (spr v).testBit j = (decide (j % 2 = 0) && v.testBit (j / 2)) := by
  by_cases hj : j < 32
  · have hz : ∀ k, 16 ≤ k → v.testBit k = false := fun k hk => lt_bit (n := 16) hv hk
    unfold spr
    iterate 32 (cases j with
      | zero => simp only [sprStep_bit]; simp +decide [hz, m0_bit, m1_bit, m2_bit, m3_bit, m4_bit]
      | succ j => ?_)
    all_goals omega
  · have h1 : v.testBit (j / 2) = false := lt_bit (n := 16) hv (by omega)
    unfold spr
    rw [sprStep_bit, show Nat.testBit 1431655765 j = false from lt_bit (n := 32) (by decide) (by omega), h1]
    simp
theorem gat_bit (v j : Nat) : (gat v).testBit j = (decide (j < 16) && v.testBit (2 * j)) := by
  by_cases hj : j < 16
  · unfold gat
    iterate 16 (cases j with
      | zero => simp only [gatStep_bit]; simp +decide [m0_bit, m1_bit, m2_bit, m3_bit, m4_bit]
      | succ j => ?_)
    all_goals omega
  · unfold gat
    rw [gatStep_bit, show Nat.testBit 65535 j = false from lt_bit (n := 16) (by decide) (by omega)]
    simp [hj]
theorem and_lt {a b n : Nat} (h : b < 2 ^ n) : a &&& b < 2 ^ n := Nat.and_lt_two_pow a h
theorem spr_lt (v : Nat) : spr v < 4294967296 := Nat.lt_of_le_of_lt (Nat.and_le_right) (by decide)
theorem gat_lt (v : Nat) : gat v < 65536 := Nat.lt_of_le_of_lt (Nat.and_le_right) (by decide)
/-- two numbers of 16 bits woven into one -/
def weave (x y : Nat) : Nat := spr x ||| (spr y <<< 1) % 4294967296
theorem weave_bit (x y j : Nat) (hx : x < 65536) (hy : y < 65536) : (weave x y).testBit j = if j % 2 = 0 then x.testBit (j / 2) else y.testBit (j / 2) := by
  unfold weave
  rw [Nat.testBit_or, show (4294967296 : Nat) = 2 ^ 32 from rfl, Nat.testBit_mod_two_pow, Nat.testBit_shiftLeft, spr_bit x j hx, spr_bit y (j - 1) hy]
  by_cases h0 : j % 2 = 0
  · rw [if_pos h0]
    by_cases h1 : j < 1
    · simp [h0, show ¬ 1 ≤ j by omega]
    · simp [h0, show ¬ (j - 1) % 2 = 0 by omega]
  · rw [if_neg h0]
    by_cases h2 : j < 32
    · simp [h0, h2, show (j - 1) % 2 = 0 by omega, show 1 ≤ j by omega, show (j - 1) / 2 = j / 2 by omega]
    · simp [h0, h2, lt_bit (n := 16) hy (show 16 ≤ j / 2 by omega)]
theorem weave_lt (x y : Nat) : weave x y < 4294967296 := Nat.or_lt_two_pow (n := 32) (spr_lt x) (Nat.mod_lt _ (by decide))
theorem weave_gat (x y : Nat) (hx : x < 65536) (hy : y < 65536) : gat (weave x y) = x := by
  apply Nat.eq_of_testBit_eq
  intro j
  rw [gat_bit, weave_bit _ _ _ hx hy, if_pos (by omega), show 2 * j / 2 = j by omega]
  by_cases hj : j < 16
  · simp [hj]
  · simp [hj, lt_bit (n := 16) hx (show 16 ≤ j by omega)]
theorem weave_gat1 (x y : Nat) (hx : x < 65536) (hy : y < 65536) : gat (weave x y / 2) = y := by
  apply Nat.eq_of_testBit_eq
  intro j
  rw [gat_bit, ← Nat.testBit_succ, weave_bit _ _ _ hx hy, if_neg (by omega), show (2 * j + 1) / 2 = j by omega]
  by_cases hj : j < 16
  · simp [hj]
  · simp [hj, lt_bit (n := 16) hy (show 16 ≤ j by omega)]
theorem weave_shift (x y k : Nat) (hx : x < 65536) (hy : y < 65536) : weave x y >>> (2 * k) = weave (x >>> k) (y >>> k) := by
  have hx' : x >>> k < 65536 := by rw [Nat.shiftRight_eq_div_pow]; exact Nat.lt_of_le_of_lt (Nat.div_le_self _ _) hx
  have hy' : y >>> k < 65536 := by rw [Nat.shiftRight_eq_div_pow]; exact Nat.lt_of_le_of_lt (Nat.div_le_self _ _) hy
  apply Nat.eq_of_testBit_eq
  intro j
  rw [Nat.testBit_shiftRight, weave_bit _ _ _ hx hy, weave_bit _ _ _ hx' hy', Nat.testBit_shiftRight, Nat.testBit_shiftRight, show (2 * k + j) % 2 = j % 2 by omega, show (2 * k + j) / 2 = k + j / 2 by omega]
theorem weave_xor (x y z w : Nat) (hx : x < 65536) (hy : y < 65536) (hz : z < 65536) (hw : w < 65536) : weave x y ^^^ weave z w = weave (x ^^^ z) (y ^^^ w) := by
  apply Nat.eq_of_testBit_eq
  intro j
  rw [Nat.testBit_xor, weave_bit _ _ _ hx hy, weave_bit _ _ _ hz hw, weave_bit _ _ _ (Nat.xor_lt_two_pow (n := 16) hx hz) (Nat.xor_lt_two_pow (n := 16) hy hw), Nat.testBit_xor, Nat.testBit_xor]
  split <;> rfl
theorem weave_and (x y : Nat) (hx : x < 65536) (hy : y < 65536) : weave x y &&& weave 65535 0 = weave x 0 := by
  apply Nat.eq_of_testBit_eq
  intro j
  rw [Nat.testBit_and, weave_bit _ _ _ hx hy, weave_bit _ _ _ (by decide) (by decide), weave_bit _ _ _ hx (by decide)]
  split
  · by_cases hj : j / 2 < 16
    · rw [m0_bit _ (by omega)]; simp [hj]
    · simp [lt_bit (n := 16) hx (show 16 ≤ j / 2 by omega)]
  · simp
/-- the same by sums -/
def sp : Nat → Nat → Nat
  | 0, _ => 0
  | n+1, x => x % 2 + 4 * sp n (x / 2)
theorem sp_mono : ∀ (n x z : Nat), x ≤ z → z < 2 ^ n → sp n x ≤ sp n z ∧ (x < z → sp n x < sp n z)
  | 0, x, z, h, hz => ⟨Nat.le_refl _, fun h1 => by omega⟩
  | n+1, x, z, h, hz => by
    have ih := sp_mono n (x / 2) (z / 2) (by omega) (by rw [Nat.pow_succ] at hz; omega)
    show x % 2 + 4 * sp n (x / 2) ≤ z % 2 + 4 * sp n (z / 2) ∧ (x < z → x % 2 + 4 * sp n (x / 2) < z % 2 + 4 * sp n (z / 2))
    rcases Nat.lt_or_ge (x / 2) (z / 2) with h1 | h1
    · have := ih.2 h1
      omega
    · have : x / 2 = z / 2 := by omega
      rw [this]
      omega
def wv : Nat → Nat → Nat → Nat
  | 0, _, _ => 0
  | n+1, x, y => x % 2 + 2 * (y % 2) + 4 * wv n (x / 2) (y / 2)
theorem wv_sum : ∀ (n x y : Nat), wv n x y = sp n x + 2 * sp n y
  | 0, _, _ => rfl
  | n+1, x, y => by
    show x % 2 + 2 * (y % 2) + 4 * wv n (x / 2) (y / 2) = x % 2 + 4 * sp n (x / 2) + 2 * (y % 2 + 4 * sp n (y / 2))
    rw [wv_sum n]; omega
theorem wv_bit : ∀ (n x y j : Nat), x < 2 ^ n → y < 2 ^ n → (wv n x y).testBit j = if j % 2 = 0 then x.testBit (j / 2) else y.testBit (j / 2)
  | 0, x, y, j, hx, hy => by
    have : x = 0 := by simpa using hx
    have : y = 0 := by simpa using hy
    subst x; subst y
    simp [wv]
  | n+1, x, y, 0, hx, hy => by
    show (x % 2 + 2 * (y % 2) + 4 * wv n (x / 2) (y / 2)).testBit 0 = _
    simp [Nat.testBit_zero]
    omega
  | n+1, x, y, 1, hx, hy => by
    show (x % 2 + 2 * (y % 2) + 4 * wv n (x / 2) (y / 2)).testBit 1 = _
    rw [show (1 : Nat) = 0 + 1 from rfl, Nat.testBit_succ, show (x % 2 + 2 * (y % 2) + 4 * wv n (x / 2) (y / 2)) / 2 = y % 2 + 2 * wv n (x / 2) (y / 2) by omega]
    simp [Nat.testBit_zero]
  | n+1, x, y, j+2, hx, hy => by
    show (x % 2 + 2 * (y % 2) + 4 * wv n (x / 2) (y / 2)).testBit (j + 1 + 1) = _
    rw [Nat.testBit_succ, Nat.testBit_succ, show (x % 2 + 2 * (y % 2) + 4 * wv n (x / 2) (y / 2)) / 2 / 2 = wv n (x / 2) (y / 2) by omega,
      wv_bit n _ _ j (by rw [Nat.pow_succ] at hx; omega) (by rw [Nat.pow_succ] at hy; omega), show (j + 2) % 2 = j % 2 by omega, show (j + 2) / 2 = j / 2 + 1 by omega, Nat.testBit_succ, Nat.testBit_succ]
theorem weave_sum (x y : Nat) (hx : x < 65536) (hy : y < 65536) : weave x y = sp 16 x + 2 * sp 16 y := by
  rw [← wv_sum]
  apply Nat.eq_of_testBit_eq
  intro j
  rw [weave_bit _ _ _ hx hy, wv_bit 16 x y j hx hy]
theorem weave_mono (x y z w : Nat) (hz : z < 65536) (hw : w < 65536) (h1 : x ≤ z) (h2 : y ≤ w) : weave x y ≤ weave z w := by
  rw [weave_sum _ _ (by omega) (by omega), weave_sum _ _ hz hw]
  have a := (sp_mono 16 x z h1 hz).1
  have b := (sp_mono 16 y w h2 hw).1
  omega
/-- bit by bit, as the reference weaves and parts -/
def wvR (x y : Nat) : Nat → Nat
  | 0 => 0
  | k+1 => wvR x y k ||| (x >>> k % 2) <<< (2 * k) ||| (y >>> k % 2) <<< (2 * k + 1)
def gtR (m o : Nat) : Nat → Nat
  | 0 => 0
  | k+1 => gtR m o k ||| (m >>> (2 * k + o) % 2) <<< k
theorem one_bit (v k s j : Nat) : ((v >>> k % 2) <<< s).testBit j = (decide (j = s) && v.testBit k) := by
  rw [Nat.testBit_shiftLeft]
  by_cases h : j = s
  · subst h; simp [Nat.testBit_eq_decide_div_mod_eq, Nat.shiftRight_eq_div_pow]
  · by_cases h2 : s ≤ j
    · have : (v >>> k % 2).testBit (j - s) = false := lt_bit (n := 1) (Nat.mod_lt _ (by decide)) (by omega)
      simp [h, this]
    · simp [h, h2]
theorem wvR_bit (x y j : Nat) : ∀ k, (wvR x y k).testBit j = (decide (j < 2 * k) && if j % 2 = 0 then x.testBit (j / 2) else y.testBit (j / 2))
  | 0 => by simp [wvR]
  | k+1 => by
    rw [wvR, Nat.testBit_or, Nat.testBit_or, wvR_bit x y j k, one_bit, one_bit]
    by_cases h1 : j = 2 * k
    · subst h1; simp
    · by_cases h2 : j = 2 * k + 1
      · subst h2
        simp [show (2 * k + 1) / 2 = k by omega, show 2 * k + 1 < 2 * (k + 1) by omega]
      · by_cases h3 : j < 2 * k
        · simp [h1, h2, h3, show j < 2 * (k + 1) by omega]
        · simp [h1, h2, h3, show ¬ j < 2 * (k + 1) by omega]
theorem gtR_bit (m o j : Nat) : ∀ k, (gtR m o k).testBit j = (decide (j < k) && m.testBit (2 * j + o))
  | 0 => by simp [gtR]
  | k+1 => by
    rw [gtR, Nat.testBit_or, gtR_bit m o j k, one_bit]
    by_cases h1 : j = k
    · subst h1; simp
    · by_cases h3 : j < k
      · simp [h1, h3, show j < k + 1 by omega]
      · simp [h1, h3, show ¬ j < k + 1 by omega]
theorem wvR_eq (x y : Nat) (hx : x < 65536) (hy : y < 65536) : wvR x y 16 = weave x y := by
  apply Nat.eq_of_testBit_eq
  intro j
  rw [wvR_bit, weave_bit _ _ _ hx hy]
  by_cases hj : j < 32
  · simp [hj]
  · simp [hj, lt_bit (n := 16) hx (show 16 ≤ j / 2 by omega), lt_bit (n := 16) hy (show 16 ≤ j / 2 by omega)]
theorem gtR_eq (m : Nat) : gtR m 0 16 = gat m := by
  apply Nat.eq_of_testBit_eq
  intro j
  rw [gtR_bit, gat_bit, Nat.add_zero]
theorem gtR_eq1 (m : Nat) : gtR m 1 16 = gat (m / 2) := by
  apply Nat.eq_of_testBit_eq
  intro j
  rw [gtR_bit, gat_bit, Nat.testBit_succ]
end Go.Proofs.YtfoncphdbaaedaaGreatDoor
