/- Z-order: plain; contracts of morton; what the listed table is. -/
import Derived.Test.YtpedngbjpbeanaaGreatDoorSA
import Derived.Test.YtpedngbjpbeanaaGreatDoorGA
import Derived.WalkKit
import Derived.WalkSpells
import Derived.WalkLawsBesides
import Derived.Laws.BitsAllLaws
import Derived.BigQuiet
import Derived.Lib.MinMax
import Derived.ProofKit
import Derived.LaidMore
import Derived.Lay
import Derived.OpenShut
import Derived.Stop.Joined
namespace Go.Proofs.YtpedngbjpbeanaaGreatDoor
section
set_option linter.unusedVariables false
/-- one step of the spreading of bits, in 32 bits -/
def sprStep (s m v : Nat) : Nat := (v ||| (v <<< s) % 4294967296) &&& m
def spr (v : Nat) : Nat := sprStep 1 1431655765 (sprStep 2 858993459 (sprStep 4 252645135 (sprStep 8 16711935 (sprStep 16 65535 v))))
def gatStep (s m v : Nat) : Nat := (v ||| v >>> s) &&& m
def gat (v : Nat) : Nat := gatStep 8 65535 (gatStep 4 16711935 (gatStep 2 252645135 (gatStep 1 858993459 (gatStep 0 1431655765 v))))
theorem sprStep_bit (s m v j : Nat) : (sprStep s m v).testBit j = ((v.testBit j || (decide (j < 32) && (decide (s ≤ j) && v.testBit (j - s)))) && m.testBit j) := by
  unfold sprStep
  rw [Nat.testBit_and, Nat.testBit_or, show (4294967296 : Nat) = 2 ^ 32 from rfl, Nat.testBit_mod_two_pow, Nat.testBit_shiftLeft]
theorem gatStep_bit (s m v j : Nat) : (gatStep s m v).testBit j = ((v.testBit j || v.testBit (s + j)) && m.testBit j) := by
  unfold gatStep
  rw [Nat.testBit_and, Nat.testBit_or, Nat.testBit_shiftRight]
theorem lt_bit {v n j : Nat} (h : v < 2 ^ n) (hj : n ≤ j) : v.testBit j = false :=
  Nat.testBit_lt_two_pow (Nat.lt_of_lt_of_le h (Nat.pow_le_pow_right (by omega) hj))
theorem m0_bit : ∀ k, k < 32 → Nat.testBit 65535 k = decide (k < 16) := by decide +kernel
theorem m1_bit : ∀ k, k < 32 → Nat.testBit 16711935 k = decide (k % 16 < 8) := by decide +kernel
theorem m2_bit : ∀ k, k < 32 → Nat.testBit 252645135 k = decide (k % 8 < 4) := by decide +kernel
theorem m3_bit : ∀ k, k < 32 → Nat.testBit 858993459 k = decide (k % 4 < 2) := by decide +kernel
theorem m4_bit : ∀ k, k < 32 → Nat.testBit 1431655765 k = decide (k % 2 < 1) := by decide +kernel
theorem spr_bit (v j : Nat) (hv : v < 65536) : (spr v).testBit j = (decide (j % 2 = 0) && v.testBit (j / 2)) := by
  by_cases hj : j < 32
  · have hz : ∀ k, 16 ≤ k → v.testBit k = false := fun k hk => lt_bit (n := 16) hv hk
    unfold spr
    iterate 32 (cases j with
      | zero => simp only [sprStep_bit]; simp +decide [hz, m0_bit, m1_bit, m2_bit, m3_bit, m4_bit]
      | succ j => ?_)
    all_goals omega
  · have h1 : v.testBit (j / 2) = false := lt_bit (n := 16) hv (by omega)
    unfold spr
    rw [sprStep_bit, show Nat.testBit 1431655765 j = false from lt_bit (n := 32) (by decide) (by omega), h1]
    simp
theorem gat_bit (v j : Nat) : (gat v).testBit j = (decide (j < 16) && v.testBit (2 * j)) := by
  by_cases hj : j < 16
  · unfold gat
    iterate 16 (cases j with
      | zero => simp only [gatStep_bit]; simp +decide [m0_bit, m1_bit, m2_bit, m3_bit, m4_bit]
      | succ j => ?_)
    all_goals omega
  · unfold gat
    rw [gatStep_bit, show Nat.testBit 65535 j = false from lt_bit (n := 16) (by decide) (by omega)]
    simp [hj]
theorem and_lt {a b n : Nat} (h : b < 2 ^ n) : a &&& b < 2 ^ n := Nat.and_lt_two_pow a h
theorem spr_lt (v : Nat) : spr v < 4294967296 := Nat.lt_of_le_of_lt (Nat.and_le_right) (by decide)
theorem gat_lt (v : Nat) : gat v < 65536 := Nat.lt_of_le_of_lt (Nat.and_le_right) (by decide)
/-- two numbers of 16 bits woven into one -/
def weave (x y : Nat) : Nat := spr x ||| (spr y <<< 1) % 4294967296
theorem weave_bit (x y j : Nat) (hx : x < 65536) (hy : y < 65536) : (weave x y).testBit j = if j % 2 = 0 then x.testBit (j / 2) else y.testBit (j / 2) := by
  unfold weave
  rw [Nat.testBit_or, show (4294967296 : Nat) = 2 ^ 32 from rfl, Nat.testBit_mod_two_pow, Nat.testBit_shiftLeft, spr_bit x j hx, spr_bit y (j - 1) hy]
  by_cases h0 : j % 2 = 0
  · rw [if_pos h0]
    by_cases h1 : j < 1
    · simp [h0, show ¬ 1 ≤ j by omega]
    · simp [h0, show ¬ (j - 1) % 2 = 0 by omega]
  · rw [if_neg h0]
    by_cases h2 : j < 32
    · simp [h0, h2, show (j - 1) % 2 = 0 by omega, show 1 ≤ j by omega, show (j - 1) / 2 = j / 2 by omega]
    · simp [h0, h2, lt_bit (n := 16) hy (show 16 ≤ j / 2 by omega)]
theorem weave_lt (x y : Nat) : weave x y < 4294967296 := Nat.or_lt_two_pow (n := 32) (spr_lt x) (Nat.mod_lt _ (by decide))
theorem weave_gat (x y : Nat) (hx : x < 65536) (hy : y < 65536) : gat (weave x y) = x := by
  apply Nat.eq_of_testBit_eq
  intro j
  rw [gat_bit, weave_bit _ _ _ hx hy, if_pos (by omega), show 2 * j / 2 = j by omega]
  by_cases hj : j < 16
  · simp [hj]
  · simp [hj, lt_bit (n := 16) hx (show 16 ≤ j by omega)]
theorem weave_gat1 (x y : Nat) (hx : x < 65536) (hy : y < 65536) : gat (weave x y / 2) = y := by
  apply Nat.eq_of_testBit_eq
  intro j
  rw [gat_bit, ← Nat.testBit_succ, weave_bit _ _ _ hx hy, if_neg (by omega), show (2 * j + 1) / 2 = j by omega]
  by_cases hj : j < 16
  · simp [hj]
  · simp [hj, lt_bit (n := 16) hy (show 16 ≤ j by omega)]
theorem weave_shift (x y k : Nat) (hx : x < 65536) (hy : y < 65536) : weave x y >>> (2 * k) = weave (x >>> k) (y >>> k) := by
  have hx' : x >>> k < 65536 := by rw [Nat.shiftRight_eq_div_pow]; exact Nat.lt_of_le_of_lt (Nat.div_le_self _ _) hx
  have hy' : y >>> k < 65536 := by rw [Nat.shiftRight_eq_div_pow]; exact Nat.lt_of_le_of_lt (Nat.div_le_self _ _) hy
  apply Nat.eq_of_testBit_eq
  intro j
  rw [Nat.testBit_shiftRight, weave_bit _ _ _ hx hy, weave_bit _ _ _ hx' hy', Nat.testBit_shiftRight, Nat.testBit_shiftRight, show (2 * k + j) % 2 = j % 2 by omega, show (2 * k + j) / 2 = k + j / 2 by omega]
theorem weave_xor (x y z w : Nat) (hx : x < 65536) (hy : y < 65536) (hz : z < 65536) (hw : w < 65536) : weave x y ^^^ weave z w = weave (x ^^^ z) (y ^^^ w) := by
  apply Nat.eq_of_testBit_eq
  intro j
  rw [Nat.testBit_xor, weave_bit _ _ _ hx hy, weave_bit _ _ _ hz hw, weave_bit _ _ _ (Nat.xor_lt_two_pow (n := 16) hx hz) (Nat.xor_lt_two_pow (n := 16) hy hw), Nat.testBit_xor, Nat.testBit_xor]
  split <;> rfl
theorem weave_and (x y : Nat) (hx : x < 65536) (hy : y < 65536) : weave x y &&& weave 65535 0 = weave x 0 := by
  apply Nat.eq_of_testBit_eq
  intro j
  rw [Nat.testBit_and, weave_bit _ _ _ hx hy, weave_bit _ _ _ (by decide) (by decide), weave_bit _ _ _ hx (by decide)]
  split
  · by_cases hj : j / 2 < 16
    · rw [m0_bit _ (by omega)]; simp [hj]
    · simp [lt_bit (n := 16) hx (show 16 ≤ j / 2 by omega)]
  · simp
/-- the same by sums -/
def sp : Nat → Nat → Nat
  | 0, _ => 0
  | n+1, x => x % 2 + 4 * sp n (x / 2)
theorem sp_mono : ∀ (n x z : Nat), x ≤ z → z < 2 ^ n → sp n x ≤ sp n z ∧ (x < z → sp n x < sp n z)
  | 0, x, z, h, hz => ⟨Nat.le_refl _, fun h1 => by omega⟩
  | n+1, x, z, h, hz => by
    have ih := sp_mono n (x / 2) (z / 2) (by omega) (by rw [Nat.pow_succ] at hz; omega)
    show x % 2 + 4 * sp n (x / 2) ≤ z % 2 + 4 * sp n (z / 2) ∧ (x < z → x % 2 + 4 * sp n (x / 2) < z % 2 + 4 * sp n (z / 2))
    rcases Nat.lt_or_ge (x / 2) (z / 2) with h1 | h1
    · have := ih.2 h1
      omega
    · have : x / 2 = z / 2 := by omega
      rw [this]
      omega
def wv : Nat → Nat → Nat → Nat
  | 0, _, _ => 0
  | n+1, x, y => x % 2 + 2 * (y % 2) + 4 * wv n (x / 2) (y / 2)
theorem wv_sum : ∀ (n x y : Nat), wv n x y = sp n x + 2 * sp n y
  | 0, _, _ => rfl
  | n+1, x, y => by
    show x % 2 + 2 * (y % 2) + 4 * wv n (x / 2) (y / 2) = x % 2 + 4 * sp n (x / 2) + 2 * (y % 2 + 4 * sp n (y / 2))
    rw [wv_sum n]; omega
theorem wv_bit : ∀ (n x y j : Nat), x < 2 ^ n → y < 2 ^ n → (wv n x y).testBit j = if j % 2 = 0 then x.testBit (j / 2) else y.testBit (j / 2)
  | 0, x, y, j, hx, hy => by
    have : x = 0 := by simpa using hx
    have : y = 0 := by simpa using hy
    subst x; subst y
    simp [wv]
  | n+1, x, y, 0, hx, hy => by
    show (x % 2 + 2 * (y % 2) + 4 * wv n (x / 2) (y / 2)).testBit 0 = _
    simp [Nat.testBit_zero]
    omega
  | n+1, x, y, 1, hx, hy => by
    show (x % 2 + 2 * (y % 2) + 4 * wv n (x / 2) (y / 2)).testBit 1 = _
    rw [show (1 : Nat) = 0 + 1 from rfl, Nat.testBit_succ, show (x % 2 + 2 * (y % 2) + 4 * wv n (x / 2) (y / 2)) / 2 = y % 2 + 2 * wv n (x / 2) (y / 2) by omega]
    simp [Nat.testBit_zero]
  | n+1, x, y, j+2, hx, hy => by
    show (x % 2 + 2 * (y % 2) + 4 * wv n (x / 2) (y / 2)).testBit (j + 1 + 1) = _
    rw [Nat.testBit_succ, Nat.testBit_succ, show (x % 2 + 2 * (y % 2) + 4 * wv n (x / 2) (y / 2)) / 2 / 2 = wv n (x / 2) (y / 2) by omega,
      wv_bit n _ _ j (by rw [Nat.pow_succ] at hx; omega) (by rw [Nat.pow_succ] at hy; omega), show (j + 2) % 2 = j % 2 by omega, show (j + 2) / 2 = j / 2 + 1 by omega, Nat.testBit_succ, Nat.testBit_succ]
theorem weave_sum (x y : Nat) (hx : x < 65536) (hy : y < 65536) : weave x y = sp 16 x + 2 * sp 16 y := by
  rw [← wv_sum]
  apply Nat.eq_of_testBit_eq
  intro j
  rw [weave_bit _ _ _ hx hy, wv_bit 16 x y j hx hy]
theorem weave_mono (x y z w : Nat) (hz : z < 65536) (hw : w < 65536) (h1 : x ≤ z) (h2 : y ≤ w) : weave x y ≤ weave z w := by
  rw [weave_sum _ _ (by omega) (by omega), weave_sum _ _ hz hw]
  have a := (sp_mono 16 x z h1 hz).1
  have b := (sp_mono 16 y w h2 hw).1
  omega
/-- bit by bit, as the reference weaves and parts -/
def wvR (x y : Nat) : Nat → Nat
  | 0 => 0
  | k+1 => wvR x y k ||| (x >>> k % 2) <<< (2 * k) ||| (y >>> k % 2) <<< (2 * k + 1)
def gtR (m o : Nat) : Nat → Nat
  | 0 => 0
  | k+1 => gtR m o k ||| (m >>> (2 * k + o) % 2) <<< k
theorem one_bit (v k s j : Nat) : ((v >>> k % 2) <<< s).testBit j = (decide (j = s) && v.testBit k) := by
  rw [Nat.testBit_shiftLeft]
  by_cases h : j = s
  · subst h; simp [Nat.testBit_eq_decide_div_mod_eq, Nat.shiftRight_eq_div_pow]
  · by_cases h2 : s ≤ j
    · have : (v >>> k % 2).testBit (j - s) = false := lt_bit (n := 1) (Nat.mod_lt _ (by decide)) (by omega)
      simp [h, this]
    · simp [h, h2]
theorem wvR_bit (x y j : Nat) : ∀ k, (wvR x y k).testBit j = (decide (j < 2 * k) && if j % 2 = 0 then x.testBit (j / 2) else y.testBit (j / 2))
  | 0 => by simp [wvR]
  | k+1 => by
    rw [wvR, Nat.testBit_or, Nat.testBit_or, wvR_bit x y j k, one_bit, one_bit]
    by_cases h1 : j = 2 * k
    · subst h1; simp
    · by_cases h2 : j = 2 * k + 1
      · subst h2
        simp [show (2 * k + 1) / 2 = k by omega, show 2 * k + 1 < 2 * (k + 1) by omega]
      · by_cases h3 : j < 2 * k
        · simp [h1, h2, h3, show j < 2 * (k + 1) by omega]
        · simp [h1, h2, h3, show ¬ j < 2 * (k + 1) by omega]
theorem gtR_bit (m o j : Nat) : ∀ k, (gtR m o k).testBit j = (decide (j < k) && m.testBit (2 * j + o))
  | 0 => by simp [gtR]
  | k+1 => by
    rw [gtR, Nat.testBit_or, gtR_bit m o j k, one_bit]
    by_cases h1 : j = k
    · subst h1; simp
    · by_cases h3 : j < k
      · simp [h1, h3, show j < k + 1 by omega]
      · simp [h1, h3, show ¬ j < k + 1 by omega]
theorem wvR_eq (x y : Nat) (hx : x < 65536) (hy : y < 65536) : wvR x y 16 = weave x y := by
  apply Nat.eq_of_testBit_eq
  intro j
  rw [wvR_bit, weave_bit _ _ _ hx hy]
  by_cases hj : j < 32
  · simp [hj]
  · simp [hj, lt_bit (n := 16) hx (show 16 ≤ j / 2 by omega), lt_bit (n := 16) hy (show 16 ≤ j / 2 by omega)]
theorem gtR_eq (m : Nat) : gtR m 0 16 = gat m := by
  apply Nat.eq_of_testBit_eq
  intro j
  rw [gtR_bit, gat_bit, Nat.add_zero]
theorem gtR_eq1 (m : Nat) : gtR m 1 16 = gat (m / 2) := by
  apply Nat.eq_of_testBit_eq
  intro j
  rw [gtR_bit, gat_bit, Nat.testBit_succ]
end
section
open Go.RowKit
def maskN : Nat → Nat
  | 0 => 65535
  | 1 => 16711935
  | 2 => 252645135
  | 3 => 858993459
  | _ => 1431655765
def sprK (v : Nat) : Nat → Nat
  | 0 => v
  | k+1 => sprStep (16 >>> k) (maskN k) (sprK v k)
theorem sprK_five (v : Nat) : sprK v 5 = spr v := rfl
theorem masks_at (k : Nat) (hk : k < 5) : ∀ W : World, (Instr.index 161 (.agg #[.int .u32 65535, .int .u32 16711935, .int .u32 252645135, .int .u32 858993459, .int .u32 1431655765]) (.int .i64 k)).run Tryz.prog W = .ok (.int .u32 (maskN k : Nat)) W := by
  intro W
  rcases (show k = 0 ∨ k = 1 ∨ k = 2 ∨ k = 3 ∨ k = 4 by omega) with rfl | rfl | rfl | rfl | rfl <;> kernel_rfl
theorem sprStep_bits (s m a P : Nat) (hP : P = 2 ^ s) (ha : a < 4294967296) (hm : m < 4294967296) : bits .and .u32 (bits .or .u32 (a : Int) ((a : Int) * (P : Int) % 4294967296)) (m : Int) = ((sprStep s m a : Nat) : Int) := by
  have e : (a : Int) * (P : Int) % 4294967296 = (((a <<< s) % 4294967296 : Nat) : Int) := by
    subst hP; rw [Nat.shiftLeft_eq]; simp
  have h1 : (a <<< s) % 4294967296 < 4294967296 := Nat.mod_lt _ (by decide)
  rw [e, u32_or_nat _ _ ha h1, u32_and_nat _ _ (Nat.or_lt_two_pow (n := 32) ha h1) hm]
  rfl
theorem sprStep_lt (s m a : Nat) (hm : m < 4294967296) : sprStep s m a < 4294967296 := Nat.lt_of_le_of_lt Nat.and_le_right hm
theorem maskN_lt (k : Nat) : maskN k < 4294967296 := by unfold maskN; split <;> decide
theorem sprK_lt (v k : Nat) (hv : v < 65536) : sprK v k < 4294967296 := by
  cases k with
  | zero => show v < _; omega
  | succ k => exact sprStep_lt _ _ _ (maskN_lt k)
/-- the table's five cells -/
def Masks (w : World) : Prop := w.cell? ⟨0, 0, none⟩ = some (.int .u32 65535) ∧ w.cell? ⟨0, 1, none⟩ = some (.int .u32 16711935) ∧ w.cell? ⟨0, 2, none⟩ = some (.int .u32 252645135) ∧ w.cell? ⟨0, 3, none⟩ = some (.int .u32 858993459) ∧ w.cell? ⟨0, 4, none⟩ = some (.int .u32 1431655765)
set_option maxRecDepth 100000 in
set_option maxHeartbeats 400000 in
theorem spread_at (v : Nat) (hv : v < 65536) (w : World) (hM : Masks w) :
    Calls Tryz.prog 92 #[.int .u16 v] w fun e w' => e = .returned (.int .u32 (spr v : Nat)) ∧ w' = w := by
  obtain ⟨h0, h1, h2, h3, h4⟩ := hM
  go_enter Tryz.func92, Tryz.ntmps92
  go_wp2
  go_loop [3, 9] (fun c i => ∃ k : Nat, k ≤ 5 ∧ i = .int .i64 k ∧ c = .int .u32 (sprK v k : Nat)) (fun _ i => 5 - (intOf i).toNat)
  case atStart => exact ⟨0, by omega, rfl, rfl⟩
  case round =>
    obtain ⟨k, hk, rfl, rfl⟩ := hrel
    by_cases hlt : k < 5
    · obtain ⟨a, ha⟩ : ∃ a, Hid (a = sprK v k) := ⟨_, rfl⟩
      rw [← ha.out]
      have hal : a < 4294967296 := by rw [ha.out]; exact sprK_lt v k hv
      rcases (show k = 0 ∨ k = 1 ∨ k = 2 ∨ k = 3 ∨ k = 4 by omega) with rfl | rfl | rfl | rfl | rfl
      · have hi : ∀ W : World, (Instr.index 161 (.agg #[.int .u32 65535, .int .u32 16711935, .int .u32 252645135, .int .u32 858993459, .int .u32 1431655765]) (.int .i64 0)).run Tryz.prog W = .ok (.int .u32 65535) W := masks_at 0 (by omega)
        go_wp2
        exact ⟨⟨1, by omega, rfl, congrArg _ ((sprStep_bits 16 65535 a 65536 (by decide) hal (by decide)).trans (by rw [ha.out]; rfl))⟩, by simp [intOf]⟩
      · have hi : ∀ W : World, (Instr.index 161 (.agg #[.int .u32 65535, .int .u32 16711935, .int .u32 252645135, .int .u32 858993459, .int .u32 1431655765]) (.int .i64 1)).run Tryz.prog W = .ok (.int .u32 16711935) W := masks_at 1 (by omega)
        go_wp2
        exact ⟨⟨2, by omega, rfl, congrArg _ ((sprStep_bits 8 16711935 a 256 (by decide) hal (by decide)).trans (by rw [ha.out]; rfl))⟩, by simp [intOf]⟩
      · have hi : ∀ W : World, (Instr.index 161 (.agg #[.int .u32 65535, .int .u32 16711935, .int .u32 252645135, .int .u32 858993459, .int .u32 1431655765]) (.int .i64 2)).run Tryz.prog W = .ok (.int .u32 252645135) W := masks_at 2 (by omega)
        go_wp2
        exact ⟨⟨3, by omega, rfl, congrArg _ ((sprStep_bits 4 252645135 a 16 (by decide) hal (by decide)).trans (by rw [ha.out]; rfl))⟩, by simp [intOf]⟩
      · have hi : ∀ W : World, (Instr.index 161 (.agg #[.int .u32 65535, .int .u32 16711935, .int .u32 252645135, .int .u32 858993459, .int .u32 1431655765]) (.int .i64 3)).run Tryz.prog W = .ok (.int .u32 858993459) W := masks_at 3 (by omega)
        go_wp2
        exact ⟨⟨4, by omega, rfl, congrArg _ ((sprStep_bits 2 858993459 a 4 (by decide) hal (by decide)).trans (by rw [ha.out]; rfl))⟩, by simp [intOf]⟩
      · have hi : ∀ W : World, (Instr.index 161 (.agg #[.int .u32 65535, .int .u32 16711935, .int .u32 252645135, .int .u32 858993459, .int .u32 1431655765]) (.int .i64 4)).run Tryz.prog W = .ok (.int .u32 1431655765) W := masks_at 4 (by omega)
        go_wp2
        exact ⟨⟨5, by omega, rfl, congrArg _ ((sprStep_bits 1 1431655765 a 2 (by decide) hal (by decide)).trans (by rw [ha.out]; rfl))⟩, by simp [intOf]⟩
    · obtain rfl : k = 5 := by omega
      rw [sprK_five]
      have hl := spr_lt v
      go_wp2
      go_ret
      exact ⟨rfl, rfl⟩
def gatK (v : Nat) : Nat → Nat
  | 0 => v
  | k+1 => gatStep (8 >>> (4 - k)) (maskN (4 - k)) (gatK v k)
theorem gatK_five (v : Nat) : gatK v 5 = gat v := rfl
theorem gatStep_bits (s m a P : Nat) (hP : P = 2 ^ s) (ha : a < 4294967296) (hm : m < 4294967296) : bits .and .u32 (bits .or .u32 (a : Int) ((a : Int) / (P : Int))) (m : Int) = ((gatStep s m a : Nat) : Int) := by
  have e : (a : Int) / (P : Int) = ((a >>> s : Nat) : Int) := by
    subst hP; rw [Nat.shiftRight_eq_div_pow]; simp
  have h1 : a >>> s < 4294967296 := by rw [Nat.shiftRight_eq_div_pow]; exact Nat.lt_of_le_of_lt (Nat.div_le_self _ _) ha
  rw [e, u32_or_nat _ _ ha h1, u32_and_nat _ _ (Nat.or_lt_two_pow (n := 32) ha h1) hm]
  rfl
theorem gatStep_bits0 (m a : Nat) (ha : a < 4294967296) (hm : m < 4294967296) : bits .and .u32 (bits .or .u32 (a : Int) (a : Int)) (m : Int) = ((gatStep 0 m a : Nat) : Int) := by
  have := gatStep_bits 0 m a 1 rfl ha hm
  simpa using this
theorem gatStep_lt (s m a : Nat) (hm : m < 4294967296) : gatStep s m a < 4294967296 := Nat.lt_of_le_of_lt Nat.and_le_right hm
theorem gatK_lt (v k : Nat) (hv : v < 4294967296) : gatK v k < 4294967296 := by
  cases k with
  | zero => exact hv
  | succ k => exact gatStep_lt _ _ _ (maskN_lt _)
theorem cell_below {W w1 : World} {a : Addr} {v : Value} (hb : Below W.heap.size W w1) (h : W.cell? a = some v) : w1.cell? a = some v := by
  rw [hb.cell (World.block_lt_of_cell? W a h)]; exact h
theorem Masks.below {W w1 : World} (h : Masks W) (hb : Below W.heap.size W w1) : Masks w1 :=
  ⟨cell_below hb h.1, cell_below hb h.2.1, cell_below hb h.2.2.1, cell_below hb h.2.2.2.1, cell_below hb h.2.2.2.2⟩
end
section
open Go.RowKit
theorem weave_bits (a b : Nat) (ha : a < 4294967296) : bits .or .u32 (a : Int) ((b : Int) * 2 % 4294967296) = ((a ||| (b <<< 1) % 4294967296 : Nat) : Int) := by
  have e : (b : Int) * (2 : Int) % (4294967296 : Int) = (((b <<< 1) % 4294967296 : Nat) : Int) := by
    rw [Nat.shiftLeft_eq]; simp
  rw [e, u32_or_nat _ _ ha (Nat.mod_lt _ (by decide))]
set_option maxRecDepth 100000 in
set_option maxHeartbeats 400000 in
theorem weave_at (x y : Nat) (hx : x < 65536) (hy : y < 65536) (w : World) (hM : Masks w) :
    Calls Tryz.prog 78 #[.int .u16 x, .int .u16 y] w fun e w' => e = .returned (.int .u32 (weave x y : Nat)) ∧ w' = w := by
  have HM : Hid (Masks w) := hM
  clear hM
  obtain ⟨a, ha⟩ : ∃ a, Hid (a = spr x) := ⟨_, rfl⟩
  obtain ⟨b, hb⟩ : ∃ b, Hid (b = spr y) := ⟨_, rfl⟩
  have hal : a < 4294967296 := by rw [ha.out]; exact spr_lt x
  have hbl : b < 4294967296 := by rw [hb.out]; exact spr_lt y
  go_enter Tryz.func78, Tryz.ntmps78
  go_wp2_with fail
  go_at_call 92
  refine (spread_at x hx _ HM.out).mono ?_
  rintro z w1 ⟨rfl, rfl⟩
  rw [← ha.out]
  go_wp2_with fail
  go_at_call 92
  refine (spread_at y hy _ HM.out).mono ?_
  rintro z w2 ⟨rfl, rfl⟩
  rw [← hb.out]
  go_wp2
  go_ret
  refine ⟨congrArg (fun v => Ending.returned (Value.int .u32 v)) ((weave_bits a b hal).trans ?_), rfl⟩
  rw [ha.out, hb.out]; rfl
/-- how often a parent halves -/
def held (n : Int) : Nat := (max 0 (min n 16)).toNat
theorem held_shift (m : Nat) (n : Int) : (m : Int) / 2 ^ (2 * max 0 (min n 16)).toNat = ((m >>> (2 * held n) : Nat) : Int) := by
  rw [Nat.shiftRight_eq_div_pow, show (2 * max 0 (min n 16)).toNat = 2 * held n by unfold held; omega]
  simp
theorem shr_lt (a k B : Nat) (h : a < B) : a >>> k < B := by rw [Nat.shiftRight_eq_div_pow]; exact Nat.lt_of_le_of_lt (Nat.div_le_self _ _) h
theorem bit16 (a k : Nat) (ha : a < 65536) : bits .and .u16 ((a : Int) / 2 ^ k) 1 = ((a >>> k % 2 : Nat) : Int) := by
  have := u16_and_nat (a >>> k) 1 (shr_lt a k _ ha) (by omega)
  rw [Nat.and_one_is_mod, Nat.shiftRight_eq_div_pow] at this
  rw [Nat.shiftRight_eq_div_pow]
  simpa using this
theorem bit32 (a k : Nat) (ha : a < 4294967296) : bits .and .u32 ((a : Int) / 2 ^ k) 1 = ((a >>> k % 2 : Nat) : Int) := by
  have := u32_and_nat (a >>> k) 1 (shr_lt a k _ ha) (by omega)
  rw [Nat.and_one_is_mod, Nat.shiftRight_eq_div_pow] at this
  rw [Nat.shiftRight_eq_div_pow]
  simpa using this
theorem put_lt (b s n : Nat) (hb : b < 2) (hs : s < n) : b <<< s < 2 ^ n := by
  rw [Nat.shiftLeft_eq]
  have h1 : 2 ^ (s + 1) ≤ 2 ^ n := Nat.pow_le_pow_right (by omega) hs
  have h2 : b * 2 ^ s ≤ 1 * 2 ^ s := Nat.mul_le_mul_right _ (by omega)
  have h3 : 0 < 2 ^ s := Nat.pow_pos (by omega)
  rw [Nat.pow_succ] at h1
  omega
theorem put32 (b s : Nat) (hb : b < 2) (hs : s < 32) : (b : Int) % (4294967296 : Int) * 2 ^ s % (4294967296 : Int) = ((b <<< s : Nat) : Int) := by
  have h : b <<< s < 4294967296 := put_lt b s 32 hb hs
  rw [Int.emod_eq_of_lt (a := (b : Int)) (by omega) (by omega), show (b : Int) * 2 ^ s = ((b <<< s : Nat) : Int) by rw [Nat.shiftLeft_eq]; simp]
  exact Int.emod_eq_of_lt (Int.natCast_nonneg _) (Int.ofNat_lt.2 h)
theorem put16 (b s : Nat) (hb : b < 2) (hs : s < 16) : (b : Int) % (65536 : Int) * 2 ^ s % (65536 : Int) = ((b <<< s : Nat) : Int) := by
  have h : b <<< s < 65536 := put_lt b s 16 hb hs
  rw [Int.emod_eq_of_lt (a := (b : Int)) (by omega) (by omega), show (b : Int) * 2 ^ s = ((b <<< s : Nat) : Int) by rw [Nat.shiftLeft_eq]; simp]
  exact Int.emod_eq_of_lt (Int.natCast_nonneg _) (Int.ofNat_lt.2 h)
theorem wvR_lt (x y k : Nat) (hk : k ≤ 16) : wvR x y k < 4294967296 := by
  apply Nat.lt_pow_two_of_testBit (n := 32)
  intro j hj
  rw [wvR_bit]
  simp [show ¬ j < 2 * k by omega]
theorem gtR_lt (m o k : Nat) (hk : k ≤ 16) : gtR m o k < 65536 := by
  apply Nat.lt_pow_two_of_testBit (n := 16)
  intro j hj
  rw [gtR_bit]
  simp [show ¬ j < k by omega]
theorem wvR_step (x y k : Nat) (hx : x < 65536) (hy : y < 65536) (hk : k < 16) : bits .or .u32 (bits .or .u32 (wvR x y k : Nat) (bits .and .u16 ((x : Int) / 2 ^ k) 1 % (4294967296 : Int) * 2 ^ (2 * k) % (4294967296 : Int))) (bits .and .u16 ((y : Int) / 2 ^ k) 1 % (4294967296 : Int) * 2 ^ (2 * k + 1) % (4294967296 : Int)) = ((wvR x y (k + 1) : Nat) : Int) := by
  have l0 := wvR_lt x y k (by omega)
  have l1 := put_lt (x >>> k % 2) (2 * k) 32 (Nat.mod_lt _ (by omega)) (by omega)
  have l2 := put_lt (y >>> k % 2) (2 * k + 1) 32 (Nat.mod_lt _ (by omega)) (by omega)
  rw [bit16 x k hx, bit16 y k hy, put32 _ _ (Nat.mod_lt _ (by omega)) (by omega), put32 _ _ (Nat.mod_lt _ (by omega)) (by omega), u32_or_nat _ _ l0 l1, u32_or_nat _ _ (Nat.or_lt_two_pow (n := 32) l0 l1) l2]
  rfl
theorem gtR_step (m o k : Nat) (hm : m < 4294967296) (hk : k < 16) : bits .or .u16 (gtR m o k : Nat) (bits .and .u32 ((m : Int) / 2 ^ (2 * k + o)) 1 % (65536 : Int) * 2 ^ k % (65536 : Int)) = ((gtR m o (k + 1) : Nat) : Int) := by
  have l0 := gtR_lt m o k (by omega)
  have l1 := put_lt (m >>> (2 * k + o) % 2) k 16 (Nat.mod_lt _ (by omega)) (by omega)
  rw [bit32 m _ hm, put16 _ _ (Nat.mod_lt _ (by omega)) (by omega), u16_or_nat _ _ l0 l1]
  rfl
set_option maxRecDepth 100000 in
set_option maxHeartbeats 400000 in
theorem ref_weave (x y : Nat) (hx : x < 65536) (hy : y < 65536) (w : World) :
    Calls Tryz.prog 58 #[.int .u16 x, .int .u16 y] w fun e w' => e = .returned (.int .u32 (weave x y : Nat)) ∧ w' = w := by
  go_enter Tryz.func58, Tryz.ntmps58
  go_wp2
  go_loop [5, 6] (fun c i => ∃ k : Nat, k ≤ 16 ∧ i = .int .i64 k ∧ c = .int .u32 (wvR x y k : Nat)) (fun _ i => 16 - (intOf i).toNat)
  case atStart => exact ⟨0, by omega, rfl, rfl⟩
  case round =>
    obtain ⟨k, hk, rfl, rfl⟩ := hrel
    by_cases hlt : k < 16
    · go_wp2
      exact ⟨⟨k + 1, by omega, rfl, congrArg (Value.int .u32) (wvR_step x y k hx hy hlt)⟩, by simp [intOf]; omega⟩
    · obtain rfl : k = 16 := by omega
      rw [wvR_eq x y hx hy]
      have hl := weave_lt x y
      go_wp2
      go_ret
      exact ⟨rfl, rfl⟩
end
section
open Go.ChangeShapes Go.WideShapes Go.ChangeAt Go.WideMaps Go.WideElems Go.RowKit
def laids : List (String × DataW Unit) := [("vedette/morton.masks", Rows.laid_vedette_morton_masks)]
theorem own_knob : ownKnob Tryz.prog.godebug = none := by kernel_rfl
theorem gMasks : Tryz.prog.globalNamed "vedette/morton.masks" = some 0 := by kernel_rfl
theorem tMasks : (Tryz.prog.globals[0]?).map (·.type) = some 161 := by kernel_rfl
theorem door_met (os : Os) (args : Array Value) : laidMetH Tryz.prog laids ((World.laidAll Tryz.prog os laids).forCall (fun _ _ => 0) ⟨#[], args, []⟩).memory := by
  rw [MakeChecks.laidMetH_plain _ _ _ (by kernel_rfl)]; exact laidMet_laidAll _ (by kernel_rfl) (by kernel_rfl)
/-- a listed table of ints, cell by cell -/
theorem table_cells {H : Type} {enc : TypeId × Value → H} {P : Program} {W : World} {base : Nat} {sp : Nat → Bool} {hd : Bool} {fuel : Nat} {t e : TypeId} {n : Nat} {k : IntKind} {cs : List Value} {L : List Int} {p : List MemPlace}
    (ht : P.underlying t = some (.array n e)) (he : P.underlying e = some (.int k)) (hc : P.cellsOf e = 1) (hn : L.length = n)
    (h : DataW.trod enc P W base sp hd fuel t cs = some (.agg (L.map fun i => .lit (.int k i)), p)) :
    ∀ (i : Nat) (x : Int), L[i]? = some x → cs[i]? = some (.int k x) := by
  intro i x hx
  obtain ⟨xs, m1, rfl, hx1, hlen, hxs, hel⟩ := DataW.trod_array ht h
  have hi : i < n := by have := (List.getElem?_eq_some_iff.1 hx).1; omega
  have e0 := hel i hi
  rw [hc, Nat.mul_one] at e0
  simp only [Prod.mk.injEq, DataW.agg.injEq] at hx1
  have hxi : (xs.map (·.1))[i]? = some (.lit (.int k x)) := by rw [← hx1.1]; simp [hx]
  obtain ⟨y, hy, hy1⟩ := Option.map_eq_some_iff.1 (by rw [← List.getElem?_map]; exact hxi)
  rw [hy] at e0
  obtain ⟨j, f1, f2, _⟩ := DataW.trod_int he e0
  rw [f2] at hy1
  obtain rfl : j = x := by simpa using hy1
  have : (List.take 1 (cs.drop i))[0]? = some (.int k j) := by rw [f1]; rfl
  simpa [List.getElem?_take] using this
theorem of_laid {W : World} (h : laidMetH Tryz.prog laids W) : Masks W := by
  rw [MakeChecks.laidMetH_plain _ _ _ (by kernel_rfl)] at h
  obtain ⟨ps, ⟨g0, t0, cs0, f0, p0, q0, hg0, ht0, hv0, hd0, _, _⟩, _, _⟩ := h
  obtain rfl := Option.some.inj (gMasks.symm.trans hg0)
  obtain rfl := Option.some.inj (tMasks.symm.trans ht0)
  have hc := World.var?_cell hg0 hv0
  have T := table_cells (L := [65535, 16711935, 252645135, 858993459, 1431655765]) Tryz.underlying161 Tryz.underlying77 (by kernel_rfl) rfl hd0
  have U : ∀ (i : Nat) (x : Int), [65535, 16711935, 252645135, 858993459, 1431655765][i]? = some x → W.cell? ⟨0, i, none⟩ = some (.int .u32 x) := fun i x hx => by
    rw [hc i, ← Array.getElem?_toList]; exact T i x hx
  exact ⟨U 0 _ rfl, U 1 _ rfl, U 2 _ rfl, U 3 _ rfl, U 4 _ rfl⟩
theorem nat_u16 {a : Int} (h : (Lit.int .u16 a).wf = true) : ∃ x : Nat, a = x ∧ x < 65536 := by
  have := bounds_u16 h
  exact ⟨a.toNat, by omega, by omega⟩
theorem nat_u8 {a : Int} (h : (Lit.int .u8 a).wf = true) : ∃ x : Nat, a = x ∧ x < 256 := by
  have := bounds_u8 h
  exact ⟨a.toNat, by omega, by omega⟩
theorem nat_u32 {a : Int} (h : (Lit.int .u32 a).wf = true) : ∃ x : Nat, a = x ∧ x < 4294967296 := by
  have := bounds_u32 h
  exact ⟨a.toNat, by omega, by omega⟩
end
end Go.Proofs.YtpedngbjpbeanaaGreatDoor
