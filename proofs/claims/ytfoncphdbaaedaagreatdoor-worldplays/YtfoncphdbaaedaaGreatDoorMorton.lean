/- Contracts of the package morton's functions over this translation, where its table of masks holds what its initialiser lays: each returns what the plain functions say, and changes nothing that was there. -/
import Derived.Test.YtfoncphdbaaedaaGreatDoorRows
import Derived.Test.YtfoncphdbaaedaaGreatDoorMortonP
import Derived.Test.YtfoncphdbaaedaaGreatDoorGeomP
import Derived.WalkSpells
import Derived.WalkLawsBesides
import Derived.Laws.BitsAllLaws
import Derived.BigQuiet
namespace Go.Proofs.YtfoncphdbaaedaaGreatDoor
open Go.RowKit
def maskN : Nat → Nat
  | 0 => 65535
  | 1 => 16711935
  | 2 => 252645135
  | 3 => 858993459
  | _ => 1431655765
def sprK (v : Nat) : Nat → Nat
  | 0 => v
  | k+1 => sprStep (16 >>> k) (maskN k) (sprK v k)
theorem sprK_five (v : Nat) : sprK v 5 = spr v := rfl
theorem masks_at (k : Nat) (hk : k < 5) : ∀ W : World, (Instr.index 169 (.agg #[.int .u32 65535, .int .u32 16711935, .int .u32 252645135, .int .u32 858993459, .int .u32 1431655765]) (.int .i64 k)).run Tryz.prog W = .ok (.int .u32 (maskN k : Nat)) W := by
  intro W
  rcases (show k = 0 ∨ k = 1 ∨ k = 2 ∨ k = 3 ∨ k = 4 by omega) with rfl | rfl | rfl | rfl | rfl <;> kernel_rfl
theorem sprStep_bits (s m a P : Nat) (hP : P = 2 ^ s) (ha : a < 4294967296) (hm : m < 4294967296) : bits .and .u32 (bits .or .u32 (a : Int) ((a : Int) * (P : Int) % 4294967296)) (m : Int) = ((sprStep s m a : Nat) : Int) := by
  have e : (a : Int) * (P : Int) % 4294967296 = (((a <<< s) % 4294967296 : Nat) : Int) := by
    subst hP; rw [Nat.shiftLeft_eq]; simp
  have h1 : (a <<< s) % 4294967296 < 4294967296 := Nat.mod_lt _ (by decide)
  rw [e, u32_or_nat _ _ ha h1, u32_and_nat _ _ (Nat.or_lt_two_pow (n := 32) ha h1) hm]
  rfl
theorem sprStep_lt (s m a : Nat) (hm : m < 4294967296) : sprStep s m a < 4294967296 := Nat.lt_of_le_of_lt Nat.and_le_right hm
theorem maskN_lt (k : Nat) : maskN k < 4294967296 := by unfold maskN; split <;> decide
theorem sprK_lt (v k : Nat) (hv : v < 65536) : sprK v k < 4294967296 := by
  cases k with
  | zero => show v < _; omega
  | succ k => exact sprStep_lt _ _ _ (maskN_lt k)
/-- the table's five cells -/
def Masks (w : World) : Prop := w.cell? ⟨0, 0, none⟩ = some (.int .u32 65535) ∧ w.cell? ⟨0, 1, none⟩ = some (.int .u32 16711935) ∧ w.cell? ⟨0, 2, none⟩ = some (.int .u32 252645135) ∧ w.cell? ⟨0, 3, none⟩ = some (.int .u32 858993459) ∧ w.cell? ⟨0, 4, none⟩ = some (.int .u32 1431655765)
set_option maxRecDepth 100000 in
set_option maxHeartbeats 400000 in
theorem spread_at (v : Nat) (hv : v < 65536) (w : World) (hM : Masks w) :
    Calls Tryz.prog 131 #[.int .u16 v] w fun e w' => e = .returned (.int .u32 (spr v : Nat)) ∧ w' = w := by
  obtain ⟨h0, h1, h2, h3, h4⟩ := hM
  go_enter Tryz.func131, Tryz.ntmps131
  go_wp2
  go_loop [3, 9] (fun c i => ∃ k : Nat, k ≤ 5 ∧ i = .int .i64 k ∧ c = .int .u32 (sprK v k : Nat)) (fun _ i => 5 - (intOf i).toNat)
  case atStart => exact ⟨0, by omega, rfl, rfl⟩
  case round =>
    obtain ⟨k, hk, rfl, rfl⟩ := hrel
    by_cases hlt : k < 5
    · obtain ⟨a, ha⟩ : ∃ a, Hid (a = sprK v k) := ⟨_, rfl⟩
      rw [← ha.out]
      have hal : a < 4294967296 := by rw [ha.out]; exact sprK_lt v k hv
      rcases (show k = 0 ∨ k = 1 ∨ k = 2 ∨ k = 3 ∨ k = 4 by omega) with rfl | rfl | rfl | rfl | rfl
      · have hi : ∀ W : World, (Instr.index 169 (.agg #[.int .u32 65535, .int .u32 16711935, .int .u32 252645135, .int .u32 858993459, .int .u32 1431655765]) (.int .i64 0)).run Tryz.prog W = .ok (.int .u32 65535) W := masks_at 0 (by omega)
        go_wp2
        exact ⟨⟨1, by omega, rfl, congrArg _ ((sprStep_bits 16 65535 a 65536 (by decide) hal (by decide)).trans (by rw [ha.out]; rfl))⟩, by simp [intOf]⟩
      · have hi : ∀ W : World, (Instr.index 169 (.agg #[.int .u32 65535, .int .u32 16711935, .int .u32 252645135, .int .u32 858993459, .int .u32 1431655765]) (.int .i64 1)).run Tryz.prog W = .ok (.int .u32 16711935) W := masks_at 1 (by omega)
        go_wp2
        exact ⟨⟨2, by omega, rfl, congrArg _ ((sprStep_bits 8 16711935 a 256 (by decide) hal (by decide)).trans (by rw [ha.out]; rfl))⟩, by simp [intOf]⟩
      · have hi : ∀ W : World, (Instr.index 169 (.agg #[.int .u32 65535, .int .u32 16711935, .int .u32 252645135, .int .u32 858993459, .int .u32 1431655765]) (.int .i64 2)).run Tryz.prog W = .ok (.int .u32 252645135) W := masks_at 2 (by omega)
        go_wp2
        exact ⟨⟨3, by omega, rfl, congrArg _ ((sprStep_bits 4 252645135 a 16 (by decide) hal (by decide)).trans (by rw [ha.out]; rfl))⟩, by simp [intOf]⟩
      · have hi : ∀ W : World, (Instr.index 169 (.agg #[.int .u32 65535, .int .u32 16711935, .int .u32 252645135, .int .u32 858993459, .int .u32 1431655765]) (.int .i64 3)).run Tryz.prog W = .ok (.int .u32 858993459) W := masks_at 3 (by omega)
        go_wp2
        exact ⟨⟨4, by omega, rfl, congrArg _ ((sprStep_bits 2 858993459 a 4 (by decide) hal (by decide)).trans (by rw [ha.out]; rfl))⟩, by simp [intOf]⟩
      · have hi : ∀ W : World, (Instr.index 169 (.agg #[.int .u32 65535, .int .u32 16711935, .int .u32 252645135, .int .u32 858993459, .int .u32 1431655765]) (.int .i64 4)).run Tryz.prog W = .ok (.int .u32 1431655765) W := masks_at 4 (by omega)
        go_wp2
        exact ⟨⟨5, by omega, rfl, congrArg _ ((sprStep_bits 1 1431655765 a 2 (by decide) hal (by decide)).trans (by rw [ha.out]; rfl))⟩, by simp [intOf]⟩
    · obtain rfl : k = 5 := by omega
      rw [sprK_five]
      have hl := spr_lt v
      go_wp2
      go_ret
      exact ⟨rfl, rfl⟩
def gatK (v : Nat) : Nat → Nat
  | 0 => v
  | k+1 => gatStep (8 >>> (4 - k)) (maskN (4 - k)) (gatK v k)
theorem gatK_five (v : Nat) : gatK v 5 = gat v := rfl
theorem gatStep_bits (s m a P : Nat) (hP : P = 2 ^ s) (ha : a < 4294967296) (hm : m < 4294967296) : bits .and .u32 (bits .or .u32 (a : Int) ((a : Int) / (P : Int))) (m : Int) = ((gatStep s m a : Nat) : Int) := by
  have e : (a : Int) / (P : Int) = ((a >>> s : Nat) : Int) := by
    subst hP; rw [Nat.shiftRight_eq_div_pow]; simp
  have h1 : a >>> s < 4294967296 := by rw [Nat.shiftRight_eq_div_pow]; exact Nat.lt_of_le_of_lt (Nat.div_le_self _ _) ha
  rw [e, u32_or_nat _ _ ha h1, u32_and_nat _ _ (Nat.or_lt_two_pow (n := 32) ha h1) hm]
  rfl
theorem gatStep_bits0 (m a : Nat) (ha : a < 4294967296) (hm : m < 4294967296) : bits .and .u32 (bits .or .u32 (a : Int) (a : Int)) (m : Int) = ((gatStep 0 m a : Nat) : Int) := by
  have := gatStep_bits 0 m a 1 rfl ha hm
  simpa using this
theorem below_drewN {B : Nat} {a w : World} (h : Below B a w) (n : Nat) : Below B a (w.drewN n) := by
  induction n with
  | zero => exact h
  | succ n ih => exact ih.drew
theorem gatStep_lt (s m a : Nat) (hm : m < 4294967296) : gatStep s m a < 4294967296 := Nat.lt_of_le_of_lt Nat.and_le_right hm
theorem gatK_lt (v k : Nat) (hv : v < 4294967296) : gatK v k < 4294967296 := by
  cases k with
  | zero => exact hv
  | succ k => exact gatStep_lt _ _ _ (maskN_lt _)
theorem cell_below {W w1 : World} {a : Addr} {v : Value} (hb : Below W.heap.size W w1) (h : W.cell? a = some v) : w1.cell? a = some v := by
  rw [hb.cell (World.block_lt_of_cell? W a h)]; exact h
theorem Masks.below {W w1 : World} (h : Masks W) (hb : Below W.heap.size W w1) : Masks w1 :=
  ⟨cell_below hb h.1, cell_below hb h.2.1, cell_below hb h.2.2.1, cell_below hb h.2.2.2.1, cell_below hb h.2.2.2.2⟩
set_option maxRecDepth 100000 in
set_option maxHeartbeats 400000 in
theorem gather_at (v : Nat) (hv : v < 4294967296) (w : World) (hM : Masks w) :
    Calls Tryz.prog 111 #[.int .u32 v] w fun e w' => e = .returned (.int .u16 (gat v : Nat)) ∧ Below w.heap.size w w' := by
  go_enter Tryz.func111, Tryz.ntmps111
  go_wp2
  go_loopw [0, 3] (fun c i W => ∃ (k : Nat) (j : Int), k ≤ 5 ∧ j = 4 - k ∧ i = .int .i64 j ∧ c = .int .u32 (gatK v k : Nat) ∧ Below w.heap.size w W) (fun _ i _ => ((intOf i) + 1).toNat)
  case atStart => exact ⟨0, 4, by omega, by omega, rfl, rfl, Below.refl _ _⟩
  case round =>
    obtain ⟨k, j, hk, hj, rfl, rfl, hB⟩ := hrel
    have hM' := hM.below hB
    obtain ⟨h0, h1, h2, h3, h4⟩ := hM'
    by_cases hlt : k < 5
    · obtain ⟨a, ha⟩ : ∃ a, Hid (a = gatK v k) := ⟨_, rfl⟩
      rw [← ha.out]
      have hal : a < 4294967296 := by rw [ha.out]; exact gatK_lt v k hv
      rcases (show k = 0 ∨ k = 1 ∨ k = 2 ∨ k = 3 ∨ k = 4 by omega) with rfl | rfl | rfl | rfl | rfl
      · obtain rfl : j = 4 := by omega
        clear hj
        go_wp2
        go_quiet (fail)
        go_wp2
        exact ⟨⟨1, 3, by omega, by omega, rfl, congrArg _ ((gatStep_bits0 1431655765 a hal (by decide)).trans (by rw [ha.out]; rfl)), below_drewN hB _⟩, by simp [intOf]⟩
      · obtain rfl : j = 3 := by omega
        clear hj
        go_wp2
        go_quiet (fail)
        go_wp2
        exact ⟨⟨2, 2, by omega, by omega, rfl, congrArg _ ((gatStep_bits 1 858993459 a 2 (by decide) hal (by decide)).trans (by rw [ha.out]; rfl)), below_drewN hB _⟩, by simp [intOf]⟩
      · obtain rfl : j = 2 := by omega
        clear hj
        go_wp2
        go_quiet (fail)
        go_wp2
        exact ⟨⟨3, 1, by omega, by omega, rfl, congrArg _ ((gatStep_bits 2 252645135 a 4 (by decide) hal (by decide)).trans (by rw [ha.out]; rfl)), below_drewN hB _⟩, by simp [intOf]⟩
      · obtain rfl : j = 1 := by omega
        clear hj
        go_wp2
        go_quiet (fail)
        go_wp2
        exact ⟨⟨4, 0, by omega, by omega, rfl, congrArg _ ((gatStep_bits 4 16711935 a 16 (by decide) hal (by decide)).trans (by rw [ha.out]; rfl)), below_drewN hB _⟩, by simp [intOf]⟩
      · obtain rfl : j = 0 := by omega
        clear hj
        go_wp2
        go_quiet (fail)
        go_wp2
        exact ⟨⟨5, -1, by omega, by omega, rfl, congrArg _ ((gatStep_bits 8 65535 a 256 (by decide) hal (by decide)).trans (by rw [ha.out]; rfl)), below_drewN hB _⟩, by simp [intOf]⟩
    · obtain rfl : k = 5 := by omega
      obtain rfl : j = -1 := by omega
      clear hj
      rw [gatK_five]
      have hl := gat_lt v
      go_wp2
      go_ret
      exact ⟨rfl, hB⟩
end Go.Proofs.YtfoncphdbaaedaaGreatDoor
