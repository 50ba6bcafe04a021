/- The statements' known examples hold over this translation. No conditions beyond those typed. -/
import Derived.Test.YtihmpdjlfpbieaaDoorQdY
namespace Go.Proofs.YtihmpdjlfpbieaaDoor
open Go.RowKit
set_option linter.unusedVariables false
def KL : Nat → List Mk
  | 0 => [⟨3, 1, 1⟩]
  | 1 => [⟨3, 1, 1⟩, ⟨10, 1, 1⟩]
  | 2 => [⟨3, 1, 1⟩, ⟨10, 1, 1⟩, ⟨11, 1, 1⟩]
  | 3 => [⟨3, 1, 1⟩, ⟨10, 1, 1⟩, ⟨11, 1, 1⟩, ⟨12, 1, 1⟩]
  | _ => [⟨3, 1, 1⟩, ⟨10, 1, 1⟩, ⟨11, 1, 1⟩, ⟨12, 1, 1⟩, ⟨13, 1, 1⟩]
def KD : List Mk := [⟨10, 1, 1⟩, ⟨11, 1, 1⟩, ⟨12, 1, 1⟩, ⟨13, 1, 1⟩]
theorem kl0 : rptS 3 1 1 [] = KL 0 := rfl
theorem kl1 : rptS 3 0 0 (KL 0) = KL 0 := rfl
theorem kl2 : rptS (-1) 0 0 (KL 0) = KL 0 := rfl
theorem kl3 : rptS 4 64 0 (KL 0) = KL 0 := rfl
theorem kl4 : rmvS 5 0 0 (KL 0) = KL 0 := rfl
theorem ke0 : rptE 3 1 1 [] = 0 := by decide
theorem ke1 : rptE 3 0 0 (KL 0) = 11 := by decide
theorem ke2 : rptE (-1) 0 0 (KL 0) = 11 := by decide
theorem ke3 : rptE 4 64 0 (KL 0) = 14 := by decide
theorem ke4 : rmvE 5 0 0 (KL 0) = 15 := by decide
theorem klen (k : Nat) : (KL k).length ≤ 5 := by
  unfold KL
  split <;> simp
theorem knext (k : Nat) (hk : k < 4) : rptS ((k : Int) + 10) 1 1 (KL k) = KL (k + 1) := by
  rcases (show k = 0 ∨ k = 1 ∨ k = 2 ∨ k = 3 by omega) with rfl | rfl | rfl | rfl <;> rfl
theorem kin : rinL (KL 0) ⟨0, 0, 2, 2⟩ = [3] := by decide +kernel
theorem kdep : dep (KL 4) = 4 := by decide +kernel
theorem kdep0 : dep KD = 0 := by decide +kernel
theorem kdrop : rdrS 3 (KL 4) = KD := rfl
theorem kdrE : rdrE 3 (KL 4) = 0 := by decide
theorem equal_pt (W : World) (a0 a1 b0 b1 : Int) : (Op.equalIn 10000 31 (pt a0 a1) (pt b0 b1)).run Tryd.prog W = .ok (a0 == b0 && a1 == b1) W := by
  by_cases h0 : a0 = b0 <;> by_cases h1 : a1 = b1 <;> simp [go_sem, h0, h1]
theorem Kept.at {K : List Nat} {w w' : World} (h : Kept K w w') {g : Nat} {o : Obj} (hg : g ∈ K) (ho : w.heap[g]? = some o) : w'.heap[g]? = some o := by rw [h g hg]; exact ho
theorem Kept.cell {K : List Nat} {w w' : World} (h : Kept K w w') {g i : Nat} {u : Value} (hg : g ∈ K) (ho : w.cell? ⟨g, i, none⟩ = some u) : w'.cell? ⟨g, i, none⟩ = some u := by
  rw [World.cell?_of_block (h g hg)]; exact ho
set_option maxHeartbeats 4000000 in
set_option maxRecDepth 100000 in
theorem known8 (w : World) (hM : Masks w) : Calls Tryd.prog 7 #[] w fun e w' => e = .returned (.bool true) ∧ Below w.heap.size w w' := by
  have C0 := tf_new hM
  have q24 : ∀ (w : World) (a : Addr), (binOp .eql 24 (.pointer (some a)) (.pointer none)).run Tryd.prog w = .ok (.bool false) w := fun w a => by simp [go_sem]
  clear hM
  go_enter Tryd.func7, Tryd.ntmps7
  go_wp2_with fail
  refine C0.mono ?_
  rintro z W1 ⟨rfl, T1⟩
  clear C0
  go_wp2_with fail
  have C1 := tf_put T1 (by decide) 3 1 1
  rw [kl0, ke0] at C1
  refine C1.mono ?_
  rintro z W2 ⟨rfl, T2, -⟩
  clear C1 T1
  go_wp2_with fail
  have C1 := tf_put T2 (by decide) 3 0 0
  rw [kl1, ke1] at C1
  refine C1.mono ?_
  rintro z W3 ⟨rfl, T3, -⟩
  clear C1 T2
  go_wp2_with fail
  have C1 := tf_put T3 (by decide) (-1) 0 0
  rw [kl2, ke2] at C1
  refine C1.mono ?_
  rintro z W4 ⟨rfl, T4, -⟩
  clear C1 T3
  go_wp2_with fail
  have C1 := tf_put T4 (by decide) 4 64 0
  rw [kl3, ke3] at C1
  refine C1.mono ?_
  rintro z W5 ⟨rfl, T5, -⟩
  clear C1 T4
  go_wp2_with fail
  have C1 := tf_move T5 (by decide) 5 0 0
  rw [kl4, ke4] at C1
  refine C1.mono ?_
  rintro z W6 ⟨rfl, T6, -⟩
  clear C1 T5
  go_wp2_with fail
  have C1 := tf_at T6 3
  rw [show ratX 3 (KL 0) = 1 by decide, show ratY 3 (KL 0) = 1 by decide, show ratB 3 (KL 0) = true by decide] at C1
  refine C1.mono ?_
  rintro z W7 ⟨rfl, hb7⟩
  have T7 := T6.later hb7
  clear C1 T6 hb7
  go_wp2_with fail
  obtain ⟨W8, hW8⟩ : ∃ W8, W7.alloc (.cells #[.int .i64 1, .int .i64 1] 31) = W8 := ⟨_, rfl⟩
  rw [hW8]
  have T8 : TF w W8 w.heap.size (KL 0) [W7.heap.size] := by rw [← hW8]; exact T7.also (below1 _ _) (Nat.le_refl _) (by simp)
  have P8 : W8.heap[W7.heap.size]? = some (.cells #[.int .i64 1, .int .i64 1] 31 (0, 0)) := by rw [← hW8]; exact new_at _ _ _ rfl
  clear hW8 T7
  have C1 := tf_in T8 (by decide) 0 0 2 2 (hid kin)
  refine C1.mono ?_
  rintro z W9 ⟨p, cap, rfl, hown, hb9⟩
  obtain ⟨g, rfl, hg1, hg2, hcp1, hcp2⟩ := owns_some hown (by decide)
  have T9 := T8.also hb9 hg1 hg2
  have P9 := var_on hb9 P8 (lt_of_at P8)
  have L9 : W9.cell? ⟨g, 0, none⟩ = some (.int .i64 3) := by rw [hown.cellAt 0 (by decide)]; rfl
  clear C1 T8 P8 hb9 hown
  go_wp2_with fail
  go_loopw [5] (fun i wr => ∃ k : Nat, k ≤ 4 ∧ i = .int .i64 ((k : Int) + 10) ∧ TF w wr w.heap.size (KL k) [g, W7.heap.size] ∧ Hid (wr.heap[W7.heap.size]? = some (.cells #[.int .i64 1, .int .i64 1] 31 (0, 0))) ∧ Hid (wr.cell? ⟨g, 0, none⟩ = some (.int .i64 3))) (fun i _ => 14 - (intOf i).toNat)
  case atStart => exact ⟨0, by omega, rfl, T9, P9, L9⟩
  case round =>
    obtain ⟨k, hk, rfl, T10, P10, L10⟩ := hrel
    clear T9 P9 L9
    by_cases hlt : k < 4
    · have hlt' : (k : Int) + 10 < 14 := by omega
      have C1 := tf_put T10 (by have := klen k; omega) ((k : Int) + 10) 1 1
      rw [knext k hlt] at C1
      go_wp2_with fail
      refine C1.mono ?_
      rintro z W11 ⟨rfl, T11, hK⟩
      have P11 := hid (hK.at (g := W7.heap.size) (by simp) P10.out)
      have L11 := hid (hK.cell (g := g) (by simp) L10.out)
      clear C1 T10 P10 L10
      go_wp2_with fail
      go_roundw
      case rel => exact ⟨k + 1, by omega, by go_num, T11, P11, L11⟩
      case measure => simp [intOf]; omega
    · obtain rfl : k = 4 := by omega
      have hlt' : ¬ ((4 : Nat) : Int) + 10 < 14 := by omega
      have hp := cells_at P10.out
      have hl := L10.out
      have e1 := fun W => equal_pt W 1 1 1 1
      go_wp2_with fail
      refine (tf_len T10 (n := 5) rfl).mono ?_
      rintro z W11 ⟨rfl, hw⟩
      rw [hw]
      clear hw
      go_wp2_with fail
      refine (tf_depth T10 (by decide) (hid kdep)).mono ?_
      rintro z W11 ⟨rfl, hb⟩
      have T11 := T10.later hb
      clear T10 P10 L10 hp hl hb
      go_wp2_with fail
      have C1 := tf_drop T11 (by decide) 3
      rw [kdrop, kdrE] at C1
      refine C1.mono ?_
      rintro z W12 ⟨rfl, T12, -⟩
      clear C1 T11
      go_wp2_with fail
      refine (tf_depth T12 (by decide) (hid kdep0)).mono ?_
      rintro z W13 ⟨rfl, hb⟩
      have T13 := T12.later hb
      clear T12 hb
      go_wp2_with fail
      refine (tf_copy T13 (by decide)).mono ?_
      rintro z W14 ⟨cb, rfl, T14, hb⟩
      have hB := (T13.later hb).below
      clear T13 hb
      go_wp2_with fail
      refine (tf_len T14 (n := 4) rfl).mono ?_
      rintro z W15 ⟨rfl, hw⟩
      rw [hw]
      clear hw
      go_wp2
      go_ret
      exact ⟨rfl, hB⟩
end Go.Proofs.YtihmpdjlfpbieaaDoor
