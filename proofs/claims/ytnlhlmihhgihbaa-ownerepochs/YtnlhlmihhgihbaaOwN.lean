/- Contracts of New, of the package owner and of the reference. -/
import Derived.Test.YtnlhlmihhgihbaaOwH
namespace Go.Proofs.Ytnlhlmihhgihbaa
open Go.RowKit
set_option linter.unusedVariables false
/-- dealt out to the first k cells -/
def dealtK (n : Int) (k : Nat) : List Ow := (List.range 16).map fun c : Nat => if c < k then ⟨((c : Nat) : Int) % n, 0⟩ else ⟨0, 0⟩
theorem dealtK_len (n : Int) (k : Nat) : (dealtK n k).length = 16 := by simp [dealtK]
theorem dealtK_0 (n : Int) : dealtK n 0 = zeroL := by
  simp [dealtK, zeroL, List.range, List.range.loop, List.replicate]
theorem dealtK_16 (n : Int) : dealtK n 16 = dealt n := by
  unfold dealtK dealt
  apply List.map_congr_left
  intro c hc
  rw [if_pos (by simpa using hc)]
theorem dealtK_at (n : Int) {k : Nat} (h : k < 16) : (dealtK n k)[k]? = some ⟨0, 0⟩ := by
  simp [dealtK, List.getElem?_map, List.getElem?_range h]
theorem dealtK_set (n : Int) {k : Nat} (h : k < 16) : (dealtK n k).set k ⟨((k : Nat) : Int) % n, 0⟩ = dealtK n (k + 1) := by
  apply List.ext_getElem?
  intro i
  by_cases hi : i < 16
  · by_cases e : k = i
    · subst e
      rw [List.getElem?_set_self (by rw [dealtK_len]; exact h)]
      simp [dealtK, List.getElem?_map, List.getElem?_range h]
    · rw [List.getElem?_set_ne e]
      simp only [dealtK, List.getElem?_map, List.getElem?_range hi, Option.map_some]
      by_cases h2 : i < k
      · rw [if_pos h2, if_pos (by omega)]
      · rw [if_neg h2, if_neg (by omega)]
  · rw [List.getElem?_eq_none (by rw [List.length_set, dealtK_len]; omega), List.getElem?_eq_none (by rw [dealtK_len]; omega)]
theorem built_mp (a : Int) : Try.prog.built 54 [(0, .int .i64 a)] = some (mpC a zeroL) := by kernel_rfl
theorem built_rmp (a : Int) : Try.prog.built 56 [(0, .int .i64 a)] = some (mpC a zeroL) := by kernel_rfl
theorem held_le (n : Int) : 1 ≤ heldN n ∧ heldN n ≤ 4 := by unfold heldN; omega
theorem wpList_build_mp {ops : Array Oper} {rest : List Oper} {o : Oper} {a : Act} {W : World} {Q : Exit → Act → World → Prop} (hgd : o.guard = none) (x : Operand) (ho : o.op = .build 54 #[(0, x)])
    {n : Int} (hx : a.eval x = .int .i64 n) (k : wpList Try.prog ops Q rest (a.put o.dst (.agg (mpC n zeroL))) W) : wpList Try.prog ops Q (o :: rest) a W := by
  have e : Try.prog.built 54 ((#[(0, x)] : Array (Nat × Operand)).map fun (i, x) => (i, a.eval x)).toList = some (mpC n zeroL) := by
    simp only [List.map_toArray, List.map_cons, List.map_nil, hx]
    exact built_mp n
  refine wpList_build hgd _ _ ho (by rw [e]; rfl) ?_
  rw [e]
  exact k
set_option maxHeartbeats 2000000 in
theorem own_new (w : World) (n : Int) : Calls Try.prog 9 #[.int .i64 n] w fun e w' => e = .returned (.pointer (some ⟨w.heap.size, 0, none⟩)) ∧ MB w' w.heap.size 54 (heldN n - 1) (dealt (heldN n)) ∧ Below w.heap.size w w' := by
  obtain ⟨m, hm⟩ : ∃ m, Hid (heldN n = m) := ⟨_, rfl⟩
  obtain ⟨h1, h4⟩ := held_le n
  rw [hm.out] at h1 h4 ⊢
  have hw : wrap64 (m - 1) = m - 1 := by unfold wrap64; omega
  have e0 : min (max n 1) 4 = m := hm.out
  go_enter Try.func9, Try.ntmps9
  go_upto_region 2 with fail
  go_upto_region 3 with (first
    | with_reducible refine wpList_build_mp rfl (.tmp 9) rfl rfl ?_
    | with_reducible refine wpList_store_mp rfl (.tmp 3) (.tmp 10) rfl rfl rfl rfl (new_mp w _) ?_)
  intro w1 hm1 hb1
  have hB1 := hb1.new
  clear hb1 e0 hw
  go_wp2_with fail
  go_loopw [4, 11] (fun s4 s11 wr => ∃ k : Nat, k ≤ 16 ∧ s11 = .int .i64 k ∧ MB wr w.heap.size 54 (m - 1) (dealtK m k) ∧ Below w.heap.size w wr) (fun _ s11 _ => 16 - (intOf s11).toNat)
  case atStart => exact ⟨0, by omega, rfl, by rw [dealtK_0]; exact hm1, hB1⟩
  case round =>
    obtain ⟨k, hk, rfl, hmk, hb⟩ := hrel
    have HM := hid hmk
    clear hmk hm1 hB1
    by_cases hlt : k < 16
    · have hlt' : (k : Int) < 16 := by omega
      obtain ⟨c1, c2⟩ := HM.out.cell (dealtK_at m hlt)
      have hfz := HM.out.free
      have hm0 : ¬ m = 0 := by omega
      go_wp2_with fail
      go_roundw
      case rel =>
        refine ⟨k + 1, by omega, by go_num, ?_, hb.setCell (Nat.le_refl _) _⟩
        have := HM.out.setS (dealtK_at m hlt) ((k : Int) % m)
        rw [dealtK_set m hlt] at this
        exact this
      case measure => simp [intOf]; omega
    · obtain rfl : k = 16 := by omega
      go_wp2_with fail
      go_ret
      exact ⟨rfl, by rw [← dealtK_16]; exact HM.out, hb⟩
theorem wpList_build_rmp {ops : Array Oper} {rest : List Oper} {o : Oper} {a : Act} {W : World} {Q : Exit → Act → World → Prop} (hgd : o.guard = none) (x : Operand) (ho : o.op = .build 56 #[(0, x)])
    {n : Int} (hx : a.eval x = .int .i64 n) (k : wpList Try.prog ops Q rest (a.put o.dst (.agg (mpC n zeroL))) W) : wpList Try.prog ops Q (o :: rest) a W := by
  have e : Try.prog.built 56 ((#[(0, x)] : Array (Nat × Operand)).map fun (i, x) => (i, a.eval x)).toList = some (mpC n zeroL) := by
    simp only [List.map_toArray, List.map_cons, List.map_nil, hx]
    exact built_rmp n
  refine wpList_build hgd _ _ ho (by rw [e]; rfl) ?_
  rw [e]
  exact k
set_option maxHeartbeats 2000000 in
theorem ref_new (w : World) (n : Int) : Calls Try.prog 10 #[.int .i64 n] w fun e w' => e = .returned (.pointer (some ⟨w.heap.size, 0, none⟩)) ∧ MB w' w.heap.size 56 (heldN n) (dealt (heldN n)) ∧ Below w.heap.size w w' := by
  obtain ⟨m, hm⟩ : ∃ m, Hid (heldN n = m) := ⟨_, rfl⟩
  obtain ⟨h1, h4⟩ := held_le n
  rw [hm.out] at h1 h4 ⊢
  have e0 : max 1 (min n 4) = m := by rw [← hm.out]; unfold heldN; omega
  have hl := mpC_size m (show zeroL.length = 16 from rfl)
  have h1c := mpC_one m zeroL
  go_enter Try.func10, Try.ntmps10
  go_upto_region 2 with (with_reducible refine wpList_build_rmp rfl (.tmp 7) rfl rfl ?_)
  obtain ⟨W, hW⟩ : ∃ W, w.alloc (.cells (mpC m zeroL) 56) = W := ⟨_, rfl⟩
  have hB : Below w.heap.size w W := by rw [← hW]; exact below1 _ _
  have hM : MB W w.heap.size 56 m zeroL := by rw [← hW]; exact ⟨new_at _ _ _ rfl, rfl⟩
  rw [hW]
  clear hW hl h1c e0
  go_wp2_with fail
  go_loopw [4] (fun s4 wr => ∃ k : Nat, k ≤ 16 ∧ s4 = .int .i64 k ∧ MB wr w.heap.size 56 m (dealtK m k) ∧ Below w.heap.size w wr) (fun s4 _ => 16 - (intOf s4).toNat)
  case atStart => exact ⟨0, by omega, rfl, by rw [dealtK_0]; exact hM, hB⟩
  case round =>
    obtain ⟨k, hk, rfl, hmk, hb⟩ := hrel
    have HM := hid hmk
    clear hmk hM hB
    by_cases hlt : k < 16
    · have hlt' : (k : Int) < 16 := by omega
      have hn := HM.out.num
      obtain ⟨c1, c2⟩ := HM.out.cell (dealtK_at m hlt)
      have hfz := HM.out.free
      have hm0 : ¬ m = 0 := by omega
      go_wp2_with fail
      go_region
      go_wp2_with fail
      go_roundw
      case rel =>
        refine ⟨k + 1, by omega, by go_num, ?_, (hb.setCell (Nat.le_refl _) _).drew⟩
        have := HM.out.setS (dealtK_at m hlt) ((k : Int) % m)
        rw [dealtK_set m hlt] at this
        exact this.drew
      case measure => simp [intOf]; omega
    · obtain rfl : k = 16 := by omega
      go_wp2_with fail
      go_ret
      exact ⟨rfl, by rw [← dealtK_16]; exact HM.out, hb⟩
end Go.Proofs.Ytnlhlmihhgihbaa
