/- The statements' known(): its fixed examples hold. -/
import Derived.Test.YtfcofhlcainanaaCmH
import Derived.Test.YtfcofhlcainanaaCmB
import Derived.Test.YtfcofhlcainanaaCmF
namespace Go.Proofs.Ytfcofhlcainanaa
open Go.RowKit
set_option linter.unusedVariables false
def kC : Cm := ⟨4, 5, 0, 0, 0, 0, zF, zF, zF, zF, zF, 0, 0, 0, 0, 0, 0⟩
def kB : List UInt8 := [8, 0, 0, 10]
theorem k_bytes : bytesC kC = (kB, 0) := by decide +kernel
theorem k_none : bytesC zC = ([], 11) := by decide +kernel
theorem k_read : readC (kB ++ [120]) = (kC, 4, 0) := by kernel_rfl
theorem k_short : readC [] = (zC, 0, 10) := by kernel_rfl
theorem k_is : isC kC = true := by decide +kernel
theorem k_not : isC zC = false := by decide +kernel
theorem fit_all {c : Cm} (h : ∀ f, f = c.f0 ∨ f = c.f1 ∨ f = c.f2 ∨ f = c.f3 ∨ f = c.va → f.s.size ≤ maxLen ∧ -9223372036854775808 ≤ f.n ∧ f.n ≤ 9223372036854775807) : fitC c := by
  intro k
  apply h
  unfold Cm.f
  split <;> simp
theorem fit_zF : zF.s.size ≤ maxLen ∧ -9223372036854775808 ≤ zF.n ∧ zF.n ≤ 9223372036854775807 := ⟨by decide, by decide, by decide⟩
theorem k_fit : fitC kC := fit_all (fun f h => by
  rcases h with rfl | rfl | rfl | rfl | rfl <;> exact fit_zF)
theorem z_fit : fitC zC := fit_all (fun f h => by
  rcases h with rfl | rfl | rfl | rfl | rfl <;> exact fit_zF)
abbrev kV : Value := .agg #[.int .i64 4, .int .i64 5, .int .i64 0, .int .i64 0, .int .i64 0, .int .i64 0, .int .i64 0, .string ⟨#[]⟩, .int .i64 0, .string ⟨#[]⟩, .int .i64 0, .string ⟨#[]⟩, .int .i64 0, .string ⟨#[]⟩, .int .i64 0, .string ⟨#[]⟩, .int .i64 0, .int .i64 0, .int .i64 0, .int .i64 0, .int .i64 0, .int .i64 0]
abbrev kO : Obj := .cells #[.int .i64 4, .int .i64 5, .int .i64 0, .int .i64 0, .int .i64 0, .int .i64 0, .int .i64 0, .string ⟨#[]⟩, .int .i64 0, .string ⟨#[]⟩, .int .i64 0, .string ⟨#[]⟩, .int .i64 0, .string ⟨#[]⟩, .int .i64 0, .string ⟨#[]⟩, .int .i64 0, .int .i64 0, .int .i64 0, .int .i64 0, .int .i64 0, .int .i64 0] 30 (0, 0)
theorem new_zero (W : World) : (W.alloc zeroO).heap[W.heap.size]? = some zC.o := new_at _ _ _ rfl
theorem wpList_store_k {ops : Array Oper} {rest : List Oper} {o : Oper} {a : Act} {W : World} {Q : Exit → Act → World → Prop} (hgd : o.guard = none) (x y : Operand) (ho : o.op = .store 30 x y)
    {g : Nat} {d : Cm} (hx : a.eval x = .pointer (some ⟨g, 0, none⟩)) (hy : a.eval y = kV) (h : W.heap[g]? = some d.o) (k : ∀ W', W'.heap[g]? = some kC.o → But g W W' → W'.heap.size = W.heap.size → wpList Try.prog ops Q rest (a.put o.dst undef) W') : wpList Try.prog ops Q (o :: rest) a W :=
  wpList_store_cm (c := kC) hgd x y ho hx hy h k
set_option maxRecDepth 100000 in
set_option maxHeartbeats 4000000 in
theorem known_holds (w : World) : Calls Try.prog 8 #[] w fun e w' => e = .returned (.bool true) ∧ Below w.heap.size w w' := by
  obtain ⟨B, hBB⟩ : ∃ B, Hid (kB = B) := ⟨_, rfl⟩
  have lB : B.length = 4 := by rw [← hBB.out]; rfl
  have C1 := fun w => bytes_at (c := kC) (B := B) (e := 0) (by show bytesC kC = _; rw [← hBB.out]; exact k_bytes) k_fit w
  have C2 : ∀ w : World, Calls Try.prog 10 #[zeroV] w fun x w' => x = .returned (.tuple #[.string ⟨#[]⟩, .int .i64 11]) ∧ Below w.heap.size w w' := fun w => bytes_at (c := zC) (B := []) (e := 11) k_none z_fit w
  have C3 := fun w => cmd_read (s := (⟨B.toArray⟩ : ByteArray) ++ ⟨#[120]⟩) (cc := kC) (zz := 4) (ee := 0) (by show readC _ = _; rw [data_append, ← hBB.out]; exact k_read) (by
    rw [ByteArray.size_append]
    have e1 : (⟨B.toArray⟩ : ByteArray).size = 4 := lB
    have e2 : (⟨#[120]⟩ : ByteArray).size = 1 := rfl
    omega) w
  have C4 := fun w => cmd_read (s := ⟨#[]⟩) (cc := zC) (zz := 0) (ee := 10) k_short (by decide) w
  have C5 := fun w => isC_at (c := kC) k_is (fit_sized k_fit) w
  have C6 : ∀ w : World, Calls Try.prog 11 #[zeroV] w fun e w' => e = .returned (.bool false) ∧ Below w.heap.size w w' := fun w => isC_at (c := zC) k_not (fit_sized z_fit) w
  have C7 := fun w => cmd_watches w kC
  have C8 := fun w => cmd_same w kC kC
  have hQ := equal_cm_at (eqC_self kC)
  rw [eqC_self] at C8
  rw [show watchB kC.kd = false from rfl] at C7
  clear hBB
  go_enter Try.func8, Try.ntmps8
  go_upto_region 2 with ((with_reducible refine wpList_store_k rfl (.tmp 1) (.tmp 12) rfl rfl rfl (new_zero _) ?_); intro W1 h1 b1 s1)
  have hE := b1.below (below1 w _) (Nat.le_refl _)
  have K1 := hid h1
  have l1 := at_lt h1
  clear h1 b1 s1
  go_wp2_with (with_reducible refine wpList_load_cm rfl (.tmp 1) rfl rfl K1.out ?_)
  refine (C1 _).mono ?_
  rintro x W2 ⟨rfl, hb⟩
  replace K1 := hid (var_on hb K1.out l1)
  replace hE := below_on hE hb
  replace l1 := at_lt K1.out
  clear hb
  go_wp2_with fail
  refine (C3 _).mono ?_
  rintro x W3 ⟨rfl, hb⟩
  replace K1 := hid (var_on hb K1.out l1)
  replace hE := below_on hE hb
  replace l1 := at_lt K1.out
  clear hb
  go_wp2_with ((with_reducible refine wpList_store_cm rfl (.tmp 4) (.tmp 22) rfl rfl rfl (new_zero _) ?_); intro W4 h4 b4 s4)
  replace K1 := hid (b4.at (old_at K1.out _) (by omega))
  have K4 := hid h4
  replace hE := b4.below (hE.alloc (by omega) _) (by omega)
  replace l1 := at_lt K1.out
  have l4 := at_lt h4
  clear h4 b4 s4
  refine (C2 _).mono ?_
  rintro x W5 ⟨rfl, hb⟩
  replace K1 := hid (var_on hb K1.out l1)
  replace K4 := hid (var_on hb K4.out l4)
  replace hE := below_on hE hb
  replace l1 := at_lt K1.out
  replace l4 := at_lt K4.out
  clear hb
  go_wp2_with fail
  refine (C4 _).mono ?_
  rintro x W6 ⟨rfl, hb⟩
  replace K1 := hid (var_on hb K1.out l1)
  replace K4 := hid (var_on hb K4.out l4)
  replace hE := below_on hE hb
  replace l1 := at_lt K1.out
  replace l4 := at_lt K4.out
  clear hb
  go_wp2_with (first
    | ((with_reducible refine wpList_store_cm rfl (.tmp 9) (.tmp 32) rfl rfl rfl (new_zero _) ?_); intro W7 h7 b7 s7
       replace K1 := hid (b7.at (old_at K1.out _) (by omega))
       replace K4 := hid (b7.at (old_at K4.out _) (by omega))
       replace hE := b7.below (hE.alloc (by omega) _) (by omega)
       replace l1 := at_lt K1.out
       replace l4 := at_lt K4.out
       clear h7 b7 s7)
    | ((with_reducible refine wpList_load_cmG ?_ (.tmp 4) rfl rfl K4.out ?_); · rfl)
    | ((with_reducible refine wpList_load_cmG ?_ (.tmp 1) rfl rfl K1.out ?_); · rfl))
  refine (C5 _).mono ?_
  rintro x W8 ⟨rfl, hb⟩
  replace K1 := hid (var_on hb K1.out l1)
  replace K4 := hid (var_on hb K4.out l4)
  replace hE := below_on hE hb
  replace l1 := at_lt K1.out
  replace l4 := at_lt K4.out
  clear hb
  go_wp2_with (first
    | ((with_reducible refine wpList_load_cmG ?_ (.tmp 4) rfl rfl K4.out ?_); · rfl)
    | ((with_reducible refine wpList_load_cmG ?_ (.tmp 1) rfl rfl K1.out ?_); · rfl))
  refine (C6 _).mono ?_
  rintro x W9 ⟨rfl, hb⟩
  replace K1 := hid (var_on hb K1.out l1)
  replace K4 := hid (var_on hb K4.out l4)
  replace hE := below_on hE hb
  replace l1 := at_lt K1.out
  replace l4 := at_lt K4.out
  clear hb
  go_wp2_with (first
    | ((with_reducible refine wpList_load_cmG ?_ (.tmp 4) rfl rfl K4.out ?_); · rfl)
    | ((with_reducible refine wpList_load_cmG ?_ (.tmp 1) rfl rfl K1.out ?_); · rfl))
  refine (C7 _).mono ?_
  rintro x W10 ⟨rfl, hb⟩
  replace K1 := hid (var_on hb K1.out l1)
  replace K4 := hid (var_on hb K4.out l4)
  replace hE := below_on hE hb
  replace l1 := at_lt K1.out
  replace l4 := at_lt K4.out
  clear hb
  go_wp2_with (first
    | ((with_reducible refine wpList_load_cmG ?_ (.tmp 4) rfl rfl K4.out ?_); · rfl)
    | ((with_reducible refine wpList_load_cmG ?_ (.tmp 1) rfl rfl K1.out ?_); · rfl))
  refine (C8 _).mono ?_
  rintro x W11 ⟨rfl, hb⟩
  replace K1 := hid (var_on hb K1.out l1)
  replace K4 := hid (var_on hb K4.out l4)
  replace hE := below_on hE hb
  replace l1 := at_lt K1.out
  replace l4 := at_lt K4.out
  clear hb
  go_wp2_with (first
    | ((with_reducible refine wpList_load_cmG ?_ (.tmp 4) rfl rfl K4.out ?_); · rfl)
    | ((with_reducible refine wpList_load_cmG ?_ (.tmp 1) rfl rfl K1.out ?_); · rfl))
  go_ret
  exact ⟨rfl, hE⟩
end Go.Proofs.Ytfcofhlcainanaa
