/- CmdSpoils: for every command whose texts are not above 40 bytes and every number: with one part spoilt it is none, has no bytes, is not the same. No condition beyond the statement's own. -/
import Derived.Test.YtfcofhlcainanaaCmO
import Derived.Test.YtfcofhlcainanaaCmJ
import Derived.ProofKit
import Derived.OpenShut
import Derived.ShutString
import Derived.ChangeOld
import Derived.Below
import Derived.SizedLaws
namespace Go.Proofs.Ytfcofhlcainanaa
open Go.ChangeShapes Go.WideShapes Go.ChangeAt Go.RowKit
open Go.ChangeMaps (open_string shut_string)
set_option linter.unusedVariables false

theorem i_fit {c : Cm} (h : fitC c) (k : Nat) (z : Int) : fitC (c.setI k z) := fun j => by rw [f_setI]; exact h j
set_option maxRecDepth 100000 in
set_option maxHeartbeats 4000000 in
theorem cmdSpoils_walk (w : World) (a0 : Cm) (w0 : inC a0) (a1 : Int) (w1 : (Lit.int .u8 a1).wf = true) :
    Calls Try.prog 6 #[a0.v, .int .u8 a1] w fun e w' => e = .returned (.bool true) ∧ Below w.heap.size w w' := by
  have hf := in_fit w0
  have hu := u8_bounds w1
  obtain ⟨W, hW⟩ : ∃ W, W = w.alloc a0.o := ⟨_, rfl⟩
  have hE : Below w.heap.size w W := by rw [hW]; exact below1 _ _
  have K1 := hid (show W.heap[w.heap.size]? = some a0.o by rw [hW]; exact new_at _ _ _ rfl)
  obtain ⟨q, hq⟩ : ∃ q, Hid (fewC a0 = q) := ⟨_, rfl⟩
  have C1 := fun w => few_cmd w a0 (fit_sized hf)
  rw [hq.out] at C1
  obtain ⟨r, hr⟩ : ∃ r, Hid (isC a0 = r) := ⟨_, rfl⟩
  have C2 := fun w => isC_at hr.out (fit_sized hf) w
  have l1 : w.heap.size < W.heap.size := at_lt K1.out
  clear w0 w1
  go_enter Try.func6, Try.ntmps6
  go_upto_region 1 with fail
  rw [← hW]
  clear hW
  go_wp2_with fail
  refine (known_holds _).mono ?_
  rintro x W1 ⟨rfl, hb⟩
  replace K1 := hid (var_on hb K1.out l1)
  replace hE := below_on hE hb
  replace l1 := at_lt K1.out
  clear hb
  go_wp2_with (with_reducible refine wpList_load_cm rfl (.tmp 2) rfl rfl K1.out ?_)
  refine (C1 _).mono ?_
  rintro x W2 ⟨rfl, hb⟩
  replace K1 := hid (var_on hb K1.out l1)
  replace hE := below_on hE hb
  replace l1 := at_lt K1.out
  clear hb C1
  cases q
  · go_wp2_with fail
    go_ret
    exact ⟨rfl, hE⟩
  go_wp2_with ((with_reducible refine wpList_load_cmG ?_ (.tmp 2) rfl rfl K1.out ?_); · rfl)
  refine (C2 _).mono ?_
  rintro x W3 ⟨rfl, hb⟩
  replace K1 := hid (var_on hb K1.out l1)
  replace hE := below_on hE hb
  replace l1 := at_lt K1.out
  clear hb C2
  cases r
  · go_wp2_with fail
    go_ret
    exact ⟨rfl, hE⟩
  have hnk := fun (d : Cm) (hd : isC d = false) => spoilt_ne hr.out hd
  have tail : ∀ (d : Cm), isC d = false → fitC d → (∀ w, Calls Try.prog 10 #[d.v] w fun x w' => x = .returned (.tuple #[.string ⟨#[]⟩, .int .i64 11]) ∧ Below w.heap.size w w') ∧ (∀ w, Calls Try.prog 11 #[d.v] w fun e w' => e = .returned (.bool false) ∧ Below w.heap.size w w') ∧ (∀ w, Calls Try.prog 15 #[a0.v, d.v] w fun e w' => e = .returned (.bool false) ∧ Below w.heap.size w w') := fun d hd hfd =>
    ⟨fun w => bytes_at (B := []) (e := 11) (spoilt_bytes hd) hfd w, fun w => isC_at hd (fit_sized hfd) w, fun w => by have := cmd_same w a0 d; rw [hnk d hd] at this; exact this⟩
  go_upto_region 6 with (first
    | with_reducible refine wpList_load_cm rfl (.tmp 2) rfl rfl K1.out ?_
    | ((with_reducible refine wpList_store_cm rfl (.tmp 5) (.tmp 18) rfl rfl rfl (new_zero _) ?_); intro W4 h4 b4 s4))
  have l3 := l1
  replace K1 := hid (b4.at (old_at K1.out _) (by omega))
  have K2 := hid h4
  replace hE := b4.below (hE.alloc (by omega) _) (by omega)
  replace l1 := at_lt K1.out
  have l2 := at_lt h4
  clear h4 b4 s4
  obtain ⟨n, rfl⟩ := Int.eq_ofNat_of_zero_le hu.1
  have hcases : n % 6 = 0 ∨ n % 6 = 1 ∨ n % 6 = 2 ∨ n % 6 = 3 ∨ n % 6 = 4 ∨ n % 6 = 5 := by omega
  have fz := (cells_at K2.out).2
  rcases hcases with h | h | h | h | h | h
  · have q0 : (((n : Int) % 6) == 0) = true := by simp; omega
    have nc := cell_i K2.out (k := 0) (by simp [atI])
    obtain ⟨T1, T2, T3⟩ := tail (a0.setI 0 0) (not_head (by simp [Cm.setI])) (i_fit hf _ _)
    have hS := hid (set_i K2.out (k := 0) (by simp [atI]) 0)
    have hb := (But.refl W3.heap.size W4).setCell 0 (.int .i64 0)
    go_upto_region 18 with fail
    replace K1 := hid (hb.at K1.out (by omega))
    replace hE := hb.below hE (by omega)
    replace K2 := hS
    replace l1 := at_lt K1.out
    replace l2 := at_lt K2.out
    clear hb hS nc fz tail hnk h
    generalize W4.setCell _ _ = W5 at K1 K2 hE l1 l2 ⊢
    go_wp2_with (with_reducible refine wpList_load_cm rfl (.tmp 5) rfl rfl K2.out ?_)
    refine (T1 _).mono ?_
    rintro x W6 ⟨rfl, hb⟩
    replace K1 := hid (var_on hb K1.out l1)
    replace K2 := hid (var_on hb K2.out l2)
    replace hE := below_on hE hb
    replace l1 := at_lt K1.out
    replace l2 := at_lt K2.out
    clear hb T1
    go_wp2_with (with_reducible refine wpList_load_cm rfl (.tmp 5) rfl rfl K2.out ?_)
    refine (T2 _).mono ?_
    rintro x W7 ⟨rfl, hb⟩
    replace K1 := hid (var_on hb K1.out l1)
    replace K2 := hid (var_on hb K2.out l2)
    replace hE := below_on hE hb
    replace l1 := at_lt K1.out
    replace l2 := at_lt K2.out
    clear hb T2
    go_wp2_with (first
      | ((with_reducible refine wpList_load_cmG ?_ (.tmp 2) rfl rfl K1.out ?_); · rfl)
      | ((with_reducible refine wpList_load_cmG ?_ (.tmp 5) rfl rfl K2.out ?_); · rfl))
    refine (T3 _).mono ?_
    rintro x W8 ⟨rfl, hb⟩
    replace hE := below_on hE hb
    go_wp2_with fail
    go_ret
    exact ⟨rfl, hE⟩
  · have q0 : (((n : Int) % 6) == 0) = false := by simp; omega
    have q1 : (((n : Int) % 6) == 1) = true := by simp; omega
    have nc := cell_i K2.out (k := 0) (by simp [atI])
    obtain ⟨T1, T2, T3⟩ := tail (a0.setI 0 9) (not_head (by simp [Cm.setI])) (i_fit hf _ _)
    have hS := hid (set_i K2.out (k := 0) (by simp [atI]) 9)
    have hb := (But.refl W3.heap.size W4).setCell 0 (.int .i64 9)
    go_upto_region 18 with fail
    replace K1 := hid (hb.at K1.out (by omega))
    replace hE := hb.below hE (by omega)
    replace K2 := hS
    replace l1 := at_lt K1.out
    replace l2 := at_lt K2.out
    clear hb hS nc fz tail hnk h
    generalize W4.setCell _ _ = W5 at K1 K2 hE l1 l2 ⊢
    go_wp2_with (with_reducible refine wpList_load_cm rfl (.tmp 5) rfl rfl K2.out ?_)
    refine (T1 _).mono ?_
    rintro x W6 ⟨rfl, hb⟩
    replace K1 := hid (var_on hb K1.out l1)
    replace K2 := hid (var_on hb K2.out l2)
    replace hE := below_on hE hb
    replace l1 := at_lt K1.out
    replace l2 := at_lt K2.out
    clear hb T1
    go_wp2_with (with_reducible refine wpList_load_cm rfl (.tmp 5) rfl rfl K2.out ?_)
    refine (T2 _).mono ?_
    rintro x W7 ⟨rfl, hb⟩
    replace K1 := hid (var_on hb K1.out l1)
    replace K2 := hid (var_on hb K2.out l2)
    replace hE := below_on hE hb
    replace l1 := at_lt K1.out
    replace l2 := at_lt K2.out
    clear hb T2
    go_wp2_with (first
      | ((with_reducible refine wpList_load_cmG ?_ (.tmp 2) rfl rfl K1.out ?_); · rfl)
      | ((with_reducible refine wpList_load_cmG ?_ (.tmp 5) rfl rfl K2.out ?_); · rfl))
    refine (T3 _).mono ?_
    rintro x W8 ⟨rfl, hb⟩
    replace hE := below_on hE hb
    go_wp2_with fail
    go_ret
    exact ⟨rfl, hE⟩
  · have q0 : (((n : Int) % 6) == 0) = false := by simp; omega
    have q1 : (((n : Int) % 6) == 1) = false := by simp; omega
    have q2 : (((n : Int) % 6) == 2) = true := by simp; omega
    have nc := cell_i K2.out (k := 16) (by simp [atI])
    obtain ⟨T1, T2, T3⟩ := tail (a0.setI 16 4) (not_head (by simp [Cm.setI])) (i_fit hf _ _)
    have hS := hid (set_i K2.out (k := 16) (by simp [atI]) 4)
    have hb := (But.refl W3.heap.size W4).setCell 16 (.int .i64 4)
    go_upto_region 18 with fail
    replace K1 := hid (hb.at K1.out (by omega))
    replace hE := hb.below hE (by omega)
    replace K2 := hS
    replace l1 := at_lt K1.out
    replace l2 := at_lt K2.out
    clear hb hS nc fz tail hnk h
    generalize W4.setCell _ _ = W5 at K1 K2 hE l1 l2 ⊢
    go_wp2_with (with_reducible refine wpList_load_cm rfl (.tmp 5) rfl rfl K2.out ?_)
    refine (T1 _).mono ?_
    rintro x W6 ⟨rfl, hb⟩
    replace K1 := hid (var_on hb K1.out l1)
    replace K2 := hid (var_on hb K2.out l2)
    replace hE := below_on hE hb
    replace l1 := at_lt K1.out
    replace l2 := at_lt K2.out
    clear hb T1
    go_wp2_with (with_reducible refine wpList_load_cm rfl (.tmp 5) rfl rfl K2.out ?_)
    refine (T2 _).mono ?_
    rintro x W7 ⟨rfl, hb⟩
    replace K1 := hid (var_on hb K1.out l1)
    replace K2 := hid (var_on hb K2.out l2)
    replace hE := below_on hE hb
    replace l1 := at_lt K1.out
    replace l2 := at_lt K2.out
    clear hb T2
    go_wp2_with (first
      | ((with_reducible refine wpList_load_cmG ?_ (.tmp 2) rfl rfl K1.out ?_); · rfl)
      | ((with_reducible refine wpList_load_cmG ?_ (.tmp 5) rfl rfl K2.out ?_); · rfl))
    refine (T3 _).mono ?_
    rintro x W8 ⟨rfl, hb⟩
    replace hE := below_on hE hb
    go_wp2_with fail
    go_ret
    exact ⟨rfl, hE⟩
  · have q0 : (((n : Int) % 6) == 0) = false := by simp; omega
    have q1 : (((n : Int) % 6) == 1) = false := by simp; omega
    have q2 : (((n : Int) % 6) == 2) = false := by simp; omega
    have q3 : (((n : Int) % 6) == 3) = true := by simp; omega
    have nc := cell_i K2.out (k := 17) (by simp [atI])
    obtain ⟨T1, T2, T3⟩ := tail (a0.setI 17 (-1)) (not_head (by simp [Cm.setI])) (i_fit hf _ _)
    have hS := hid (set_i K2.out (k := 17) (by simp [atI]) (-1))
    have hb := (But.refl W3.heap.size W4).setCell 17 (.int .i64 (-1))
    go_upto_region 18 with fail
    replace K1 := hid (hb.at K1.out (by omega))
    replace hE := hb.below hE (by omega)
    replace K2 := hS
    replace l1 := at_lt K1.out
    replace l2 := at_lt K2.out
    clear hb hS nc fz tail hnk h
    generalize W4.setCell _ _ = W5 at K1 K2 hE l1 l2 ⊢
    go_wp2_with (with_reducible refine wpList_load_cm rfl (.tmp 5) rfl rfl K2.out ?_)
    refine (T1 _).mono ?_
    rintro x W6 ⟨rfl, hb⟩
    replace K1 := hid (var_on hb K1.out l1)
    replace K2 := hid (var_on hb K2.out l2)
    replace hE := below_on hE hb
    replace l1 := at_lt K1.out
    replace l2 := at_lt K2.out
    clear hb T1
    go_wp2_with (with_reducible refine wpList_load_cm rfl (.tmp 5) rfl rfl K2.out ?_)
    refine (T2 _).mono ?_
    rintro x W7 ⟨rfl, hb⟩
    replace K1 := hid (var_on hb K1.out l1)
    replace K2 := hid (var_on hb K2.out l2)
    replace hE := below_on hE hb
    replace l1 := at_lt K1.out
    replace l2 := at_lt K2.out
    clear hb T2
    go_wp2_with (first
      | ((with_reducible refine wpList_load_cmG ?_ (.tmp 2) rfl rfl K1.out ?_); · rfl)
      | ((with_reducible refine wpList_load_cmG ?_ (.tmp 5) rfl rfl K2.out ?_); · rfl))
    refine (T3 _).mono ?_
    rintro x W8 ⟨rfl, hb⟩
    replace hE := below_on hE hb
    go_wp2_with fail
    go_ret
    exact ⟨rfl, hE⟩
  · have q0 : (((n : Int) % 6) == 0) = false := by simp; omega
    have q1 : (((n : Int) % 6) == 1) = false := by simp; omega
    have q2 : (((n : Int) % 6) == 2) = false := by simp; omega
    have q3 : (((n : Int) % 6) == 3) = false := by simp; omega
    have q4 : (((n : Int) % 6) == 4) = true := by simp; omega
    have nc := cell_i K2.out (k := 3) (by simp [atI])
    obtain ⟨T1, T2, T3⟩ := tail (a0.setI 3 101) (not_tt rfl) (i_fit hf _ _)
    have hS := hid (set_i K2.out (k := 3) (by simp [atI]) 101)
    have hb := (But.refl W3.heap.size W4).setCell 3 (.int .i64 101)
    go_upto_region 18 with fail
    replace K1 := hid (hb.at K1.out (by omega))
    replace hE := hb.below hE (by omega)
    replace K2 := hS
    replace l1 := at_lt K1.out
    replace l2 := at_lt K2.out
    clear hb hS nc fz tail hnk h
    generalize W4.setCell _ _ = W5 at K1 K2 hE l1 l2 ⊢
    go_wp2_with (with_reducible refine wpList_load_cm rfl (.tmp 5) rfl rfl K2.out ?_)
    refine (T1 _).mono ?_
    rintro x W6 ⟨rfl, hb⟩
    replace K1 := hid (var_on hb K1.out l1)
    replace K2 := hid (var_on hb K2.out l2)
    replace hE := below_on hE hb
    replace l1 := at_lt K1.out
    replace l2 := at_lt K2.out
    clear hb T1
    go_wp2_with (with_reducible refine wpList_load_cm rfl (.tmp 5) rfl rfl K2.out ?_)
    refine (T2 _).mono ?_
    rintro x W7 ⟨rfl, hb⟩
    replace K1 := hid (var_on hb K1.out l1)
    replace K2 := hid (var_on hb K2.out l2)
    replace hE := below_on hE hb
    replace l1 := at_lt K1.out
    replace l2 := at_lt K2.out
    clear hb T2
    go_wp2_with (first
      | ((with_reducible refine wpList_load_cmG ?_ (.tmp 2) rfl rfl K1.out ?_); · rfl)
      | ((with_reducible refine wpList_load_cmG ?_ (.tmp 5) rfl rfl K2.out ?_); · rfl))
    refine (T3 _).mono ?_
    rintro x W8 ⟨rfl, hb⟩
    replace hE := below_on hE hb
    go_wp2_with fail
    go_ret
    exact ⟨rfl, hE⟩
  · have q0 : (((n : Int) % 6) == 0) = false := by simp; omega
    have q1 : (((n : Int) % 6) == 1) = false := by simp; omega
    have q2 : (((n : Int) % 6) == 2) = false := by simp; omega
    have q3 : (((n : Int) % 6) == 3) = false := by simp; omega
    have q4 : (((n : Int) % 6) == 4) = false := by simp; omega
    have nc := cell_i K2.out (k := 1) (by simp [atI])
    obtain ⟨T1, T2, T3⟩ := tail (a0.setI 1 (-1)) (not_id rfl) (i_fit hf _ _)
    have hS := hid (set_i K2.out (k := 1) (by simp [atI]) (-1))
    have hb := (But.refl W3.heap.size W4).setCell 1 (.int .i64 (-1))
    go_upto_region 18 with fail
    replace K1 := hid (hb.at K1.out (by omega))
    replace hE := hb.below hE (by omega)
    replace K2 := hS
    replace l1 := at_lt K1.out
    replace l2 := at_lt K2.out
    clear hb hS nc fz tail hnk h
    generalize W4.setCell _ _ = W5 at K1 K2 hE l1 l2 ⊢
    go_wp2_with (with_reducible refine wpList_load_cm rfl (.tmp 5) rfl rfl K2.out ?_)
    refine (T1 _).mono ?_
    rintro x W6 ⟨rfl, hb⟩
    replace K1 := hid (var_on hb K1.out l1)
    replace K2 := hid (var_on hb K2.out l2)
    replace hE := below_on hE hb
    replace l1 := at_lt K1.out
    replace l2 := at_lt K2.out
    clear hb T1
    go_wp2_with (with_reducible refine wpList_load_cm rfl (.tmp 5) rfl rfl K2.out ?_)
    refine (T2 _).mono ?_
    rintro x W7 ⟨rfl, hb⟩
    replace K1 := hid (var_on hb K1.out l1)
    replace K2 := hid (var_on hb K2.out l2)
    replace hE := below_on hE hb
    replace l1 := at_lt K1.out
    replace l2 := at_lt K2.out
    clear hb T2
    go_wp2_with (first
      | ((with_reducible refine wpList_load_cmG ?_ (.tmp 2) rfl rfl K1.out ?_); · rfl)
      | ((with_reducible refine wpList_load_cmG ?_ (.tmp 5) rfl rfl K2.out ?_); · rfl))
    refine (T3 _).mono ?_
    rintro x W8 ⟨rfl, hb⟩
    replace hE := below_on hE hb
    go_wp2_with fail
    go_ret
    exact ⟨rfl, hE⟩

theorem cmdSpoils_own : ownKnob Try.prog.godebug = none := by kernel_rfl
theorem cmdSpoils_laidOut : laidOutB Try.prog = true := by kernel_rfl
set_option maxRecDepth 100000 in
theorem cmdSpoils_lifted (os : Os) (started : os.Started) (H : Type) (enc : TypeId × Value → H) :
    ReturnsInHanded {} Try.checked os 6 .any (Rows.cmdSpoilsSpec.pre6 enc Try.prog Try.f6 Rows.cmdSpoilsRow.domain false) (Rows.cmdSpoilsSpec.post enc Try.prog Try.f6 false true false false) := by
  refine returnsInHanded_of_change (C := Try.checked) cmdSpoils_own started (by kernel_rfl) Try.func6
    (ChangeSpec.witness6 (enc := enc) (C := Try.checked) false ⟨#[], #[.agg #[.int .i64 0, .int .i64 0, .int .i64 0, .int .i64 0, .int .i64 0, .int .i64 0, .int .i64 0, .string ByteArray.empty, .int .i64 0, .string ByteArray.empty, .int .i64 0, .string ByteArray.empty, .int .i64 0, .string ByteArray.empty, .int .i64 0, .string ByteArray.empty, .int .i64 0, .int .i64 0, .int .i64 0, .int .i64 0, .int .i64 0, .int .i64 0], .int .u8 0], []⟩ 8 (by kernel_rfl) (by kernel_rfl) (by kernel_rfl) (by kernel_rfl)) ?_
  intro W base args ds gs before hval0 hW hcnd _
  have hval : ∀ (j : Nat) t v, Try.f6.params[j]? = some t → args[j]? = some v → Value.okWide Try.prog W .any base t v := hval0
  have hW' := hW
  obtain ⟨p, q, hA0, hV, rfl, hfz, hnd⟩ := hW
  have hA : DataW.TrodAll enc Try.prog W 0 (fun _ => true) true Try.f6.params.toList args.toList ds p := hA0
  rw [Try.params6] at hA hval
  obtain ⟨v0, vs0, d0, ds0, p0, q0, hargs, rfl, rfl, h0, r0⟩ := trodAll_cons hA
  obtain ⟨v1, vs1, d1, ds1, p1, q1, rfl, rfl, rfl, h1, r1⟩ := trodAll_cons r0
  obtain ⟨rfl, rfl, rfl⟩ := trodAll_nil r1
  obtain rfl : args = #[v0, v1] := by cases args; simp_all
  obtain ⟨rfl, rfl⟩ := trodVars_none hV
  have k0 := h0
  have lt0 : ∀ x ∈ p0, x.block < W.heap.size := by obtain ⟨m, hm⟩ := k0; exact DataW.trod_lt m _ _ _ hm
  have k1 := h1
  have lt1 : ∀ x ∈ p1, x.block < W.heap.size := by obtain ⟨m, hm⟩ := k1; exact DataW.trod_lt m _ _ _ hm
  obtain ⟨a0, rfl, w0⟩ := open_cm (hval 0 30 v0 rfl rfl) h0
  obtain ⟨a1, rfl, rfl, rfl, w1⟩ := open_int Try.underlying5 (hval 1 5 v1 rfl rfl) h1
  clear hA0 hval0
  refine (cmdSpoils_walk W a0 w0 a1 w1).mono fun e W' ⟨he, bel⟩ => ?_
  subst he
  exact ⟨_, rfl, _, _, _, [], _, [], hW', trodAll_mk1 (shut_bool Try.underlying4 _), (trodAll_cons_mk (Below.trod cmdSpoils_laidOut (by kernel_rfl) (of_decide_eq_true (by kernel_rfl)) k0 bel lt0) (trodAll_cons_mk (Below.trod cmdSpoils_laidOut (by kernel_rfl) (of_decide_eq_true (by kernel_rfl)) k1 bel lt1) trodAll_mk0)), rfl, bel.frame _, fun h => by cases h⟩

theorem cmdSpoils_over : Rows.cmdSpoilsRow.holds Try.pinned (OpenSpec.ofChange Rows.cmdSpoilsSpec) :=
  OpenClaim.holds_of_wide 6 Try.f6 rfl rfl rfl rfl rfl rfl rfl ⟨rfl, rfl, rfl, rfl, rfl⟩ rfl rfl rfl rfl rfl (by kernel_rfl) Try.func6 (by kernel_rfl)
    (of_decide_eq_true (by kernel_rfl)) (by unfold Func.isWrapper; first | (rw [if_pos (by decide +kernel)]; kernel_rfl) | (rw [if_neg (by decide +kernel)]; exact ⟨rfl, rfl⟩))
    (fun os started H enc _ => cmdSpoils_lifted os started H enc)

theorem cmdSpoils_holds : Rows.CmdSpoilsSaid := cmdSpoils_over
#print axioms cmdSpoils_holds
end Go.Proofs.Ytfcofhlcainanaa
