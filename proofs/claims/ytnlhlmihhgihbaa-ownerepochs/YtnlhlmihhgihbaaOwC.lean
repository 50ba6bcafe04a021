/- Contracts of Cells, of the package owner and of the reference. -/
import Derived.Test.YtnlhlmihhgihbaaOwK
namespace Go.Proofs.Ytnlhlmihhgihbaa
open Go.RowKit
set_option linter.unusedVariables false
def vals (l : List Nat) : List Value := l.map fun c => .int .i64 (c : Nat)
theorem vals_append (l m : List Nat) : vals (l ++ m) = vals l ++ vals m := by simp [vals]
theorem vals_length (l : List Nat) : (vals l).length = l.length := by simp [vals]
theorem Try.info3 : (Try.prog.info? 3).map (fun i => (i.zero, i.size, i.bytes)) = some (some (.int .i64 0), 1, 8) := by kernel_rfl
theorem cellsF_yes {L : List Ow} {s : Int} {k : Nat} {o : Ow} (ho : L[k]? = some o) (h : o.s = s) : cellsF L s (k + 1) = cellsF L s k ++ [k] := by
  rw [cellsF_succ, at_nat ho, if_pos h]
theorem cellsF_no {L : List Ow} {s : Int} {k : Nat} {o : Ow} (ho : L[k]? = some o) (h : ¬ o.s = s) : cellsF L s (k + 1) = cellsF L s k := by
  rw [cellsF_succ, at_nat ho, if_neg h, List.append_nil]
theorem cellsF_le (L : List Ow) (s : Int) (k : Nat) : (cellsF L s k).length ≤ k := by
  have := List.length_filter_le (fun c : Nat => decide ((atO L (c : Int)).s = s)) (List.range k)
  simpa [cellsF] using this
set_option maxHeartbeats 1000000 in
theorem ref_cells {w : World} {g : Nat} {t : TypeId} {a : Int} {L : List Ow} (h : MB w g t a L) (s : Int) :
    Calls Try.prog 16 #[.pointer (some ⟨g, 0, none⟩), .int .i64 s] w fun e w' => ∃ v, e = .returned v ∧ w'.ownsRow w.heap.size 3 1 v (cellsN L s).length (vals (cellsN L s)) ∧ Below w.heap.size w w' := by
  obtain ⟨i0, hi, hz0, hz1, hz2⟩ := info_parts3 Try.info3
  have HM := hid h
  have hg := h.lt
  obtain ⟨N, hN⟩ : ∃ N, Hid (cellsN L s = N) := ⟨_, rfl⟩
  rw [hN.out]
  clear h
  go_enter Try.func16, Try.ntmps16
  go_wp2_with fail
  go_loopw [5, 6] (fun v i wr => ∃ (k : Nat) (R : List Nat), k ≤ 16 ∧ i = .int .i64 k ∧ Hid (R = cellsF L s k) ∧ wr.ownsRow w.heap.size 3 1 v R.length (vals R) ∧ Below w.heap.size w wr) (fun _ i _ => 17 - (intOf i).toNat)
  case atStart => exact ⟨0, [], by omega, rfl, rfl, World.ownsRow_nil _ _ _ _, Below.refl _ _⟩
  case round =>
    obtain ⟨k, R, hk, rfl, hR, ho, hb⟩ := hrel
    have hn : R.length ≤ 16 := by rw [hR.out]; exact Nat.le_trans (cellsF_le _ _ _) hk
    have hs1 := hb.size
    by_cases hlt : k < 16
    · have hlt' : (k : Int) < 16 := by omega
      obtain ⟨o, hok⟩ := HM.out.get hlt
      obtain ⟨c1, c2⟩ := (HM.out.on hb hg).cell hok
      have HO := hid hok
      clear hok
      by_cases e : o.s = s
      · have d : (o.s == s) = true := by simpa using e
        have hS := hid (cellsF_yes HO.out e)
        clear e
        go_wp2_with (at_builtin; refine wpList_append_lies _ rfl _ _ 35 rfl w.heap.size 3 i0 (.int .i64 0) 1 8 Try.underlying35 hi hz0 hz1 hz2 rfl (by decide) _ _ _ rfl (ho.alloc _) ⟨wr.heap.size, 0, none⟩ 1 1 [.int .i64 (k : Nat)] rfl rfl (World.news_of_block (heap_alloc_new _ _)) (by intro u hu; simp at hu; subst hu; rfl) (by decide) (by unfold maxLen; omega) (by omega) (by simp; omega) (wr.heap.size + 1) (by simp) ?_)
        intro g' cap w4 hown hgrow hat hg4
        go_wp2
        go_roundw
        case rel =>
          refine ⟨k + 1, R ++ [k], by omega, by go_num, ?_, ?_, ?_⟩
          · exact (congrArg (· ++ [k]) hR.out).trans hS.out.symm
          · rw [vals_append, List.length_append]; exact hown
          · exact (hb.alloc (by omega) _).grown hgrow (by simp; omega) (fun k hk => by have := (ho.lt k hk).1; omega)
        case measure => simp [intOf]; omega
      · have d : (o.s == s) = false := by simpa using e
        have hS := hid (cellsF_no HO.out e)
        clear e
        go_wp2
        go_roundw
        case rel => exact ⟨k + 1, R, by omega, by go_num, hR.out.trans hS.out.symm, ho, hb⟩
        case measure => simp [intOf]; omega
    · have hk4 : k = 16 := by omega
      subst hk4
      have hRN : R = N := hR.out.trans hN.out
      subst hRN
      go_wp2
      go_ret
      exact ⟨_, rfl, ho, hb⟩
theorem Try.size52 : (Try.prog.info? 52).map (·.size) = some 32 := by kernel_rfl
theorem load_arr {W : World} {g : Nat} {t : TypeId} {a : Int} {L : List Ow} (h : MB W g t a L) : (loadVar 52 ⟨g, 1, none⟩).run Try.prog W = .ok (.agg (flatG Ow.cs L).toArray) W := by
  have hlen : (flatG Ow.cs L).length = 32 := by rw [flatG_length Ow.z, h.len]
  have hl : (loadCells ⟨g, 1, none⟩ 32).run Try.prog W = .ok (flatG Ow.cs L).toArray W := by
    have := run_loadCells_list (P := Try.prog) W ⟨g, 1, none⟩ (flatG Ow.cs L) (fun j v hv => by
      have hadd : (⟨g, 1, none⟩ : Addr).add j = ⟨g, 1 + j, none⟩ := by unfold Addr.add; split <;> simp_all
      rw [hadd]
      exact map_read h j v hv)
    rw [hlen] at this
    exact this
  have hagg : (isAgg 52).run Try.prog W = .ok true W := by
    unfold isAgg
    rw [Sem.run_bind, run_underlying Try.underlying52 W]
    rfl
  have hi := Try.size52
  cases hq : Try.prog.info? 52 with
  | none => simp [hq] at hi
  | some i =>
    have hs : i.size = 32 := by simpa [hq] using hi
    simp [loadVar, Sem.run_bind, hagg, sizeOf, typeInfo, hq, hs, hl]
theorem wpList_load_arr {ops : Array Oper} {rest : List Oper} {o : Oper} {a : Act} {W : World} {Q : Exit → Act → World → Prop} (hgd : o.guard = none) (x : Operand) (ho : o.op = .load 52 x)
    {g : Nat} {t : TypeId} {n : Int} {L : List Ow} (hx : a.eval x = .pointer (some ⟨g, 1, none⟩)) (h : MB W g t n L) (k : wpList Try.prog ops Q rest (a.put o.dst (.agg (flatG Ow.cs L).toArray)) W) : wpList Try.prog ops Q (o :: rest) a W :=
  wpList_plain hgd fun K hK => by
    unfold Oper.wp execOp
    simp only [ho, hx, Instr.loadAt, Instr.sureAddr, Sem.run_bind, Sem.run_pure, Result.andThen_ok, load_arr h]
    exact hK _ _ k
theorem flat_part {L : List Ow} {k : Nat} {o : Ow} (h : L[k]? = some o) : ((flatG Ow.cs L).drop (k * 2)).take 2 = [.int .i64 o.s, .int .i64 o.e] := by
  have hk := (List.getElem?_eq_some_iff.1 h).1
  have e : L[k] = o := (List.getElem?_eq_some_iff.1 h).2
  rw [flatG_drop Ow.z, List.drop_eq_getElem_cons hk, e]
  rfl
theorem index_arr {L : List Ow} {k : Nat} {o : Ow} (h : L[k]? = some o) (hk : k < 16) (W : World) : (Instr.index 52 (.agg (flatG Ow.cs L).toArray) (.int .i64 (k : Int))).run Try.prog W = .ok (.agg #[.int .i64 o.s, .int .i64 o.e]) W := by
  have hi := Try.size46
  have hagg : (isAgg 46).run Try.prog W = .ok true W := by
    unfold isAgg
    rw [Sem.run_bind, run_underlying Try.underlying46 W]
    rfl
  cases hq : Try.prog.info? 46 with
  | none => simp [hq] at hi
  | some i =>
    have hs : i.size = 2 := by simpa [hq] using hi
    have hp := flat_part h
    simp [Instr.index, asIntOf, Sem.run_bind, run_underlying Try.underlying52 W, part, sizeOf, typeInfo, hq, hs]
    rw [if_pos hk, hp]
set_option maxHeartbeats 1000000 in
theorem own_cells {w : World} {g : Nat} {t : TypeId} {a : Int} {L : List Ow} (h : MB w g t a L) (s : Int) :
    Calls Try.prog 15 #[.pointer (some ⟨g, 0, none⟩), .int .i64 s] w fun e w' => ∃ v, e = .returned v ∧ w'.ownsRow w.heap.size 3 1 v (cellsN L s).length (vals (cellsN L s)) ∧ Below w.heap.size w w' := by
  obtain ⟨i0, hi, hz0, hz1, hz2⟩ := info_parts3 Try.info3
  have HM := hid h
  obtain ⟨N, hN⟩ : ∃ N, Hid (cellsN L s = N) := ⟨_, rfl⟩
  rw [hN.out]
  obtain ⟨X, hX⟩ : ∃ X, Hid (Value.agg (flatG Ow.cs L).toArray = X) := ⟨_, rfl⟩
  clear h
  go_enter Try.func15, Try.ntmps15
  go_upto_region 2 with fail
  go_upto_region 3 with (with_reducible refine wpList_load_arr rfl (.tmp 10) rfl rfl HM.out ?_)
  rw [hX.out]
  go_wp2_with fail
  go_loopw [5, 6, 7, 12] (fun v s6 s7 i wr => ∃ (k : Nat) (R : List Nat), k ≤ 16 ∧ i = .int .i64 k ∧ Hid (R = cellsF L s k) ∧ wr.ownsRow w.heap.size 3 1 v R.length (vals R) ∧ Below w.heap.size w wr) (fun _ _ _ i _ => 17 - (intOf i).toNat)
  case atStart => exact ⟨0, [], by omega, rfl, rfl, World.ownsRow_nil _ _ _ _, Below.refl _ _⟩
  case round =>
    obtain ⟨k, R, hk, rfl, hR, ho, hb⟩ := hrel
    have hn : R.length ≤ 16 := by rw [hR.out]; exact Nat.le_trans (cellsF_le _ _ _) hk
    have hs1 := hb.size
    by_cases hlt : k < 16
    · have hlt' : (k : Int) < 16 := by omega
      obtain ⟨o, hok⟩ := HM.out.get hlt
      have hix : ∀ W, (Instr.index 52 X (.int .i64 (k : Int))).run Try.prog W = .ok (.agg #[.int .i64 o.s, .int .i64 o.e]) W := fun W => by rw [← hX.out]; exact index_arr hok hlt W
      have HO := hid hok
      clear hok
      have ho1 := ho.alloc (.cells #[.int .i64 o.s, .int .i64 o.e] 46)
      have hb1 := hb.alloc hs1 (.cells #[.int .i64 o.s, .int .i64 o.e] 46)
      by_cases e : o.s = s
      · have d : (o.s == s) = true := by simpa using e
        have hS := hid (cellsF_yes HO.out e)
        clear e
        go_upto_region 6 with fail
        obtain ⟨W7, hW7⟩ : ∃ W7, wr.alloc (.cells #[.int .i64 o.s, .int .i64 o.e] 46) = W7 := ⟨_, rfl⟩
        rw [hW7] at ho1 hb1 ⊢
        clear hW7 hix
        have hs7 := hb1.size
        go_wp2_with (at_builtin; refine wpList_append_lies _ rfl _ _ 35 rfl w.heap.size 3 i0 (.int .i64 0) 1 8 Try.underlying35 hi hz0 hz1 hz2 rfl (by decide) _ _ _ rfl (ho1.alloc _) ⟨W7.heap.size, 0, none⟩ 1 1 [.int .i64 (k : Nat)] rfl rfl (World.news_of_block (heap_alloc_new _ _)) (by intro u hu; simp at hu; subst hu; rfl) (by decide) (by unfold maxLen; omega) (by omega) (by simp; omega) (W7.heap.size + 1) (by simp) ?_)
        intro g' cap w4 hown hgrow hat hg4
        go_wp2
        go_roundw
        case rel =>
          refine ⟨k + 1, R ++ [k], by omega, by go_num, ?_, ?_, ?_⟩
          · exact (congrArg (· ++ [k]) hR.out).trans hS.out.symm
          · rw [vals_append, List.length_append]; exact hown
          · exact (hb1.alloc (by omega) _).grown hgrow (by simp; omega) (fun k hk => by have := (ho1.lt k hk).1; omega)
        case measure => simp [intOf]; omega
      · have d : (o.s == s) = false := by simpa using e
        have hS := hid (cellsF_no HO.out e)
        clear e
        go_wp2
        go_roundw
        case rel => exact ⟨k + 1, R, by omega, by go_num, hR.out.trans hS.out.symm, ho1, hb1⟩
        case measure => simp [intOf]; omega
    · have hk4 : k = 16 := by omega
      subst hk4
      have hRN : R = N := hR.out.trans hN.out
      subst hRN
      go_wp2
      go_ret
      exact ⟨_, rfl, ho, hb⟩
end Go.Proofs.Ytnlhlmihhgihbaa
