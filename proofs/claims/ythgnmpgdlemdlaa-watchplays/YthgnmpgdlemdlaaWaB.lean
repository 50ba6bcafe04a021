/- Contracts of New, Of, All, Copy of the package watch; a whole book loaded, stored, compared. -/
import Derived.Test.YthgnmpgdlemdlaaWaA
namespace Go.Proofs.Ythgnmpgdlemdlaa
open Go.RowKit
set_option linter.unusedVariables false
theorem Try.sizeW : (Try.prog.info? 32).map (·.size) = some 7 := by kernel_rfl
theorem Try.sizeB : (Try.prog.info? 55).map (·.size) = some 28 := by kernel_rfl
theorem Try.sizeA : (Try.prog.info? 33).map (·.size) = some 28 := by kernel_rfl
theorem wt_row {W : World} {g : Nat} {o : Wt} (h : W.heap[g]? = some o.o) : (loadVar 32 ⟨g, 0, none⟩).run Try.prog W = .ok o.v W :=
  run_loadVar_row W g _ _ _ _ _ h Try.underlying32 rfl Try.sizeW
theorem wt_set {W : World} {g : Nat} (h : W.heap[g]? = some noW.o) (o : Wt) : (((((((W.setCell ⟨g, 0, none⟩ (.bool o.on)).setCell ⟨g, 1, none⟩ (.int .i64 o.s)).setCell ⟨g, 2, none⟩ (.int .i64 o.st)).setCell ⟨g, 3, none⟩ (.int .i64 o.r.x0)).setCell ⟨g, 4, none⟩ (.int .i64 o.r.y0)).setCell ⟨g, 5, none⟩ (.int .i64 o.r.x1)).setCell ⟨g, 6, none⟩ (.int .i64 o.r.y1)).heap[g]? = some o.o :=
  set_at (set_at (set_at (set_at (set_at (set_at (set_at h _ rfl) _ rfl) _ rfl) _ rfl) _ rfl) _ rfl) _ rfl
theorem below_set7 {B : Nat} {w w' : World} (h : Below B w w') {g : Nat} (hg : B ≤ g) {i0 i1 i2 i3 i4 i5 i6 : Nat} (v0 v1 v2 v3 v4 v5 v6 : Value) : Below B w (((((((w'.setCell ⟨g, i0, none⟩ v0).setCell ⟨g, i1, none⟩ v1).setCell ⟨g, i2, none⟩ v2).setCell ⟨g, i3, none⟩ v3).setCell ⟨g, i4, none⟩ v4).setCell ⟨g, i5, none⟩ v5).setCell ⟨g, i6, none⟩ v6) :=
  ((((((h.setCell hg v0).setCell hg v1).setCell hg v2).setCell hg v3).setCell hg v4).setCell hg v5).setCell hg v6
theorem results_of {tmps : Array Value} {W : World} {g : Nat} {o : Wt} (h4 : tmps.getD 4 undef = .pointer (some ⟨g, 0, none⟩)) (h : W.heap[g]? = some o.o) : (results Try.f15 tmps).run Try.prog W = .ok o.v W := by
  have h4' : tmps[4]?.getD undef = .pointer (some ⟨g, 0, none⟩) := by simpa using h4
  simp [results, Try.results15, h4', asAddr, wt_row h]
set_option maxHeartbeats 1000000 in
theorem watch_of_at {w : World} {g : Nat} {t : TypeId} {L : List Wt} (h : WB w g t L) {c : Int} {o : Wt} (ho : Hid (ofW L c = o)) : Calls Try.prog 15 #[.pointer (some ⟨g, 0, none⟩), .int .i64 c] w fun e w' => e = .returned o.v ∧ Below w.heap.size w w' := by
  obtain ⟨W, hW⟩ : ∃ W, w.alloc (wtO false 0 0 0 0 0 0) = W := ⟨_, rfl⟩
  have hB : Below w.heap.size w W := by rw [← hW]; exact below1 _ _
  have hA := hid (show W.heap[w.heap.size]? = some noW.o by rw [← hW]; exact new_at _ _ _ rfl)
  have h1 := hid (h.later hB)
  have f0 := (cells_at hA.out).2
  have e0 : ∀ i, W.cell? ⟨w.heap.size, i, none⟩ = #[Value.bool false, .int .i64 0, .int .i64 0, .int .i64 0, .int .i64 0, .int .i64 0, .int .i64 0][i]? := (cells_at hA.out).1
  clear h
  by_cases hc : isCl c = true
  · obtain ⟨k, rfl, hk⟩ := cl_nat hc
    obtain ⟨p, hp⟩ := h1.out.get hk
    obtain rfl : p = o := by rw [← ho.out]; unfold ofW; rw [if_pos hc]; exact (atW_nat hp).symm
    obtain ⟨c0, c1, c2, c3, c4, c5, c6⟩ := h1.out.cell hp
    have d1 : decide ((k : Int) < 0) = false := by simp
    have d2 : decide (4 ≤ (k : Int)) = false := by simp; omega
    have hk' : (k : Int) < 4 := by omega
    clear hp hc ho
    go_enter Try.func15, Try.ntmps15
    go_upto_region 1 with fail
    try rw [hW]
    clear hW
    go_wp2_with fail
    exact bodyPost_ret (v := p.v) (results_of (by simp) (wt_set hA.out p)) rfl ⟨rfl, below_set7 hB (Nat.le_refl _) _ _ _ _ _ _ _⟩
  · obtain rfl : noW = o := by rw [← ho.out]; unfold ofW; rw [if_neg hc]
    have hc' : decide (c < 0) = true ∨ decide (c < 0) = false ∧ decide (4 ≤ c) = true := by simp [isCl] at hc ⊢; omega
    clear ho hc
    rcases hc' with d1 | ⟨d1, d2⟩
    · go_enter Try.func15, Try.ntmps15
      go_upto_region 1 with fail
      try rw [hW]
      clear hW
      go_wp2_with fail
      exact bodyPost_ret (v := noW.v) (results_of (by simp) (wt_set hA.out noW)) rfl ⟨rfl, below_set7 hB (Nat.le_refl _) _ _ _ _ _ _ _⟩
    · go_enter Try.func15, Try.ntmps15
      go_upto_region 1 with fail
      try rw [hW]
      clear hW
      go_wp2_with fail
      exact bodyPost_ret (v := noW.v) (results_of (by simp) (wt_set hA.out noW)) rfl ⟨rfl, below_set7 hB (Nat.le_refl _) _ _ _ _ _ _ _⟩
/-! whole books -/
theorem load_bk {W : World} {g : Nat} {t : TypeId} {L : List Wt} (h : WB W g t L) : (loadVar 33 ⟨g, 0, none⟩).run Try.prog W = .ok (.agg (bkC L)) W :=
  run_loadVar_row W g _ _ _ _ _ h.at_ Try.underlying33 rfl (by rw [Try.sizeA, bkC_size h.len])
theorem wpList_load_bk {ops : Array Oper} {rest : List Oper} {o : Oper} {a : Act} {W : World} {Q : Exit → Act → World → Prop} (hgd : o.guard = none) (x : Operand) (ho : o.op = .load 55 x)
    {g : Nat} {t : TypeId} {L : List Wt} (hx : a.eval x = .pointer (some ⟨g, 0, none⟩)) (h : WB W g t L) (k : wpList Try.prog ops Q rest (a.put o.dst (.agg (bkC L))) W) : wpList Try.prog ops Q (o :: rest) a W :=
  wpList_load_row hgd _ x ho g hx _ _ _ _ h.at_ Try.underlying55 rfl (by rw [Try.sizeB, bkC_size h.len]) k
theorem wpList_load_ar {ops : Array Oper} {rest : List Oper} {o : Oper} {a : Act} {W : World} {Q : Exit → Act → World → Prop} (hgd : o.guard = none) (x : Operand) (ho : o.op = .load 33 x)
    {g : Nat} {t : TypeId} {L : List Wt} (hx : a.eval x = .pointer (some ⟨g, 0, none⟩)) (h : WB W g t L) (k : wpList Try.prog ops Q rest (a.put o.dst (.agg (bkC L))) W) : wpList Try.prog ops Q (o :: rest) a W :=
  wpList_load_row hgd _ x ho g hx _ _ _ _ h.at_ Try.underlying33 rfl (by rw [Try.sizeA, bkC_size h.len]) k
theorem wpList_store_bk {ops : Array Oper} {rest : List Oper} {o : Oper} {a : Act} {W : World} {Q : Exit → Act → World → Prop} (hgd : o.guard = none) (x y : Operand) (ho : o.op = .store 55 x y)
    {g : Nat} {t : TypeId} {L M : List Wt} (hx : a.eval x = .pointer (some ⟨g, 0, none⟩)) (hy : a.eval y = .agg (bkC L)) (hl : L.length = 4) (h : WB W g t M) (k : ∀ W', WB W' g t L → But g W W' → wpList Try.prog ops Q rest (a.put o.dst undef) W') : wpList Try.prog ops Q (o :: rest) a W :=
  wpList_store_row hgd _ x y ho g _ hx hy _ _ h.at_ (by rw [Try.sizeB, bkC_size hl]) (by rw [bkC_size h.len, bkC_size hl]) (bkC_one L) (k _ ⟨setRow_heap W g _ _ _ _ h.at_, hl⟩ ⟨rfl, rfl, rfl, by simp, fun i hi hg => setRow_other W g i _ hg⟩)
theorem wpList_store_ar {ops : Array Oper} {rest : List Oper} {o : Oper} {a : Act} {W : World} {Q : Exit → Act → World → Prop} (hgd : o.guard = none) (x y : Operand) (ho : o.op = .store 33 x y)
    {g : Nat} {t : TypeId} {L M : List Wt} (hx : a.eval x = .pointer (some ⟨g, 0, none⟩)) (hy : a.eval y = .agg (bkC L)) (hl : L.length = 4) (h : WB W g t M) (k : ∀ W', WB W' g t L → But g W W' → wpList Try.prog ops Q rest (a.put o.dst undef) W') : wpList Try.prog ops Q (o :: rest) a W :=
  wpList_store_row hgd _ x y ho g _ hx hy _ _ h.at_ (by rw [Try.sizeA, bkC_size hl]) (by rw [bkC_size h.len, bkC_size hl]) (bkC_one L) (k _ ⟨setRow_heap W g _ _ _ _ h.at_, hl⟩ ⟨rfl, rfl, rfl, by simp, fun i hi hg => setRow_other W g i _ hg⟩)
abbrev zeroBk (t : TypeId) : Obj := .cells #[.bool false, .int .i64 0, .int .i64 0, .int .i64 0, .int .i64 0, .int .i64 0, .int .i64 0, .bool false, .int .i64 0, .int .i64 0, .int .i64 0, .int .i64 0, .int .i64 0, .int .i64 0, .bool false, .int .i64 0, .int .i64 0, .int .i64 0, .int .i64 0, .int .i64 0, .int .i64 0, .bool false, .int .i64 0, .int .i64 0, .int .i64 0, .int .i64 0, .int .i64 0, .int .i64 0] t
theorem new_bk (w : World) (t : TypeId) : WB (w.alloc (zeroBk t)) w.heap.size t noL := ⟨new_at _ _ _ rfl, rfl⟩
theorem watch_new (w : World) : Calls Try.prog 7 #[] w fun e w' => e = .returned (.pointer (some ⟨w.heap.size, 0, none⟩)) ∧ WB w' w.heap.size 55 noL ∧ Below w.heap.size w w' := by
  go_enter Try.func7, Try.ntmps7
  go_wp2
  go_ret
  exact ⟨rfl, ⟨new_at _ _ _ rfl, rfl⟩, below1 _ _⟩
theorem watch_copy {w : World} {g : Nat} {t : TypeId} {L : List Wt} (h : WB w g t L) : Calls Try.prog 9 #[.pointer (some ⟨g, 0, none⟩)] w fun e w' => e = .returned (.pointer (some ⟨w.heap.size, 0, none⟩)) ∧ WB w' w.heap.size 55 L ∧ Below w.heap.size w w' := by
  have HH := hid h
  clear h
  go_enter Try.func9, Try.ntmps9
  go_upto_region 2 with (first
    | with_reducible refine wpList_load_bk rfl (.tmp 5) rfl rfl HH.out ?_
    | with_reducible refine wpList_store_bk rfl (.tmp 3) (.tmp 6) rfl rfl rfl HH.out.len (new_bk w _) ?_)
  intro w' h1 h2
  have hb := h2.new
  clear h2
  go_wp2
  go_ret
  exact ⟨rfl, h1, hb⟩
theorem results_all {tmps : Array Value} {W : World} {g : Nat} {t : TypeId} {L : List Wt} (h2 : tmps.getD 2 undef = .pointer (some ⟨g, 0, none⟩)) (h : WB W g t L) : (results Try.f12 tmps).run Try.prog W = .ok (.agg (bkC L)) W := by
  have h2' : tmps[2]?.getD undef = .pointer (some ⟨g, 0, none⟩) := by simpa using h2
  simp [results, Try.results12, h2', asAddr, load_bk h]
theorem watch_all {w : World} {g : Nat} {t : TypeId} {L : List Wt} (h : WB w g t L) : Calls Try.prog 12 #[.pointer (some ⟨g, 0, none⟩)] w fun e w' => e = .returned (.agg (bkC L)) ∧ Below w.heap.size w w' := by
  obtain ⟨W, hW⟩ : ∃ W, w.alloc (zeroBk 33) = W := ⟨_, rfl⟩
  have hB : Below w.heap.size w W := by rw [← hW]; exact below1 _ _
  have hA := hid (show WB W w.heap.size 33 noL by rw [← hW]; exact new_bk _ _)
  have HH := hid (h.later hB)
  clear h
  go_enter Try.func12, Try.ntmps12
  go_upto_region 1 with fail
  try rw [hW]
  clear hW
  go_wp2_with (first
    | with_reducible refine wpList_load_ar rfl (.tmp 5) rfl rfl HH.out ?_
    | with_reducible refine wpList_store_ar rfl (.tmp 2) (.tmp 6) rfl rfl rfl HH.out.len hA.out ?_)
  intro w' h1 h2
  have hb := But.below hB h2 (Nat.le_refl _)
  clear h2
  go_wp2
  exact bodyPost_ret (v := .agg (bkC L)) (results_all (by simp) h1) rfl ⟨rfl, hb⟩
/-- the parts of an array of four watches -/
theorem partW (W : World) (o0 o1 o2 o3 : Wt) : (part 32 (bkC [o0, o1, o2, o3]) 0).run Try.prog W = .ok o0.v W ∧ (part 32 (bkC [o0, o1, o2, o3]) 7).run Try.prog W = .ok o1.v W ∧ (part 32 (bkC [o0, o1, o2, o3]) 14).run Try.prog W = .ok o2.v W ∧ (part 32 (bkC [o0, o1, o2, o3]) 21).run Try.prog W = .ok o3.v W := by
  refine ⟨?_, ?_, ?_, ?_⟩ <;> kernel_rfl
theorem Try.infoW : (Try.prog.info? 32).isSome = true := by kernel_rfl
theorem Try.cellsEW : Try.prog.cellsOf 32 = 7 := by kernel_rfl
theorem eqW_self (o : Wt) : eqW o o = true := eqW_iff.2 rfl
theorem four {α : Type} {L : List α} (h : L.length = 4) : ∃ a b c d, L = [a, b, c, d] := by
  match L, h with
  | [a, b, c, d], _ => exact ⟨a, b, c, d, rfl⟩
theorem equal_bk {L : List Wt} (h : L.length = 4) (W : World) : (Op.equalIn 10000 33 (.agg (bkC L)) (.agg (bkC L))).run Try.prog W = .ok true W := by
  obtain ⟨o0, o1, o2, o3, rfl⟩ := four h
  obtain ⟨i, hi⟩ := Option.isSome_iff_exists.1 Try.infoW
  obtain ⟨p0, p1, p2, p3⟩ := partW W o0 o1 o2 o3
  rw [run_equalIn_array W 9999 _ _ Try.underlying33 hi, Try.cellsEW]
  simp only [List.range, List.range.loop, Op.eqItems, Sem.run_bind, Nat.zero_mul, Nat.one_mul, p0, Result.andThen_ok, show 2 * 7 = 14 from rfl, show 3 * 7 = 21 from rfl, equal_wt9, eqW_self]
  simp only [Sem.run_pure, Sem.run_bind, p1, p2, p3, Result.andThen_ok, reduceIte, Bool.not_true, Bool.false_eq_true, equal_wt9, eqW_self]
end Go.Proofs.Ythgnmpgdlemdlaa
