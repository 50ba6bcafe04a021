/- Contracts of Is, has, Servers, Of, Copy of the packages cells and owner; of the reference's IsCell. -/
import Derived.Test.YtnlhlmihhgihbaaOwP
import Derived.Test.YtnlhlmihhgihbaaProg
namespace Go.Proofs.Ytnlhlmihhgihbaa
open Go.RowKit
set_option linter.unusedVariables false
theorem cells_is (w : World) (c : Int) : Calls Try.prog 22 #[.int .i64 c] w fun e w' => e = .returned (.bool (isCell c)) ∧ w' = w := by
  go_enter Try.func22, Try.ntmps22
  go_wp2 <;> (go_ret; exact ⟨by simp [isCell] <;> omega, rfl⟩)
theorem ref_is_cell (w : World) (c : Int) : Calls Try.prog 24 #[.int .i64 c] w fun e w' => e = .returned (.bool (isCell c)) ∧ w' = w := by
  go_enter Try.func24, Try.ntmps24
  go_wp2 <;> (go_ret; exact ⟨by simp [isCell] <;> omega, rfl⟩)
theorem own_has {w : World} {g : Nat} {t : TypeId} {n : Int} {L : List Ow} (h : MB w g t (n - 1) L) (s : Int) : Calls Try.prog 23 #[.pointer (some ⟨g, 0, none⟩), .int .i64 s] w fun e w' => e = .returned (.bool (isSrv n s)) ∧ w' = w := by
  have h0 := h.num
  have e : isSrv n s = (decide (0 ≤ s) && decide (s ≤ n - 1)) := by
    unfold isSrv
    rw [show decide (s < n) = decide (s ≤ n - 1) from decide_eq_decide.2 (by omega)]
  rw [e]
  obtain ⟨a, ha⟩ : ∃ a, n - 1 = a := ⟨_, rfl⟩
  rw [ha] at h0 ⊢
  clear h e ha
  go_enter Try.func23, Try.ntmps23
  go_wp2 <;> (go_ret; exact ⟨by simp <;> omega, rfl⟩)
theorem own_servers {w : World} {g : Nat} {t : TypeId} {n : Int} {L : List Ow} (h : MB w g t (n - 1) L) (h1 : 1 ≤ n) (h4 : n ≤ 4) : Calls Try.prog 20 #[.pointer (some ⟨g, 0, none⟩)] w fun e w' => e = .returned (.int .i64 n) ∧ w' = w := by
  have h0 := h.num
  clear h
  go_enter Try.func20, Try.ntmps20
  go_wp2
  go_ret
  exact ⟨by simp, rfl⟩
/-- the owner of a cell; of no cell nobody -/
def ofO (L : List Ow) (c : Int) : Ow := if isCell c = true then atO L c else ⟨0, 0⟩
theorem cell_nat {c : Int} (h : isCell c = true) : ∃ k : Nat, c = (k : Int) ∧ k < 16 := by
  simp [isCell] at h
  exact ⟨c.toNat, by omega, by omega⟩
theorem at_nat {L : List Ow} {k : Nat} {o : Ow} (h : L[k]? = some o) : atO L (k : Int) = o := by
  simp [atO, h]
theorem Try.size46 : (Try.prog.info? 46).map (·.size) = some 2 := by kernel_rfl
theorem results_of {tmps : Array Value} {W : World} {g : Nat} {x y : Int} {b : Bool} (h4 : tmps.getD 4 undef = .pointer (some ⟨g, 0, none⟩)) (h5 : tmps.getD 5 undef = .bool b) (h : W.heap[g]? = some (.cells #[.int .i64 x, .int .i64 y] 46 (0, 0))) :
    (results Try.f21 tmps).run Try.prog W = .ok (.tuple #[.agg #[.int .i64 x, .int .i64 y], .bool b]) W := by
  have hl : (loadVar 46 ⟨g, 0, none⟩).run Try.prog W = .ok (.agg #[.int .i64 x, .int .i64 y]) W := run_loadVar_row W g _ _ _ _ _ h Try.underlying46 rfl Try.size46
  have h4' : tmps[4]?.getD undef = .pointer (some ⟨g, 0, none⟩) := by simpa using h4
  have h5' : tmps[5]?.getD undef = .bool b := by simpa using h5
  simp [results, Try.results21, h4', h5', asAddr, hl]
theorem owner_set {W : World} {g : Nat} (h : W.heap[g]? = some (.cells #[.int .i64 0, .int .i64 0] 46 (0, 0))) (x y : Int) : ((W.setCell ⟨g, 0, none⟩ (.int .i64 x)).setCell ⟨g, 1, none⟩ (.int .i64 y)).heap[g]? = some (.cells #[.int .i64 x, .int .i64 y] 46 (0, 0)) := set_at (set_at h _ rfl) _ rfl
set_option maxHeartbeats 1000000 in
theorem own_of {w : World} {g : Nat} {t : TypeId} {a : Int} {L : List Ow} (h : MB w g t a L) (c : Int) : Calls Try.prog 21 #[.pointer (some ⟨g, 0, none⟩), .int .i64 c] w fun e w' => e = .returned (.tuple #[(ofO L c).v, .bool (isCell c)]) ∧ Below w.heap.size w w' := by
  obtain ⟨W, hW⟩ : ∃ W, W = w.alloc (.cells #[.int .i64 0, .int .i64 0] 46) := ⟨_, rfl⟩
  have hB : Below w.heap.size w W := by rw [hW]; exact below1 _ _
  have hA := hid (show W.heap[w.heap.size]? = some (.cells #[.int .i64 0, .int .i64 0] 46 (0, 0)) by rw [hW]; exact new_at _ _ _ rfl)
  have h1 := h.later hB
  obtain ⟨z, hz⟩ : ∃ z, Hid (isCell c = z) := ⟨_, rfl⟩
  have C := cells_is W c
  rw [hz.out] at C ⊢
  cases z
  · have e : ofO L c = ⟨0, 0⟩ := by unfold ofO; rw [if_neg (by rw [hz.out]; simp)]
    rw [e]
    clear h h1
    go_enter Try.func21, Try.ntmps21
    go_upto_region 1 with fail
    rw [← hW]
    clear hW
    go_wp2_with fail
    refine C.mono ?_
    rintro x w1 ⟨rfl, h2⟩
    rw [h2]
    clear h2 w1 C
    have c0 := (cells_at hA.out).1
    have f0 := (cells_at hA.out).2
    go_wp2_with fail
    exact bodyPost_ret (v := .tuple #[.agg #[.int .i64 0, .int .i64 0], .bool false]) (results_of (by simp) (by simp) (owner_set hA.out 0 0)) rfl ⟨rfl, (hB.setCell (Nat.le_refl _) _).setCell (Nat.le_refl _) _⟩
  · obtain ⟨k, rfl, hk⟩ := cell_nat hz.out
    obtain ⟨o, ho⟩ := h.get hk
    have e : ofO L (k : Int) = o := by unfold ofO; rw [if_pos hz.out]; exact at_nat ho
    rw [e]
    obtain ⟨c1, c2⟩ := h1.cell ho
    clear ho h h1 e
    go_enter Try.func21, Try.ntmps21
    go_upto_region 1 with fail
    rw [← hW]
    clear hW
    go_wp2_with fail
    refine C.mono ?_
    rintro x w1 ⟨rfl, h2⟩
    rw [h2]
    clear h2 w1 C
    have c0 := (cells_at hA.out).1
    have f0 := (cells_at hA.out).2
    go_wp2_with fail
    exact bodyPost_ret (v := .tuple #[.agg #[.int .i64 o.s, .int .i64 o.e], .bool true]) (results_of (by simp) (by simp) (owner_set hA.out o.s o.e)) rfl ⟨rfl, (hB.setCell (Nat.le_refl _) _).setCell (Nat.le_refl _) _⟩
/-! whole maps -/
theorem Try.size54 : (Try.prog.info? 54).map (·.size) = some 33 := by kernel_rfl
theorem wpList_load_mp {ops : Array Oper} {rest : List Oper} {o : Oper} {a : Act} {W : World} {Q : Exit → Act → World → Prop} (hgd : o.guard = none) (x : Operand) (ho : o.op = .load 54 x)
    {g : Nat} {t : TypeId} {n : Int} {L : List Ow} (hx : a.eval x = .pointer (some ⟨g, 0, none⟩)) (h : MB W g t n L) (k : wpList Try.prog ops Q rest (a.put o.dst (.agg (mpC n L))) W) : wpList Try.prog ops Q (o :: rest) a W :=
  wpList_load_row hgd _ x ho g hx _ _ _ _ h.at_ Try.underlying54 rfl (by rw [Try.size54, mpC_size n h.len]) k
theorem wpList_store_mp {ops : Array Oper} {rest : List Oper} {o : Oper} {a : Act} {W : World} {Q : Exit → Act → World → Prop} (hgd : o.guard = none) (x y : Operand) (ho : o.op = .store 54 x y)
    {g : Nat} {t : TypeId} {n m : Int} {L M : List Ow} (hx : a.eval x = .pointer (some ⟨g, 0, none⟩)) (hy : a.eval y = .agg (mpC n L)) (hl : L.length = 16) (h : MB W g t m M) (k : ∀ W', MB W' g t n L → But g W W' → wpList Try.prog ops Q rest (a.put o.dst undef) W') : wpList Try.prog ops Q (o :: rest) a W :=
  wpList_store_row hgd _ x y ho g _ hx hy _ _ h.at_ (by rw [Try.size54, mpC_size n hl]) (by rw [mpC_size m h.len, mpC_size n hl]) (mpC_one n L) (k _ ⟨setRow_heap W g _ _ _ _ h.at_, hl⟩ ⟨rfl, rfl, rfl, by simp, fun i hi hg => setRow_other W g i _ hg⟩)
theorem new_mp (w : World) (t : TypeId) : MB (w.alloc (.cells #[.int .i64 0, .int .i64 0, .int .i64 0, .int .i64 0, .int .i64 0, .int .i64 0, .int .i64 0, .int .i64 0, .int .i64 0, .int .i64 0, .int .i64 0, .int .i64 0, .int .i64 0, .int .i64 0, .int .i64 0, .int .i64 0, .int .i64 0, .int .i64 0, .int .i64 0, .int .i64 0, .int .i64 0, .int .i64 0, .int .i64 0, .int .i64 0, .int .i64 0, .int .i64 0, .int .i64 0, .int .i64 0, .int .i64 0, .int .i64 0, .int .i64 0, .int .i64 0, .int .i64 0] t)) w.heap.size t 0 zeroL := ⟨new_at _ _ _ rfl, rfl⟩
theorem But.new {w w' : World} {o : Obj} (h : But w.heap.size (w.alloc o) w') : Below w.heap.size w w' := But.below (below1 _ _) h (Nat.le_refl _)
theorem own_copy {w : World} {g : Nat} {t : TypeId} {n : Int} {L : List Ow} (h : MB w g t n L) : Calls Try.prog 11 #[.pointer (some ⟨g, 0, none⟩)] w fun e w' => e = .returned (.pointer (some ⟨w.heap.size, 0, none⟩)) ∧ MB w' w.heap.size 54 n L ∧ Below w.heap.size w w' := by
  have HH := hid h
  clear h
  go_enter Try.func11, Try.ntmps11
  go_upto_region 2 with (first
    | with_reducible refine wpList_load_mp rfl (.tmp 5) rfl rfl HH.out ?_
    | with_reducible refine wpList_store_mp rfl (.tmp 3) (.tmp 6) rfl rfl rfl HH.out.len (new_mp w _) ?_)
  intro w' h1 h2
  have hb := h2.new
  clear h2
  go_wp2
  go_ret
  exact ⟨rfl, h1, hb⟩
end Go.Proofs.Ytnlhlmihhgihbaa
