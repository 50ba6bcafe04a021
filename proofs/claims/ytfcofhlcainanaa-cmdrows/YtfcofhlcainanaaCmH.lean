/- Contracts of the statements' fewCmd and of the reference's within, point, rect, Watches; laws on loads of a whole command. -/
import Derived.Test.YtfcofhlcainanaaCmI
namespace Go.Proofs.Ytfcofhlcainanaa
open Go.RowKit
set_option linter.unusedVariables false
/-- a load of a whole command at a guarded step -/
theorem wpList_load_cmG {ops : Array Oper} {rest : List Oper} {o : Oper} {a : Act} {W : World} {Q : Exit → Act → World → Prop} (hw : Region.wanted o (yielded ops a.tmps) = true) (x : Operand) (ho : o.op = .load 30 x)
    {g : Nat} {c : Cm} (hx : a.eval x = .pointer (some ⟨g, 0, none⟩)) (h : W.heap[g]? = some c.o) (k : wpList Try.prog ops Q rest (a.put o.dst c.v) W) : wpList Try.prog ops Q (o :: rest) a W := by
  rw [wpList, if_pos hw]
  exact .inl (wp_load_row _ x ho g hx _ _ _ _ h Try.underlying30 rfl Try.size30 k)
theorem load_at {W : World} {g : Nat} {c : Cm} (h : W.heap[g]? = some c.o) : (Instr.loadAt 30 (.pointer (some ⟨g, 0, none⟩))).run Try.prog W = .ok c.v W := by
  simp only [Instr.loadAt, Instr.sureAddr, Sem.run_bind, Sem.run_pure, Result.andThen_ok]
  exact run_loadVar_row W g _ _ _ _ _ h Try.underlying30 rfl Try.size30
/-- a load of a whole command in a region that draws and only reads -/
theorem quiet_load_cm {ops : Array Oper} {rest : List Oper} {o : Oper} {a : Act} {C : World → Prop} {Q : Act → Prop} (hw : Region.wanted o (yielded ops a.tmps) = true) (x : Operand) (ho : o.op = .load 30 x)
    {g : Nat} {c : Cm} (hx : a.eval x = .pointer (some ⟨g, 0, none⟩)) (h : ∀ W, C W → W.heap[g]? = some c.o) (k : wpQuiet Try.prog ops C Q rest (a.put o.dst c.v)) : wpQuiet Try.prog ops C Q (o :: rest) a := by
  rw [wpQuiet, if_pos hw]
  refine ⟨c.v, fun W hW => ?_, k⟩
  unfold Oper.quietAt
  have e : (execOp a.eval o).run Try.prog W = .ok (.value c.v) W := by
    unfold execOp
    simp only [ho, hx, Sem.run_bind, load_at (h W hW), Result.andThen_ok, Sem.run_pure]
  rw [e]
  exact ⟨rfl, rfl⟩
def fewF (f : Fl) : Bool := decide (f.s.size ≤ 40)
def fewC (c : Cm) : Bool := fewF c.f0 && (fewF c.f1 && (fewF c.f2 && (fewF c.f3 && fewF c.va)))
def nth4 (c : Cm) : Nat → Fl
  | 0 => c.f0
  | 1 => c.f1
  | 2 => c.f2
  | _ => c.f3
theorem few_no {c : Cm} {k : Nat} (hk : k < 4) (h : fewF (nth4 c k) = false) : fewC c = false := by
  unfold fewC
  obtain rfl | rfl | rfl | rfl : k = 0 ∨ k = 1 ∨ k = 2 ∨ k = 3 := by omega
  all_goals
    simp only [nth4] at h
    rw [h]
    simp
theorem few_yes {c : Cm} (h : ∀ j, j < 4 → fewF (nth4 c j) = true) : fewC c = fewF c.va := by
  unfold fewC
  rw [show fewF c.f0 = true from h 0 (by omega), show fewF c.f1 = true from h 1 (by omega), show fewF c.f2 = true from h 2 (by omega), show fewF c.f3 = true from h 3 (by omega)]; rfl
theorem few_step {c : Cm} {k : Nat} (h : ∀ j, j < k → fewF (nth4 c j) = true) (hk : fewF (nth4 c k) = true) : ∀ j, j < k + 1 → fewF (nth4 c j) = true := fun j hj => by
  by_cases e : j = k
  · rw [e]; exact hk
  · exact h j (by omega)
theorem ret_bool {a b : Bool} (h : a = b) : Ending.returned (.bool a) = .returned (.bool b) := by rw [h]
set_option maxHeartbeats 2000000 in
theorem few_cmd (w : World) (c : Cm) (hs : sizedC c) : Calls Try.prog 9 #[c.v] w fun e w' => e = .returned (.bool (fewC c)) ∧ Below w.heap.size w w' := by
  have s0 : c.f0.s.size ≤ maxLen := hs 6
  have s1 : c.f1.s.size ≤ maxLen := hs 8
  have s2 : c.f2.s.size ≤ maxLen := hs 10
  have s3 : c.f3.s.size ≤ maxLen := hs 12
  have s4 : c.va.s.size ≤ maxLen := hs 14
  obtain ⟨W, hW⟩ : ∃ W, W = w.alloc c.o := ⟨_, rfl⟩
  have hB : Below w.heap.size w W := by rw [hW]; exact below1 _ _
  have hA := hid (show W.heap[w.heap.size]? = some c.o by rw [hW]; exact new_at _ _ _ rfl)
  have n0 : W.cell? ⟨w.heap.size, 7, none⟩ = some (.string c.f0.s) := (cell_f hA.out (k := 6) (by simp [atF])).2
  have n1 : W.cell? ⟨w.heap.size, 9, none⟩ = some (.string c.f1.s) := (cell_f hA.out (k := 8) (by simp [atF])).2
  have n2 : W.cell? ⟨w.heap.size, 11, none⟩ = some (.string c.f2.s) := (cell_f hA.out (k := 10) (by simp [atF])).2
  have n3 : W.cell? ⟨w.heap.size, 13, none⟩ = some (.string c.f3.s) := (cell_f hA.out (k := 12) (by simp [atF])).2
  have n4 : W.cell? ⟨w.heap.size, 15, none⟩ = some (.string c.va.s) := (cell_f hA.out (k := 14) (by simp [atF])).2
  clear hs
  go_enter Try.func9, Try.ntmps9
  go_upto_region 1 with fail
  rw [← hW]
  clear hW hA
  go_wp2_with fail
  go_loopw [3] (fun i wr => ∃ k : Nat, k ≤ 4 ∧ i = .int .i64 k ∧ wr = W ∧ (∀ j, j < k → fewF (nth4 c j) = true)) (fun i _ => 4 - (intOf i).toNat)
  case atStart => exact ⟨0, by omega, rfl, rfl, fun j hj => by omega⟩
  case round =>
    obtain ⟨k, hk, rfl, rfl, hok⟩ := hrel
    have HO := hid hok
    clear hok
    obtain rfl | rfl | rfl | rfl | rfl : k = 0 ∨ k = 1 ∨ k = 2 ∨ k = 3 ∨ k = 4 := by omega
    · by_cases h : c.f0.s.size ≤ 40
      · have h' : ¬ (40 : Int) < (c.f0.s.size : Int) := by omega
        have hp := hid (show fewF (nth4 c 0) = true by simpa [fewF, nth4] using h)
        go_wp2_with fail
        first | go_roundw | refine ⟨?rel, ?measure⟩
        case rel => exact ⟨1, by omega, rfl, trivial, few_step HO.out hp.out⟩
        case measure => simp [intOf]
      · have h' : (40 : Int) < (c.f0.s.size : Int) := by omega
        have hp := hid (show fewF (nth4 c 0) = false by simpa [fewF, nth4] using h)
        go_wp2_with fail
        go_ret
        exact ⟨ret_bool (few_no (k := 0) (by omega) hp.out).symm, hB⟩
    · by_cases h : c.f1.s.size ≤ 40
      · have h' : ¬ (40 : Int) < (c.f1.s.size : Int) := by omega
        have hp := hid (show fewF (nth4 c 1) = true by simpa [fewF, nth4] using h)
        go_wp2_with fail
        first | go_roundw | refine ⟨?rel, ?measure⟩
        case rel => exact ⟨2, by omega, rfl, trivial, few_step HO.out hp.out⟩
        case measure => simp [intOf]
      · have h' : (40 : Int) < (c.f1.s.size : Int) := by omega
        have hp := hid (show fewF (nth4 c 1) = false by simpa [fewF, nth4] using h)
        go_wp2_with fail
        go_ret
        exact ⟨ret_bool (few_no (k := 1) (by omega) hp.out).symm, hB⟩
    · by_cases h : c.f2.s.size ≤ 40
      · have h' : ¬ (40 : Int) < (c.f2.s.size : Int) := by omega
        have hp := hid (show fewF (nth4 c 2) = true by simpa [fewF, nth4] using h)
        go_wp2_with fail
        first | go_roundw | refine ⟨?rel, ?measure⟩
        case rel => exact ⟨3, by omega, rfl, trivial, few_step HO.out hp.out⟩
        case measure => simp [intOf]
      · have h' : (40 : Int) < (c.f2.s.size : Int) := by omega
        have hp := hid (show fewF (nth4 c 2) = false by simpa [fewF, nth4] using h)
        go_wp2_with fail
        go_ret
        exact ⟨ret_bool (few_no (k := 2) (by omega) hp.out).symm, hB⟩
    · by_cases h : c.f3.s.size ≤ 40
      · have h' : ¬ (40 : Int) < (c.f3.s.size : Int) := by omega
        have hp := hid (show fewF (nth4 c 3) = true by simpa [fewF, nth4] using h)
        go_wp2_with fail
        first | go_roundw | refine ⟨?rel, ?measure⟩
        case rel => exact ⟨4, by omega, rfl, trivial, few_step HO.out hp.out⟩
        case measure => simp [intOf]
      · have h' : (40 : Int) < (c.f3.s.size : Int) := by omega
        have hp := hid (show fewF (nth4 c 3) = false by simpa [fewF, nth4] using h)
        go_wp2_with fail
        go_ret
        exact ⟨ret_bool (few_no (k := 3) (by omega) hp.out).symm, hB⟩
    · go_wp2_with fail
      go_ret
      exact ⟨ret_bool (by rw [few_yes HO.out]; simp [fewF] <;> omega), hB⟩
def inI (n lo hi : Int) : Bool := decide (lo ≤ n) && decide (n ≤ hi)
theorem ref_within (w : World) (n lo hi : Int) : Calls Try.prog 19 #[.int .i64 n, .int .i64 lo, .int .i64 hi] w fun e w' => e = .returned (.bool (inI n lo hi)) ∧ w' = w := by
  go_enter Try.func19, Try.ntmps19
  go_wp2 <;> (go_ret; exact ⟨by simp [inI] <;> omega, rfl⟩)
end Go.Proofs.Ytfcofhlcainanaa
