/- Contracts of the statements fewCmd, of Watches, of the reference within, point, rect, Watches; loads of a whole command where an operation is guarded, or a region draws; who is a command, part by part. -/
import Derived.Test.YthgnmpgdlemdlaaCE
import Derived.Lib.MinMax
namespace Go.Proofs.Ythgnmpgdlemdlaa
section
open Go.RowKit
set_option linter.unusedVariables false
def watchB (k : Int) : Bool := k == 6 || (k == 7 || k == 8)
theorem cmd_watches (w : World) (a : Cm) : Calls Try.prog 19 #[a.v] w fun e w' => e = .returned (.bool (watchB a.kd)) ∧ Below w.heap.size w w' := by
  obtain ⟨W, hW⟩ : ∃ W, W = w.alloc a.o := ⟨_, rfl⟩
  have hB : Below w.heap.size w W := by rw [hW]; exact below1 _ _
  have hA : W.heap[w.heap.size]? = some a.o := by rw [hW]; exact new_at _ _ _ rfl
  have h0 := cell_i hA (k := 0) (.inl rfl)
  obtain ⟨r, hr⟩ : ∃ r, Hid (watchB a.kd = r) := ⟨_, rfl⟩
  rw [hr.out]
  go_enter Try.func19, Try.ntmps19
  go_upto_region 1 with fail
  rw [← hW]
  have h0' : W.cell? ⟨w.heap.size, 0, none⟩ = some (.int .i64 a.kd) := h0
  clear hW hA h0
  generalize a.kd = k at h0' hr
  by_cases h6 : k = 6
  · subst h6
    go_wp2_with fail
    go_ret
    exact ⟨by rw [← hr.out]; rfl, hB⟩
  by_cases h7 : k = 7
  · subst h7
    go_wp2_with fail
    go_ret
    exact ⟨by rw [← hr.out]; rfl, hB⟩
  · have q6 : (k == 6) = false := by simpa using h6
    have q7 : (k == 7) = false := by simpa using h7
    obtain ⟨q, q8⟩ : ∃ q, (k == 8) = q := ⟨_, rfl⟩
    go_wp2_with fail
    go_ret
    exact ⟨by rw [← hr.out]; simp [watchB, q6, q7, q8], hB⟩
end
section
open Go.RowKit
set_option linter.unusedVariables false
/-- a load of a whole command at a guarded step -/
theorem wpList_load_cmG {ops : Array Oper} {rest : List Oper} {o : Oper} {a : Act} {W : World} {Q : Exit → Act → World → Prop} (hw : Region.wanted o (yielded ops a.tmps) = true) (x : Operand) (ho : o.op = .load 41 x)
    {g : Nat} {c : Cm} (hx : a.eval x = .pointer (some ⟨g, 0, none⟩)) (h : W.heap[g]? = some c.o) (k : wpList Try.prog ops Q rest (a.put o.dst c.v) W) : wpList Try.prog ops Q (o :: rest) a W := by
  rw [wpList, if_pos hw]
  exact .inl (wp_load_row _ x ho g hx _ _ _ _ h Try.underlying41 rfl Try.size30 k)
theorem load_at {W : World} {g : Nat} {c : Cm} (h : W.heap[g]? = some c.o) : (Instr.loadAt 41 (.pointer (some ⟨g, 0, none⟩))).run Try.prog W = .ok c.v W := by
  simp only [Instr.loadAt, Instr.sureAddr, Sem.run_bind, Sem.run_pure, Result.andThen_ok]
  exact run_loadVar_row W g _ _ _ _ _ h Try.underlying41 rfl Try.size30
/-- a load of a whole command in a region that draws and only reads -/
theorem quiet_load_cm {ops : Array Oper} {rest : List Oper} {o : Oper} {a : Act} {C : World → Prop} {Q : Act → Prop} (hw : Region.wanted o (yielded ops a.tmps) = true) (x : Operand) (ho : o.op = .load 41 x)
    {g : Nat} {c : Cm} (hx : a.eval x = .pointer (some ⟨g, 0, none⟩)) (h : ∀ W, C W → W.heap[g]? = some c.o) (k : wpQuiet Try.prog ops C Q rest (a.put o.dst c.v)) : wpQuiet Try.prog ops C Q (o :: rest) a := by
  rw [wpQuiet, if_pos hw]
  refine ⟨c.v, fun W hW => ?_, k⟩
  unfold Oper.quietAt
  have e : (execOp a.eval o).run Try.prog W = .ok (.value c.v) W := by
    unfold execOp
    simp only [ho, hx, Sem.run_bind, load_at (h W hW), Result.andThen_ok, Sem.run_pure]
  rw [e]
  exact ⟨rfl, rfl⟩
def fewFl (f : Fl) : Bool := decide (f.s.size ≤ 40)
def fewC (c : Cm) : Bool := fewFl c.f0 && (fewFl c.f1 && (fewFl c.f2 && (fewFl c.f3 && fewFl c.va)))
def nth4 (c : Cm) : Nat → Fl
  | 0 => c.f0
  | 1 => c.f1
  | 2 => c.f2
  | _ => c.f3
theorem few_no {c : Cm} {k : Nat} (hk : k < 4) (h : fewFl (nth4 c k) = false) : fewC c = false := by
  unfold fewC
  obtain rfl | rfl | rfl | rfl : k = 0 ∨ k = 1 ∨ k = 2 ∨ k = 3 := by omega
  all_goals
    simp only [nth4] at h
    rw [h]
    simp
theorem few_yes {c : Cm} (h : ∀ j, j < 4 → fewFl (nth4 c j) = true) : fewC c = fewFl c.va := by
  unfold fewC
  rw [show fewFl c.f0 = true from h 0 (by omega), show fewFl c.f1 = true from h 1 (by omega), show fewFl c.f2 = true from h 2 (by omega), show fewFl c.f3 = true from h 3 (by omega)]; rfl
theorem fewFl_step {c : Cm} {k : Nat} (h : ∀ j, j < k → fewFl (nth4 c j) = true) (hk : fewFl (nth4 c k) = true) : ∀ j, j < k + 1 → fewFl (nth4 c j) = true := fun j hj => by
  by_cases e : j = k
  · rw [e]; exact hk
  · exact h j (by omega)
theorem ret_bool {a b : Bool} (h : a = b) : Ending.returned (.bool a) = .returned (.bool b) := by rw [h]
set_option maxHeartbeats 2000000 in
theorem few_cmd (w : World) (c : Cm) (hs : sizedC c) : Calls Try.prog 8 #[c.v] w fun e w' => e = .returned (.bool (fewC c)) ∧ Below w.heap.size w w' := by
  have s0 : c.f0.s.size ≤ maxLen := hs 6
  have s1 : c.f1.s.size ≤ maxLen := hs 8
  have s2 : c.f2.s.size ≤ maxLen := hs 10
  have s3 : c.f3.s.size ≤ maxLen := hs 12
  have s4 : c.va.s.size ≤ maxLen := hs 14
  obtain ⟨W, hW⟩ : ∃ W, W = w.alloc c.o := ⟨_, rfl⟩
  have hB : Below w.heap.size w W := by rw [hW]; exact below1 _ _
  have hA := hid (show W.heap[w.heap.size]? = some c.o by rw [hW]; exact new_at _ _ _ rfl)
  have n0 : W.cell? ⟨w.heap.size, 7, none⟩ = some (.string c.f0.s) := (cell_f hA.out (k := 6) (by simp [atF])).2
  have n1 : W.cell? ⟨w.heap.size, 9, none⟩ = some (.string c.f1.s) := (cell_f hA.out (k := 8) (by simp [atF])).2
  have n2 : W.cell? ⟨w.heap.size, 11, none⟩ = some (.string c.f2.s) := (cell_f hA.out (k := 10) (by simp [atF])).2
  have n3 : W.cell? ⟨w.heap.size, 13, none⟩ = some (.string c.f3.s) := (cell_f hA.out (k := 12) (by simp [atF])).2
  have n4 : W.cell? ⟨w.heap.size, 15, none⟩ = some (.string c.va.s) := (cell_f hA.out (k := 14) (by simp [atF])).2
  clear hs
  go_enter Try.func8, Try.ntmps8
  go_upto_region 1 with fail
  rw [← hW]
  clear hW hA
  go_wp2_with fail
  go_loopw [3] (fun i wr => ∃ k : Nat, k ≤ 4 ∧ i = .int .i64 k ∧ wr = W ∧ (∀ j, j < k → fewFl (nth4 c j) = true)) (fun i _ => 4 - (intOf i).toNat)
  case atStart => exact ⟨0, by omega, rfl, rfl, fun j hj => by omega⟩
  case round =>
    obtain ⟨k, hk, rfl, rfl, hok⟩ := hrel
    have HO := hid hok
    clear hok
    obtain rfl | rfl | rfl | rfl | rfl : k = 0 ∨ k = 1 ∨ k = 2 ∨ k = 3 ∨ k = 4 := by omega
    · by_cases h : c.f0.s.size ≤ 40
      · have h' : ¬ (40 : Int) < (c.f0.s.size : Int) := by omega
        have hp := hid (show fewFl (nth4 c 0) = true by simpa [fewFl, nth4] using h)
        go_wp2_with fail
        first | go_roundw | refine ⟨?rel, ?measure⟩
        case rel => exact ⟨1, by omega, rfl, trivial, fewFl_step HO.out hp.out⟩
        case measure => simp [intOf]
      · have h' : (40 : Int) < (c.f0.s.size : Int) := by omega
        have hp := hid (show fewFl (nth4 c 0) = false by simpa [fewFl, nth4] using h)
        go_wp2_with fail
        go_ret
        exact ⟨ret_bool (few_no (k := 0) (by omega) hp.out).symm, hB⟩
    · by_cases h : c.f1.s.size ≤ 40
      · have h' : ¬ (40 : Int) < (c.f1.s.size : Int) := by omega
        have hp := hid (show fewFl (nth4 c 1) = true by simpa [fewFl, nth4] using h)
        go_wp2_with fail
        first | go_roundw | refine ⟨?rel, ?measure⟩
        case rel => exact ⟨2, by omega, rfl, trivial, fewFl_step HO.out hp.out⟩
        case measure => simp [intOf]
      · have h' : (40 : Int) < (c.f1.s.size : Int) := by omega
        have hp := hid (show fewFl (nth4 c 1) = false by simpa [fewFl, nth4] using h)
        go_wp2_with fail
        go_ret
        exact ⟨ret_bool (few_no (k := 1) (by omega) hp.out).symm, hB⟩
    · by_cases h : c.f2.s.size ≤ 40
      · have h' : ¬ (40 : Int) < (c.f2.s.size : Int) := by omega
        have hp := hid (show fewFl (nth4 c 2) = true by simpa [fewFl, nth4] using h)
        go_wp2_with fail
        first | go_roundw | refine ⟨?rel, ?measure⟩
        case rel => exact ⟨3, by omega, rfl, trivial, fewFl_step HO.out hp.out⟩
        case measure => simp [intOf]
      · have h' : (40 : Int) < (c.f2.s.size : Int) := by omega
        have hp := hid (show fewFl (nth4 c 2) = false by simpa [fewFl, nth4] using h)
        go_wp2_with fail
        go_ret
        exact ⟨ret_bool (few_no (k := 2) (by omega) hp.out).symm, hB⟩
    · by_cases h : c.f3.s.size ≤ 40
      · have h' : ¬ (40 : Int) < (c.f3.s.size : Int) := by omega
        have hp := hid (show fewFl (nth4 c 3) = true by simpa [fewFl, nth4] using h)
        go_wp2_with fail
        first | go_roundw | refine ⟨?rel, ?measure⟩
        case rel => exact ⟨4, by omega, rfl, trivial, fewFl_step HO.out hp.out⟩
        case measure => simp [intOf]
      · have h' : (40 : Int) < (c.f3.s.size : Int) := by omega
        have hp := hid (show fewFl (nth4 c 3) = false by simpa [fewFl, nth4] using h)
        go_wp2_with fail
        go_ret
        exact ⟨ret_bool (few_no (k := 3) (by omega) hp.out).symm, hB⟩
    · go_wp2_with fail
      go_ret
      exact ⟨ret_bool (by rw [few_yes HO.out]; simp [fewFl] <;> omega), hB⟩
def inJ (n lo hi : Int) : Bool := decide (lo ≤ n) && decide (n ≤ hi)
theorem ref_within (w : World) (n lo hi : Int) : Calls Try.prog 29 #[.int .i64 n, .int .i64 lo, .int .i64 hi] w fun e w' => e = .returned (.bool (inJ n lo hi)) ∧ w' = w := by
  go_enter Try.func29, Try.ntmps29
  go_wp2 <;> (go_ret; exact ⟨by simp [inJ] <;> omega, rfl⟩)
end
section
open Go.RowKit
set_option linter.unusedVariables false
theorem isL_all (kd : Int) (c : Cm) : isL (partsP kd) c = (partsP kd).all (Pa.is c) := by
  obtain ⟨a0, a1, a2, a3, a4, a5, a6, a7, a8, a9, a10, a11, a12, a13, a14, a15, a16⟩ := c
  unfold partsP
  refine rest_cases (P := fun l => isL (headP ++ l) _ = (headP ++ l).all (Pa.is _)) ?_ ?_ ?_ ?_ ?_ ?_ ?_ kd <;> rfl
def Pa.put (c d : Cm) : Pa → Cm
  | Sum.inl (k, _, _) => d.setI k (c.i k)
  | Sum.inr k => d.setF k (c.f k)
theorem isC_iff {c : Cm} : isCm c = true ↔ (∀ p ∈ partsP c.kd, p.is c = true) ∧ clrL (partsP c.kd) c = zC := by
  unfold isCm
  rw [isL_all, Bool.and_eq_true, List.all_eq_true, eqC_iff]
theorem is_num {c : Cm} {k : Nat} {lo hi : Int} : (Pa.num k lo hi).is c = true ↔ lo ≤ c.i k ∧ c.i k ≤ hi := by
  show (decide (lo ≤ c.i k) && decide (c.i k ≤ hi)) = true ↔ _
  simp
end
section
open Go.RowKit
set_option linter.unusedVariables false
theorem within_at {n lo hi : Int} {q : Bool} (h : Hid (inJ n lo hi = q)) (w : World) : Calls Try.prog 29 #[.int .i64 n, .int .i64 lo, .int .i64 hi] w fun e w' => e = .returned (.bool q) ∧ w' = w := by
  rw [← h.out]; exact ref_within w n lo hi
def ptI (x y : Int) : Bool := inJ x (-1000) 1000 && inJ y (-1000) 1000
theorem ref_point (w : World) (x y : Int) : Calls Try.prog 31 #[pt x y] w fun e w' => e = .returned (.bool (ptI x y)) ∧ Below w.heap.size w w' := by
  obtain ⟨p, hp⟩ : ∃ p, Hid (inJ x (-1000) 1000 = p) := ⟨_, rfl⟩
  obtain ⟨q, hq⟩ : ∃ q, Hid (inJ y (-1000) 1000 = q) := ⟨_, rfl⟩
  have e : Hid (ptI x y = (p && q)) := by show ptI x y = _; unfold ptI; rw [hp.out, hq.out]
  rw [e.out]
  go_enter Try.func31, Try.ntmps31
  go_wp2_with fail
  refine (within_at hp _).mono ?_
  rintro z w1 ⟨rfl, hw⟩
  rw [hw]
  clear hw
  cases p
  · go_wp2_with fail
    go_ret
    exact ⟨rfl, below1 _ _⟩
  · go_wp2_with fail
    refine (within_at hq _).mono ?_
    rintro z w2 ⟨rfl, hw⟩
    rw [hw]
    clear hw
    go_wp2_with fail
    go_ret
    exact ⟨by cases q <;> rfl, below1 _ _⟩
theorem point_at {x y : Int} {q : Bool} (h : Hid (ptI x y = q)) (w : World) : Calls Try.prog 31 #[pt x y] w fun e w' => e = .returned (.bool q) ∧ Below w.heap.size w w' := by
  rw [← h.out]; exact ref_point w x y
def rcI (a b c d : Int) : Bool := ptI a b && ptI c d
theorem refcm_rect (w : World) (a b c d : Int) : Calls Try.prog 32 #[rc a b c d] w fun e w' => e = .returned (.bool (rcI a b c d)) ∧ Below w.heap.size w w' := by
  obtain ⟨p, hp⟩ : ∃ p, Hid (ptI a b = p) := ⟨_, rfl⟩
  obtain ⟨q, hq⟩ : ∃ q, Hid (ptI c d = q) := ⟨_, rfl⟩
  have e : Hid (rcI a b c d = (p && q)) := by show rcI a b c d = _; unfold rcI; rw [hp.out, hq.out]
  rw [e.out]
  have K := hid (new_at w (.cells #[.int .i64 a, .int .i64 b, .int .i64 c, .int .i64 d] 26 (0, 0)) _ rfl)
  go_enter Try.func32, Try.ntmps32
  go_wp2_with fail
  refine (point_at hp _).mono ?_
  rintro z w1 ⟨rfl, hb⟩
  have K1 := hid (var_on hb K.out (at_lt K.out))
  have hE := below_on (below1 w _) hb
  clear hb K
  cases p
  · go_wp2_with fail
    go_ret
    exact ⟨rfl, hE⟩
  · have ck := cells_at K1.out
    go_wp2_with fail
    refine (point_at hq _).mono ?_
    rintro z w2 ⟨rfl, hb⟩
    replace hE := below_on hE hb
    go_wp2_with fail
    go_ret
    exact ⟨by cases q <;> rfl, hE⟩
theorem refrc_at {a b c d : Int} {q : Bool} (h : Hid (rcI a b c d = q)) (w : World) : Calls Try.prog 32 #[rc a b c d] w fun e w' => e = .returned (.bool q) ∧ Below w.heap.size w w' := by
  rw [← h.out]; exact refcm_rect w a b c d
theorem ref_watches (w : World) (a : Cm) : Calls Try.prog 22 #[a.v] w fun e w' => e = .returned (.bool (watchB a.kd)) ∧ Below w.heap.size w w' := by
  obtain ⟨W, hW⟩ : ∃ W, W = w.alloc a.o := ⟨_, rfl⟩
  have hB : Below w.heap.size w W := by rw [hW]; exact below1 _ _
  have hA : W.heap[w.heap.size]? = some a.o := by rw [hW]; exact new_at _ _ _ rfl
  have h0 := cell_i hA (k := 0) (.inl rfl)
  have hq : Hid (inJ a.kd 6 8 = watchB a.kd) := by
    show inJ a.kd 6 8 = watchB a.kd
    unfold inJ watchB
    rw [Bool.eq_iff_iff]
    simp
    omega
  obtain ⟨r, hr⟩ : ∃ r, Hid (watchB a.kd = r) := ⟨_, rfl⟩
  rw [hr.out] at hq ⊢
  go_enter Try.func22, Try.ntmps22
  go_upto_region 1 with fail
  rw [← hW]
  have h0' : W.cell? ⟨w.heap.size, 0, none⟩ = some (.int .i64 a.kd) := h0
  clear hW hA h0
  go_wp2_with fail
  refine (within_at hq _).mono ?_
  rintro z w1 ⟨rfl, hw⟩
  rw [hw]
  clear hw
  go_wp2_with fail
  go_ret
  exact ⟨rfl, hB⟩
/-- only what its kind has -/
def shapeC (c : Cm) : Cm :=
  if c.kd = 1 then ⟨c.kd, 0, 0, 0, c.x, c.y, c.f0, c.f1, c.f2, c.f3, zF, c.cl, c.se, 0, 0, 0, 0⟩
  else if c.kd = 2 then ⟨c.kd, c.id, 0, 0, c.x, c.y, zF, zF, zF, zF, zF, c.cl, c.se, 0, 0, 0, 0⟩
  else if c.kd = 3 then ⟨c.kd, c.id, c.wh, 0, 0, 0, zF, zF, zF, zF, c.va, c.cl, c.se, 0, 0, 0, 0⟩
  else if c.kd = 4 then ⟨c.kd, c.id, 0, 0, 0, 0, zF, zF, zF, zF, zF, c.cl, c.se, 0, 0, 0, 0⟩
  else if c.kd = 5 then ⟨c.kd, 0, c.wh, c.tt, 0, 0, zF, zF, zF, zF, zF, c.cl, c.se, 0, 0, 0, 0⟩
  else if c.kd = 6 ∨ c.kd = 7 then ⟨c.kd, 0, 0, 0, 0, 0, zF, zF, zF, zF, zF, c.cl, c.se, c.r0, c.r1, c.r2, c.r3⟩
  else ⟨c.kd, 0, 0, 0, 0, 0, zF, zF, zF, zF, zF, c.cl, c.se, 0, 0, 0, 0⟩
end
end Go.Proofs.Ythgnmpgdlemdlaa
