/- Rows of commands, what comes in; loads where an operation is guarded. -/
import Derived.Test.YtpedngbjpbeanaaGreatDoorCF
import Derived.Test.YtpedngbjpbeanaaGreatDoorCG
import Derived.Deep.Slices
import Derived.Deep.AppendLies
import Derived.Deep.MidRow
namespace Go.Proofs.YtpedngbjpbeanaaGreatDoor
section
open Go.RowKit
set_option linter.unusedVariables false
theorem fit_all {c : Cm} (h : ∀ f, f = c.f0 ∨ f = c.f1 ∨ f = c.f2 ∨ f = c.f3 ∨ f = c.va → f.s.size ≤ maxLen ∧ -9223372036854775808 ≤ f.n ∧ f.n ≤ 9223372036854775807) : fitC c := by
  intro k
  apply h
  unfold Cm.f
  split <;> simp
theorem fit_zF : zF.s.size ≤ maxLen ∧ -9223372036854775808 ≤ zF.n ∧ zF.n ≤ 9223372036854775807 := ⟨by decide, by decide, by decide⟩
theorem z_fit : fitC zC := fit_all (fun f h => by
  rcases h with rfl | rfl | rfl | rfl | rfl <;> exact fit_zF)
abbrev kV : Value := .agg #[.int .i64 4, .int .i64 5, .int .i64 0, .int .i64 0, .int .i64 0, .int .i64 0, .int .i64 0, .string ⟨#[]⟩, .int .i64 0, .string ⟨#[]⟩, .int .i64 0, .string ⟨#[]⟩, .int .i64 0, .string ⟨#[]⟩, .int .i64 0, .string ⟨#[]⟩, .int .i64 0, .int .i64 0, .int .i64 0, .int .i64 0, .int .i64 0, .int .i64 0]
abbrev kO : Obj := .cells #[.int .i64 4, .int .i64 5, .int .i64 0, .int .i64 0, .int .i64 0, .int .i64 0, .int .i64 0, .string ⟨#[]⟩, .int .i64 0, .string ⟨#[]⟩, .int .i64 0, .string ⟨#[]⟩, .int .i64 0, .string ⟨#[]⟩, .int .i64 0, .string ⟨#[]⟩, .int .i64 0, .int .i64 0, .int .i64 0, .int .i64 0, .int .i64 0, .int .i64 0] 57 (0, 0)
theorem new_zero (W : World) : (W.alloc zeroO).heap[W.heap.size]? = some zC.o := new_at _ _ _ rfl
end
section
open Go.RowKit
set_option linter.unusedVariables false
/-- a load of a whole command at a guarded step -/
theorem wpList_load_cmG {ops : Array Oper} {rest : List Oper} {o : Oper} {a : Act} {W : World} {Q : Exit → Act → World → Prop} (hw : Region.wanted o (yielded ops a.tmps) = true) (x : Operand) (ho : o.op = .load 57 x)
    {g : Nat} {c : Cm} (hx : a.eval x = .pointer (some ⟨g, 0, none⟩)) (h : W.heap[g]? = some c.o) (k : wpList Tryz.prog ops Q rest (a.put o.dst c.v) W) : wpList Tryz.prog ops Q (o :: rest) a W := by
  rw [wpList, if_pos hw]
  exact .inl (wp_load_row _ x ho g hx _ _ _ _ h Tryz.underlying57 rfl Tryz.size30 k)
theorem load_at {W : World} {g : Nat} {c : Cm} (h : W.heap[g]? = some c.o) : (Instr.loadAt 57 (.pointer (some ⟨g, 0, none⟩))).run Tryz.prog W = .ok c.v W := by
  simp only [Instr.loadAt, Instr.sureAddr, Sem.run_bind, Sem.run_pure, Result.andThen_ok]
  exact run_loadVar_row W g _ _ _ _ _ h Tryz.underlying57 rfl Tryz.size30
/-- a load of a whole command in a region that draws and only reads -/
theorem quiet_load_cm {ops : Array Oper} {rest : List Oper} {o : Oper} {a : Act} {C : World → Prop} {Q : Act → Prop} (hw : Region.wanted o (yielded ops a.tmps) = true) (x : Operand) (ho : o.op = .load 57 x)
    {g : Nat} {c : Cm} (hx : a.eval x = .pointer (some ⟨g, 0, none⟩)) (h : ∀ W, C W → W.heap[g]? = some c.o) (k : wpQuiet Tryz.prog ops C Q rest (a.put o.dst c.v)) : wpQuiet Tryz.prog ops C Q (o :: rest) a := by
  rw [wpQuiet, if_pos hw]
  refine ⟨c.v, fun W hW => ?_, k⟩
  unfold Oper.quietAt
  have e : (execOp a.eval o).run Tryz.prog W = .ok (.value c.v) W := by
    unfold execOp
    simp only [ho, hx, Sem.run_bind, load_at (h W hW), Result.andThen_ok, Sem.run_pure]
  rw [e]
  exact ⟨rfl, rfl⟩
def fewFl (f : Fl) : Bool := decide (f.s.size ≤ 40)
def fewC (c : Cm) : Bool := fewFl c.f0 && (fewFl c.f1 && (fewFl c.f2 && (fewFl c.f3 && fewFl c.va)))
def nth4 (c : Cm) : Nat → Fl
  | 0 => c.f0
  | 1 => c.f1
  | 2 => c.f2
  | _ => c.f3
theorem few_no {c : Cm} {k : Nat} (hk : k < 4) (h : fewFl (nth4 c k) = false) : fewC c = false := by
  unfold fewC
  obtain rfl | rfl | rfl | rfl : k = 0 ∨ k = 1 ∨ k = 2 ∨ k = 3 := by omega
  all_goals
    simp only [nth4] at h
    rw [h]
    simp
theorem few_yes {c : Cm} (h : ∀ j, j < 4 → fewFl (nth4 c j) = true) : fewC c = fewFl c.va := by
  unfold fewC
  rw [show fewFl c.f0 = true from h 0 (by omega), show fewFl c.f1 = true from h 1 (by omega), show fewFl c.f2 = true from h 2 (by omega), show fewFl c.f3 = true from h 3 (by omega)]; rfl
theorem fewFl_step {c : Cm} {k : Nat} (h : ∀ j, j < k → fewFl (nth4 c j) = true) (hk : fewFl (nth4 c k) = true) : ∀ j, j < k + 1 → fewFl (nth4 c j) = true := fun j hj => by
  by_cases e : j = k
  · rw [e]; exact hk
  · exact h j (by omega)
theorem ret_bool {a b : Bool} (h : a = b) : Ending.returned (.bool a) = .returned (.bool b) := by rw [h]
set_option maxHeartbeats 2000000 in
theorem few_cmd (w : World) (c : Cm) (hs : sizedC c) : Calls Tryz.prog 16 #[c.v] w fun e w' => e = .returned (.bool (fewC c)) ∧ Below w.heap.size w w' := by
  have s0 : c.f0.s.size ≤ maxLen := hs 6
  have s1 : c.f1.s.size ≤ maxLen := hs 8
  have s2 : c.f2.s.size ≤ maxLen := hs 10
  have s3 : c.f3.s.size ≤ maxLen := hs 12
  have s4 : c.va.s.size ≤ maxLen := hs 14
  obtain ⟨W, hW⟩ : ∃ W, W = w.alloc c.o := ⟨_, rfl⟩
  have hB : Below w.heap.size w W := by rw [hW]; exact below1 _ _
  have hA := hid (show W.heap[w.heap.size]? = some c.o by rw [hW]; exact new_at _ _ _ rfl)
  have n0 : W.cell? ⟨w.heap.size, 7, none⟩ = some (.string c.f0.s) := (cell_f hA.out (k := 6) (by simp [atF])).2
  have n1 : W.cell? ⟨w.heap.size, 9, none⟩ = some (.string c.f1.s) := (cell_f hA.out (k := 8) (by simp [atF])).2
  have n2 : W.cell? ⟨w.heap.size, 11, none⟩ = some (.string c.f2.s) := (cell_f hA.out (k := 10) (by simp [atF])).2
  have n3 : W.cell? ⟨w.heap.size, 13, none⟩ = some (.string c.f3.s) := (cell_f hA.out (k := 12) (by simp [atF])).2
  have n4 : W.cell? ⟨w.heap.size, 15, none⟩ = some (.string c.va.s) := (cell_f hA.out (k := 14) (by simp [atF])).2
  clear hs
  go_enter Tryz.func16, Tryz.ntmps16
  go_upto_region 1 with fail
  rw [← hW]
  clear hW hA
  go_wp2_with fail
  go_loopw [3] (fun i wr => ∃ k : Nat, k ≤ 4 ∧ i = .int .i64 k ∧ wr = W ∧ (∀ j, j < k → fewFl (nth4 c j) = true)) (fun i _ => 4 - (intOf i).toNat)
  case atStart => exact ⟨0, by omega, rfl, rfl, fun j hj => by omega⟩
  case round =>
    obtain ⟨k, hk, rfl, rfl, hok⟩ := hrel
    have HO := hid hok
    clear hok
    obtain rfl | rfl | rfl | rfl | rfl : k = 0 ∨ k = 1 ∨ k = 2 ∨ k = 3 ∨ k = 4 := by omega
    · by_cases h : c.f0.s.size ≤ 40
      · have h' : ¬ (40 : Int) < (c.f0.s.size : Int) := by omega
        have hp := hid (show fewFl (nth4 c 0) = true by simpa [fewFl, nth4] using h)
        go_wp2_with fail
        first | go_roundw | refine ⟨?rel, ?measure⟩
        case rel => exact ⟨1, by omega, rfl, trivial, fewFl_step HO.out hp.out⟩
        case measure => simp [intOf]
      · have h' : (40 : Int) < (c.f0.s.size : Int) := by omega
        have hp := hid (show fewFl (nth4 c 0) = false by simpa [fewFl, nth4] using h)
        go_wp2_with fail
        go_ret
        exact ⟨ret_bool (few_no (k := 0) (by omega) hp.out).symm, hB⟩
    · by_cases h : c.f1.s.size ≤ 40
      · have h' : ¬ (40 : Int) < (c.f1.s.size : Int) := by omega
        have hp := hid (show fewFl (nth4 c 1) = true by simpa [fewFl, nth4] using h)
        go_wp2_with fail
        first | go_roundw | refine ⟨?rel, ?measure⟩
        case rel => exact ⟨2, by omega, rfl, trivial, fewFl_step HO.out hp.out⟩
        case measure => simp [intOf]
      · have h' : (40 : Int) < (c.f1.s.size : Int) := by omega
        have hp := hid (show fewFl (nth4 c 1) = false by simpa [fewFl, nth4] using h)
        go_wp2_with fail
        go_ret
        exact ⟨ret_bool (few_no (k := 1) (by omega) hp.out).symm, hB⟩
    · by_cases h : c.f2.s.size ≤ 40
      · have h' : ¬ (40 : Int) < (c.f2.s.size : Int) := by omega
        have hp := hid (show fewFl (nth4 c 2) = true by simpa [fewFl, nth4] using h)
        go_wp2_with fail
        first | go_roundw | refine ⟨?rel, ?measure⟩
        case rel => exact ⟨3, by omega, rfl, trivial, fewFl_step HO.out hp.out⟩
        case measure => simp [intOf]
      · have h' : (40 : Int) < (c.f2.s.size : Int) := by omega
        have hp := hid (show fewFl (nth4 c 2) = false by simpa [fewFl, nth4] using h)
        go_wp2_with fail
        go_ret
        exact ⟨ret_bool (few_no (k := 2) (by omega) hp.out).symm, hB⟩
    · by_cases h : c.f3.s.size ≤ 40
      · have h' : ¬ (40 : Int) < (c.f3.s.size : Int) := by omega
        have hp := hid (show fewFl (nth4 c 3) = true by simpa [fewFl, nth4] using h)
        go_wp2_with fail
        first | go_roundw | refine ⟨?rel, ?measure⟩
        case rel => exact ⟨4, by omega, rfl, trivial, fewFl_step HO.out hp.out⟩
        case measure => simp [intOf]
      · have h' : (40 : Int) < (c.f3.s.size : Int) := by omega
        have hp := hid (show fewFl (nth4 c 3) = false by simpa [fewFl, nth4] using h)
        go_wp2_with fail
        go_ret
        exact ⟨ret_bool (few_no (k := 3) (by omega) hp.out).symm, hB⟩
    · go_wp2_with fail
      go_ret
      exact ⟨ret_bool (by rw [few_yes HO.out]; simp [fewFl] <;> omega), hB⟩
def inJ (n lo hi : Int) : Bool := decide (lo ≤ n) && decide (n ≤ hi)
theorem ref_within (w : World) (n lo hi : Int) : Calls Tryz.prog 52 #[.int .i64 n, .int .i64 lo, .int .i64 hi] w fun e w' => e = .returned (.bool (inJ n lo hi)) ∧ w' = w := by
  go_enter Tryz.func52, Tryz.ntmps52
  go_wp2 <;> (go_ret; exact ⟨by simp [inJ] <;> omega, rfl⟩)
end
section
open Go.RowKit Go.ChangeShapes Go.WideShapes Go.Deep Go.Joins
set_option linter.unusedVariables false
set_option maxRecDepth 100000
def inC (c : Cm) : Prop := inF c.f0 ∧ inF c.f1 ∧ inF c.f2 ∧ inF c.f3 ∧ inF c.va
theorem in_fit {c : Cm} (h : inC c) : fitC c := fit_all (fun f hf => by
  obtain ⟨h0, h1, h2, h3, h4⟩ := h
  rcases hf with rfl | rfl | rfl | rfl | rfl <;> assumption)
theorem fit_nums {c : Cm} (h : fitC c) : numsC c := fun k => (h k).2
theorem list22 {α : Type} {l : List α} (h : l.length = 22) : ∃ c0 c1 c2 c3 c4 c5 c6 c7 c8 c9 c10 c11 c12 c13 c14 c15 c16 c17 c18 c19 c20 c21, l = [c0, c1, c2, c3, c4, c5, c6, c7, c8, c9, c10, c11, c12, c13, c14, c15, c16, c17, c18, c19, c20, c21] := by
  match l, h with
  | [c0, c1, c2, c3, c4, c5, c6, c7, c8, c9, c10, c11, c12, c13, c14, c15, c16, c17, c18, c19, c20, c21], _ => exact ⟨c0, c1, c2, c3, c4, c5, c6, c7, c8, c9, c10, c11, c12, c13, c14, c15, c16, c17, c18, c19, c20, c21, rfl⟩
theorem cellsOf28r : Tryz.prog.cellsOf 55 = 4 := by kernel_rfl
theorem cellsOf30c : Tryz.prog.cellsOf 57 = 22 := by kernel_rfl
def Cm.cs (c : Cm) : List Value := [.int .i64 c.kd, .int .i64 c.id, .int .i64 c.wh, .int .i64 c.tt, .int .i64 c.x, .int .i64 c.y, .int .i64 c.f0.n, .string c.f0.s, .int .i64 c.f1.n, .string c.f1.s, .int .i64 c.f2.n, .string c.f2.s, .int .i64 c.f3.n, .string c.f3.s, .int .i64 c.va.n, .string c.va.s, .int .i64 c.cl, .int .i64 c.se, .int .i64 c.r0, .int .i64 c.r1, .int .i64 c.r2, .int .i64 c.r3]
section
variable {H : Type} {enc : TypeId × Value → H} {w : World} {base : Nat} {spare : Nat → Bool} {held : Bool} {r : Reach} {b0 : Nat} {v : Value} {d : DataW H} {p : List MemPlace}
theorem trod_rect4 {fuel : Nat} {c0 c1 c2 c3 : Value} {x : DataW H × List MemPlace} (h : DataW.trod enc Tryz.prog w base spare held fuel 55 [c0, c1, c2, c3] = some x) : ∃ a b c d : Int, c0 = .int .i64 a ∧ c1 = .int .i64 b ∧ c2 = .int .i64 c ∧ c3 = .int .i64 d := by
  obtain ⟨y0, y1, y2, y3, n, _, _, h0, h1, h2, h3⟩ := trod_struct4 Tryz.underlying55 h
  simp [cellsOf3] at h0 h1 h2 h3
  obtain ⟨a, e0, _, _⟩ := DataW.trod_int Tryz.underlying3 h0
  obtain ⟨b, e1, _, _⟩ := DataW.trod_int Tryz.underlying3 h1
  obtain ⟨c, e2, _, _⟩ := DataW.trod_int Tryz.underlying3 h2
  obtain ⟨d, e3, _, _⟩ := DataW.trod_int Tryz.underlying3 h3
  simp only [List.cons.injEq, and_true] at e0 e1 e2 e3
  exact ⟨a, b, c, d, e0, e1, e2, e3⟩
theorem trod_cm {fuel : Nat} {cs : List Value} {x : DataW H × List MemPlace} (hl : cs.length = 22) (hf : DataW.trod enc Tryz.prog w base spare held fuel 57 cs = some x) : ∃ t : Cm, cs = t.cs ∧ inC t := by
  obtain ⟨c0, c1, c2, c3, c4, c5, c6, c7, c8, c9, c10, c11, c12, c13, c14, c15, c16, c17, c18, c19, c20, c21, rfl⟩ := list22 hl
  obtain ⟨xs, m, _, _, _, hlen, hk⟩ := DataW.trod_struct Tryz.underlying57 hf
  match xs, hlen with
  | [y0, y1, y2, y3, y4, y5, y6, y7, y8, y9], _ =>
    have h0 := hk 0 _ rfl
    have h1 := hk 1 _ rfl
    have h2 := hk 2 _ rfl
    have h3 := hk 3 _ rfl
    have h4 := hk 4 _ rfl
    have h5 := hk 5 _ rfl
    have h6 := hk 6 _ rfl
    have h7 := hk 7 _ rfl
    have h8 := hk 8 _ rfl
    have h9 := hk 9 _ rfl
    clear hk
    simp [cellsOf3, cellsOf23, cellsOf25, cellsOf26, cellsOf28r] at h0 h1 h2 h3 h4 h5 h6 h7 h8 h9
    obtain ⟨a0, e0, _, _⟩ := DataW.trod_int Tryz.underlying3 h0
    obtain ⟨a1, e1, _, _⟩ := DataW.trod_int Tryz.underlying3 h1
    obtain ⟨a2, e2, _, _⟩ := DataW.trod_int Tryz.underlying3 h2
    obtain ⟨a3, e3, _, _⟩ := DataW.trod_int Tryz.underlying3 h3
    obtain ⟨a4, a5, rfl, rfl⟩ := trod_pt h4
    obtain ⟨f0, f1, f2, f3, rfl, rfl, rfl, rfl, rfl, rfl, rfl, rfl, i0, i1, i2, i3⟩ := trod_fs h5
    obtain ⟨f4, rfl, rfl, i4⟩ := trod_fl h6
    obtain ⟨a7, e7, _, _⟩ := DataW.trod_int Tryz.underlying3 h7
    obtain ⟨a8, e8, _, _⟩ := DataW.trod_int Tryz.underlying3 h8
    obtain ⟨b0, b1, b2, b3, rfl, rfl, rfl, rfl⟩ := trod_rect4 h9
    simp only [List.cons.injEq, and_true] at e0 e1 e2 e3 e7 e8
    subst e0 e1 e2 e3 e7 e8
    exact ⟨⟨a0, a1, a2, a3, a4, a5, f0, f1, f2, f3, f4, a7, a8, b0, b1, b2, b3⟩, rfl, i0, i1, i2, i3, i4⟩
theorem open_cm (hv : Value.okWide Tryz.prog w r b0 57 v) (h : DataW.Trod enc Tryz.prog w base spare held 57 v d p) : ∃ t : Cm, v = t.v ∧ inC t := by
  obtain ⟨cs, rfl, hsz⟩ := okWide_struct Tryz.underlying57 hv
  obtain ⟨fuel, hf⟩ := h
  obtain ⟨t, ht, hin⟩ := trod_cm (cs := cs.toList) (by rw [Array.length_toList]; exact hsz.trans cellsOf30c) (by simpa [Value.cells] using hf)
  refine ⟨t, ?_, hin⟩
  have : cs = t.cs.toArray := by rw [← ht]
  rw [this]
  rfl
end
end
section
open Go.RowKit Go.ChangeShapes Go.WideShapes Go.Deep Go.Joins
set_option linter.unusedVariables false
set_option maxRecDepth 100000
def flatM (l : List Cm) : List Value := l.flatMap Cm.cs
theorem flatM_length (l : List Cm) : (flatM l).length = l.length * 22 := by
  induction l with
  | nil => rfl
  | cons r l ih => simp [flatM, Cm.cs] at ih ⊢; omega
theorem flatM_append (l m : List Cm) : flatM (l ++ m) = flatM l ++ flatM m := by simp [flatM]
theorem flatM_one (t : Cm) : flatM [t] = t.cs := by simp [flatM]
theorem flatM_get (l : List Cm) (k : Nat) (t : Cm) (h : l[k]? = some t) (j : Nat) (hj : j < 22) : (flatM l)[k * 22 + j]? = t.cs[j]? := by
  induction l generalizing k with
  | nil => simp at h
  | cons a l ih =>
    have e : flatM (a :: l) = a.cs ++ flatM l := rfl
    have hl : ∀ t : Cm, t.cs.length = 22 := fun t => rfl
    cases k with
    | zero =>
      simp at h
      subst h
      rw [e, Nat.zero_mul, Nat.zero_add, List.getElem?_append_left (by rw [hl]; exact hj)]
    | succ k =>
      have := ih k (by simpa using h)
      rw [e, List.getElem?_append_right (by rw [hl]; omega), hl, show (k + 1) * 22 + j - 22 = k * 22 + j by omega]
      exact this
/-- the row behind p, cell by cell; the empty row wants none -/
def RowM (W : World) (p : Option Addr) (L : List Cm) : Prop := L = [] ∨ ∃ b off, p = some ⟨b, off, none⟩ ∧ ∀ k t, L[k]? = some t → W.rangeAt b (off + k * 22) t.cs
theorem RowM.later {w wr : World} {p : Option Addr} {L : List Cm} (h : RowM w p L) (hb : Below w.heap.size w wr) : RowM wr p L := by
  rcases h with h | ⟨b, off, h, hc⟩
  · exact .inl h
  · exact .inr ⟨b, off, h, fun k t hk j v hv => cell_below hb (hc k t hk j v hv)⟩
theorem RowM.at {w : World} {p : Option Addr} {L : List Cm} (h : RowM w p L) {k : Nat} {t : Cm} (hk : L[k]? = some t) : ∃ b off, p = some ⟨b, off, none⟩ ∧ w.rangeAt b (off + k * 22) t.cs := by
  rcases h with h | ⟨b, off, h, hc⟩
  · subst h; simp at hk
  · exact ⟨b, off, h, hc k t hk⟩
theorem cs_len (t : Cm) : t.cs.length = 22 := rfl
theorem rowM_own {W : World} {base n : Nat} {p : Option Addr} {cap : Nat} {L : List Cm} (h : W.ownsRow base 57 22 (.slice p n cap) n (flatM L)) (hn : n = L.length) : RowM W p L := by
  subst hn
  by_cases h0 : L = []
  · exact .inl h0
  · right
    have hpos : 0 < L.length := List.length_pos_iff.2 h0
    rcases h.2 with ⟨h', h0⟩ | ⟨g, cap', cur, h', _⟩
    · omega
    · simp only [Value.slice.injEq] at h'
      obtain ⟨rfl, _, rfl⟩ := h'
      refine ⟨g, 0, rfl, fun k t hk j v hv => ?_⟩
      have hk' : k < L.length := (List.getElem?_eq_some_iff.1 hk).1
      have hj : j < 22 := by have := (List.getElem?_eq_some_iff.1 hv).1; rw [cs_len] at this; exact this
      have hlt : k * 22 + j < L.length * 22 := by omega
      rw [Nat.zero_add, h.cellAt (k * 22 + j) hlt, flatM_get L k t hk j hj]
      exact hv
theorem wpList_load_mid_cm {ops : Array Oper} {rest : List Oper} {o : Oper} {a : Act} {W : World} {Q : Exit → Act → World → Prop} (hgd : o.guard = none) (x : Operand) (ho : o.op = .load 57 x)
    {b p : Nat} {c : Cm} (hx : a.eval x = .pointer (some ⟨b, p, none⟩)) (h : W.rangeAt b p c.cs) (k : wpList Tryz.prog ops Q rest (a.put o.dst c.v) W) : wpList Tryz.prog ops Q (o :: rest) a W :=
  wpList_load_mid hgd _ x ho b p hx c.cs _ h Tryz.underlying57 rfl Tryz.size30 k
theorem quiet_load_mid_cm {ops : Array Oper} {rest : List Oper} {o : Oper} {a : Act} {C : World → Prop} {Q : Act → Prop} (hw : Region.wanted o (yielded ops a.tmps) = true) (x : Operand) (ho : o.op = .load 57 x)
    {b p : Nat} {c : Cm} (hx : a.eval x = .pointer (some ⟨b, p, none⟩)) (h : ∀ W, C W → W.rangeAt b p c.cs) (k : wpQuiet Tryz.prog ops C Q rest (a.put o.dst c.v)) : wpQuiet Tryz.prog ops C Q (o :: rest) a := by
  rw [wpQuiet, if_pos hw]
  refine ⟨c.v, fun W hW => ?_, k⟩
  unfold Oper.quietAt
  have e0 : (Instr.loadAt 57 (.pointer (some ⟨b, p, none⟩))).run Tryz.prog W = .ok c.v W := run_loadAt_mid W b p _ c.cs _ (h W hW) Tryz.underlying57 rfl Tryz.size30
  have e : (execOp a.eval o).run Tryz.prog W = .ok (.value c.v) W := by
    unfold execOp
    simp only [ho, hx, Sem.run_bind, e0, Result.andThen_ok, Sem.run_pure]
  rw [e]
  exact ⟨rfl, rfl⟩
theorem range_on {W W' : World} {b p : Nat} {cs : List Value} (h : W.rangeAt b p cs) (hb : Below W.heap.size W W') : W'.rangeAt b p cs := fun j v hv => cell_below hb (h j v hv)
section
variable {H : Type} {enc : TypeId × Value → H} {w : World} {base : Nat} {spare : Nat → Bool} {held : Bool} {r : Reach} {b0 : Nat} {v : Value} {d : DataW H} {p : List MemPlace}
theorem open_cms (hv : Value.okWide Tryz.prog w r b0 24 v) (h : DataW.Trod enc Tryz.prog w base spare held 24 v d p) :
    ∃ (a : Option Addr) (cap : Nat) (L : List Cm), v = .slice a L.length cap ∧ (∀ t ∈ L, inC t) ∧ RowM w a L ∧ L.length ≤ cap ∧ cap ≤ maxLen := by
  obtain ⟨a, len, cap, rfl⟩ := okWide_slice Tryz.underlying24 hv
  obtain ⟨fuel, hf⟩ := h
  rcases open_slice Tryz.underlying24 hf with ⟨hcs, _⟩ | ⟨a', len', cap', m, n, D, Pl, hcs, _, hl, hm, hmm, _, hx⟩
  · simp [Value.cells] at hcs
    obtain ⟨rfl, rfl, rfl⟩ := hcs
    exact ⟨none, 0, [], rfl, by simp, .inl rfl, by simp, by unfold maxLen; omega⟩
  · simp [Value.cells] at hcs
    obtain ⟨rfl, rfl, rfl⟩ := hcs
    have hlm : len ≤ m := by rw [hmm]; split <;> omega
    rw [cellsOf30c] at hx
    obtain ⟨f, hF⟩ := @choose_lt Cm ⟨zC⟩ len (fun i t => inC t ∧ ∀ j, j < 22 → w.cell? (a'.add (i * 22 + j)) = t.cs[j]?) (fun i hi => by
      obtain ⟨cs', h1, h2⟩ := hx i (by omega)
      obtain ⟨_, hlen, hcell⟩ := World.cells?_some h1
      obtain ⟨t, rfl, hin⟩ := trod_cm hlen h2
      exact ⟨t, hin, fun j hj => by rw [← add_add]; exact hcell j hj⟩)
    refine ⟨some a', cap, (List.range len).map f, by simp, ?_, ?_, by simpa using hl, hm⟩
    · intro t ht
      simp only [List.mem_map, List.mem_range] at ht
      obtain ⟨i, hi, rfl⟩ := ht
      exact (hF i hi).1
    · by_cases h0 : len = 0
      · left; subst h0; rfl
      · right
        obtain ⟨b, off, spot⟩ := a'
        have hc := (hF 0 (by omega)).2 0 (by omega)
        have hspot : spot = none := by
          have := World.cell?_spot (v := .int .i64 (f 0).kd) hc
          simpa [Addr.add] using this
        subst hspot
        refine ⟨b, off, rfl, fun k t hk j u hu => ?_⟩
        have hk' : k < len := by
          rcases Nat.lt_or_ge k len with h | h
          · exact h
          · rw [List.getElem?_eq_none (by simpa using h)] at hk; cases hk
        rw [List.getElem?_map, List.getElem?_range hk'] at hk
        simp only [Option.map_some, Option.some.injEq] at hk
        subst hk
        have hj : j < 22 := by have := (List.getElem?_eq_some_iff.1 hu).1; rw [cs_len] at this; exact this
        have e : (⟨b, off, none⟩ : Addr).add (k * 22 + j) = ⟨b, off + k * 22 + j, none⟩ := by unfold Addr.add; split <;> simp_all [Nat.add_assoc]
        rw [← e]
        rw [(hF k hk').2 j hj]
        exact hu
end
end
end Go.Proofs.YtpedngbjpbeanaaGreatDoor
