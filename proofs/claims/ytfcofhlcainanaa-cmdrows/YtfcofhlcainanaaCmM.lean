/- Contracts of the parts' methods of the package cmd: is, told, clear. -/
import Derived.Test.YtfcofhlcainanaaCmP
import Derived.Test.YtfcofhlcainanaaFld
import Derived.BigQuiet
import Derived.Lib.QuietBelow
import Derived.Deep.CutBlock
namespace Go.Proofs.Ytfcofhlcainanaa
open Go.RowKit
set_option linter.unusedVariables false
theorem hid {p : Prop} (h : p) : Hid p := h
abbrev numV (g k : Nat) (lo hi : Int) : Value := .agg #[.pointer (some ⟨g, k, none⟩), .int .i64 lo, .int .i64 hi]
abbrev fldV (g k : Nat) : Value := .agg #[.pointer (some ⟨g, k, none⟩)]
abbrev numO (g k : Nat) (lo hi : Int) : Obj := .cells #[.pointer (some ⟨g, k, none⟩), .int .i64 lo, .int .i64 hi] 62 (0, 0)
abbrev fldO (g k : Nat) : Obj := .cells #[.pointer (some ⟨g, k, none⟩)] 68 (0, 0)
theorem below_drewN {B : Nat} {a w : World} (h : Below B a w) (n : Nat) : Below B a (w.drewN n) := by
  induction n with
  | zero => exact h
  | succ n ih => exact ih.drew
theorem cell_below {W w1 : World} {a : Addr} {v : Value} (hb : Below W.heap.size W w1) (h : W.cell? a = some v) : w1.cell? a = some v := by
  rw [hb.cell (World.block_lt_of_cell? W a h)]; exact h
theorem grown_cells {W : World} {g : Nat} {cs : Array Value} {t : TypeId} (h : W.heap[g]? = some (.cells cs t (0, 0))) : ∀ i d os, (Sort.grow (redrawn W d) os).cell? ⟨g, i, none⟩ = cs[i]? := fun i d os =>
  Go.Joins.cell_of_block (var_on (below_regrown W d os) h (at_lt h)) i
set_option maxHeartbeats 400000 in
theorem num_is (w : World) {g k : Nat} {n : Int} (h : w.cell? ⟨g, k, none⟩ = some (.int .i64 n)) (lo hi : Int) :
    Calls Try.prog 45 #[numV g k lo hi] w fun e w' => e = .returned (.bool (decide (lo ≤ n) && decide (n ≤ hi))) ∧ Below w.heap.size w w' := by
  have hg : g < w.heap.size := World.block_lt_of_cell? w _ h
  by_cases h1 : lo ≤ n <;> by_cases h2 : n ≤ hi
  · have d1 : decide (lo ≤ n) = true := by simp [h1]
    have d2 : decide (n ≤ hi) = true := by simp [h2]
    go_enter Try.func45, Try.ntmps45
    go_wp2_with fail
    go_quiet (fail)
    go_wp2_with fail
    go_ret
    exact ⟨by simp [d1, d2], below_drewN (below1 _ _) _⟩
  · have d1 : decide (lo ≤ n) = true := by simp [h1]
    have d2 : decide (n ≤ hi) = false := by simp [h2]
    go_enter Try.func45, Try.ntmps45
    go_wp2_with fail
    go_quiet (fail)
    go_wp2_with fail
    go_ret
    exact ⟨by simp [d1, d2], below_drewN (below1 _ _) _⟩
  all_goals
    have d1 : decide (lo ≤ n) = false := by simp [h1]
    go_enter Try.func45, Try.ntmps45
    go_wp2_with fail
    go_quiet (fail)
    go_wp2_with fail
    go_ret
    exact ⟨by simp [d1], below_drewN (below1 _ _) _⟩
theorem num_told (w : World) {g k : Nat} {n : Int} (h : w.cell? ⟨g, k, none⟩ = some (.int .i64 n)) (lo hi : Int) (h0 : -9223372036854775808 ≤ n) (h1 : n ≤ 9223372036854775807) :
    Calls Try.prog 47 #[numV g k lo hi] w fun e w' => e = .returned (.string ⟨(put (zig n)).toArray⟩) ∧ Below w.heap.size w w' := by
  have hg : g < w.heap.size := World.block_lt_of_cell? w _ h
  go_enter Try.func47, Try.ntmps47
  go_wp2_with fail
  refine (num_int n h0 h1 _).mono ?_
  rintro x w2 ⟨rfl, hb⟩
  go_wp2_with fail
  go_ret
  exact ⟨rfl, below_on (below1 _ _) hb⟩
/-- but for the block g nothing that was there has turned -/
structure But (g : Nat) (w w' : World) : Prop where
  os : w'.os = w.os
  tape : w'.tape = w.tape
  output : w'.output = w.output
  size : w.heap.size ≤ w'.heap.size
  block : ∀ k, k < w.heap.size → k ≠ g → w'.heap[k]? = w.heap[k]?
theorem But.of_below {w w' : World} (h : Below w.heap.size w w') (g : Nat) : But g w w' := ⟨h.os, h.tape, h.output, h.size, fun k hk _ => h.block k hk⟩
theorem But.refl (g : Nat) (w : World) : But g w w := ⟨rfl, rfl, rfl, Nat.le_refl _, fun _ _ _ => rfl⟩
theorem But.trans {g : Nat} {a b c : World} (h : But g a b) (k : But g b c) : But g a c :=
  ⟨k.os.trans h.os, k.tape.trans h.tape, k.output.trans h.output, Nat.le_trans h.size k.size, fun i hi hx => (k.block i (by have := h.size; omega) hx).trans (h.block i hi hx)⟩
theorem But.setCell {g : Nat} {w w' : World} (h : But g w w') (i : Nat) (v : Value) : But g w (w'.setCell ⟨g, i, none⟩ v) :=
  ⟨h.os, h.tape, h.output, by have := h.size; simpa using this, fun k hk hx => by rw [Below.heap_setCell _ _ _ _ hx]; exact h.block k hk hx⟩
theorem But.alloc {g : Nat} {w w' : World} (h : But g w w') (o : Obj) : But g w (w'.alloc o) :=
  ⟨h.os, h.tape, h.output, by have := h.size; simp; omega, fun k hk hx => by rw [heap_alloc, if_neg (by have := h.size; omega)]; exact h.block k hk hx⟩
/-- a world behind a change of a block that is new to the world in which all began -/
theorem But.below {g : Nat} {w a b : World} (h : Below w.heap.size w a) (k : But g a b) (hg : w.heap.size ≤ g) : Below w.heap.size w b :=
  ⟨k.os.trans h.os, k.tape.trans h.tape, k.output.trans h.output, Nat.le_trans h.size k.size, fun i hi => (k.block i (by have := h.size; omega) (by omega)).trans (h.block i hi)⟩
theorem But.at {g b : Nat} {w w' : World} (h : But g w w') {o : Obj} (k : w.heap[b]? = some o) (hb : b ≠ g) : w'.heap[b]? = some o := by
  rw [h.block b (at_lt k) hb]; exact k
theorem num_clear (w : World) {g k : Nat} {c : Cm} (h : w.heap[g]? = some c.o) (hk : atI k) (lo hi : Int) :
    Calls Try.prog 44 #[numV g k lo hi] w fun e w' => e = .returned (.tuple #[]) ∧ w'.heap[g]? = some (c.setI k 0).o ∧ But g w w' := by
  have hg : g < w.heap.size := at_lt h
  have hc := cell_i h hk
  have hf : w.frozen? ⟨g, k, none⟩ = false := (cells_at h).2 k
  have hS := old_at (set_i h hk 0) (numO g k lo hi)
  have hB := ((But.refl g w).setCell k (.int .i64 0)).alloc (numO g k lo hi)
  have HH := hid h
  clear h
  go_enter Try.func44, Try.ntmps44
  go_wp2_with fail
  go_returns
  exact ⟨rfl, hS, hB⟩
theorem fld_is (w : World) {g k : Nat} {f : Fl} (h : w.cell? ⟨g, k, none⟩ = some (.int .i64 f.n)) (h' : w.cell? ⟨g, k + 1, none⟩ = some (.string f.s)) (hs : f.s.size ≤ maxLen) :
    Calls Try.prog 55 #[fldV g k] w fun e w' => e = .returned (.bool (isF f)) ∧ Below w.heap.size w w' := by
  have hg : g < w.heap.size := World.block_lt_of_cell? w _ h
  go_enter Try.func55, Try.ntmps55
  go_wp2_with fail
  refine (fields_isField _ f hs).mono ?_
  rintro x w2 ⟨rfl, hb⟩
  go_wp2_with fail
  go_ret
  exact ⟨rfl, below_on (below1 _ _) hb⟩
set_option maxHeartbeats 1000000 in
theorem fld_told (w : World) {g k : Nat} {f : Fl} (h : w.cell? ⟨g, k, none⟩ = some (.int .i64 f.n)) (h' : w.cell? ⟨g, k + 1, none⟩ = some (.string f.s)) (hs : f.s.size ≤ 1000000) (h0 : -9223372036854775808 ≤ f.n) (h1 : f.n ≤ 9223372036854775807) :
    Calls Try.prog 57 #[fldV g k] w fun e w' => e = .returned (.string ⟨(text f.s.data.toList ++ put (zig f.n)).toArray⟩) ∧ Below w.heap.size w w' := by
  have hg : g < w.heap.size := World.block_lt_of_cell? w _ h
  obtain ⟨T, hT⟩ : ∃ T, Hid (T = text f.s.data.toList) := ⟨_, rfl⟩
  obtain ⟨I, hI⟩ : ∃ I, Hid (I = put (zig f.n)) := ⟨_, rfl⟩
  have lT : T.length ≤ 1000010 := by
    rw [hT.out]; unfold text; have := (put_length f.s.data.toList.length).2; rw [List.length_append]; have e : f.s.data.toList.length ≤ 1000000 := hs; omega
  have lI : I.length ≤ 10 := by rw [hI.out]; exact (put_length _).2
  rw [← hT.out, ← hI.out]
  have K0 : Hid ((w.alloc (fldO g k)).heap[w.heap.size]? = some (fldO g k)) := new_at _ _ _ rfl
  have hB := below1 w (fldO g k)
  have n1 : (w.alloc (fldO g k)).cell? ⟨g, k, none⟩ = some (.int .i64 f.n) := cell_below hB h
  have n2 : (w.alloc (fldO g k)).cell? ⟨g, k + 1, none⟩ = some (.string f.s) := cell_below hB h'
  obtain ⟨W, hW⟩ : ∃ W, w.alloc (fldO g k) = W := ⟨_, rfl⟩
  have lw : w.heap.size < W.heap.size := by rw [← hW]; simp
  go_enter Try.func57, Try.ntmps57
  go_upto_region 1 with fail
  rw [hW] at K0 hB n1 n2
  clear hW h h'
  have c1 := cells_at K0.out
  have g1 := grown_cells K0.out
  have g2 : ∀ d os, (Sort.grow (redrawn W d) os).cell? ⟨g, k, none⟩ = some (.int .i64 f.n) := fun d os => cell_below (below_regrown W d os) n1
  have g3 : ∀ d os, (Sort.grow (redrawn W d) os).cell? ⟨g, k + 1, none⟩ = some (.string f.s) := fun d os => cell_below (below_regrown W d os) n2
  have C1 := fun w => text_at hT (by omega) w
  have C2 := fun w => int_at hI h0 h1 w
  refine wp_region_quiet_below (by kernel_rfl) (by kernel_rfl) ?_
  repeat (first | go_big_quiet_skip | (go_big_quiet_want; go_big_quiet_op; first | go_big_quiet_on | go_big_quiet_call (first | with_reducible exact Calls.regrown_of (C1 _) | with_reducible exact Calls.regrown_of (C2 _))))
  refine wpQuiet_nil ?_
  intro _ hw'
  obtain ⟨⟨dq, osq⟩, hw''⟩ := hw'
  subst hw''
  go_wp2_with fail
  go_ret
  exact ⟨congrArg (fun x => Ending.returned (.string x)) (ByteArray.mk_append_mk T I), below_on hB (below_regrown _ _ _)⟩
theorem fld_clear (w : World) {g k : Nat} {c : Cm} (h : w.heap[g]? = some c.o) (hk : atF k) :
    Calls Try.prog 54 #[fldV g k] w fun e w' => e = .returned (.tuple #[]) ∧ w'.heap[g]? = some (c.setF k zF).o ∧ But g w w' := by
  have hg : g < w.heap.size := at_lt h
  obtain ⟨hc, hc'⟩ := cell_f h hk
  have hf : w.frozen? ⟨g, k, none⟩ = false := (cells_at h).2 k
  have hf' : w.frozen? ⟨g, k + 1, none⟩ = false := (cells_at h).2 (k + 1)
  have hS := old_at (set_f h hk zF) (fldO g k)
  have hB := (((But.refl g w).setCell k (.int .i64 0)).setCell (k + 1) (.string ⟨#[]⟩)).alloc (fldO g k)
  have HH := hid h
  clear h
  go_enter Try.func54, Try.ntmps54
  go_wp2_with fail
  go_returns
  exact ⟨rfl, hS, hB⟩
end Go.Proofs.Ytfcofhlcainanaa
