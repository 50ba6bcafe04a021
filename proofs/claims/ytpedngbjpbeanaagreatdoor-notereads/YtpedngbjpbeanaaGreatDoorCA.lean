/- Commands: their cells, their parts; contracts of the parts. -/
import Derived.Test.YtpedngbjpbeanaaGreatDoorFC
import Derived.Test.YtpedngbjpbeanaaGreatDoorHA
import Derived.BigQuiet
import Derived.Lib.QuietBelow
import Derived.Deep.CutBlock
namespace Go.Proofs.YtpedngbjpbeanaaGreatDoor
section
open Go.RowKit
set_option linter.unusedVariables false
structure Cm where
  kd : Int
  id : Int
  wh : Int
  tt : Int
  x : Int
  y : Int
  f0 : Fl
  f1 : Fl
  f2 : Fl
  f3 : Fl
  va : Fl
  cl : Int
  se : Int
  r0 : Int
  r1 : Int
  r2 : Int
  r3 : Int
abbrev Cm.v (c : Cm) : Value := .agg #[.int .i64 c.kd, .int .i64 c.id, .int .i64 c.wh, .int .i64 c.tt, .int .i64 c.x, .int .i64 c.y, .int .i64 c.f0.n, .string c.f0.s, .int .i64 c.f1.n, .string c.f1.s, .int .i64 c.f2.n, .string c.f2.s, .int .i64 c.f3.n, .string c.f3.s, .int .i64 c.va.n, .string c.va.s, .int .i64 c.cl, .int .i64 c.se, .int .i64 c.r0, .int .i64 c.r1, .int .i64 c.r2, .int .i64 c.r3]
abbrev Cm.o (c : Cm) : Obj := .cells #[.int .i64 c.kd, .int .i64 c.id, .int .i64 c.wh, .int .i64 c.tt, .int .i64 c.x, .int .i64 c.y, .int .i64 c.f0.n, .string c.f0.s, .int .i64 c.f1.n, .string c.f1.s, .int .i64 c.f2.n, .string c.f2.s, .int .i64 c.f3.n, .string c.f3.s, .int .i64 c.va.n, .string c.va.s, .int .i64 c.cl, .int .i64 c.se, .int .i64 c.r0, .int .i64 c.r1, .int .i64 c.r2, .int .i64 c.r3] 57 (0, 0)
def zC : Cm := ⟨0, 0, 0, 0, 0, 0, zF, zF, zF, zF, zF, 0, 0, 0, 0, 0, 0⟩
def Cm.i (c : Cm) : Nat → Int
  | 0 => c.kd
  | 1 => c.id
  | 2 => c.wh
  | 3 => c.tt
  | 4 => c.x
  | 5 => c.y
  | 16 => c.cl
  | 17 => c.se
  | 18 => c.r0
  | 19 => c.r1
  | 20 => c.r2
  | _ => c.r3
def Cm.f (c : Cm) : Nat → Fl
  | 6 => c.f0
  | 8 => c.f1
  | 10 => c.f2
  | 12 => c.f3
  | _ => c.va
def Cm.setI (c : Cm) (k : Nat) (z : Int) : Cm := match k with
  | 0 => { c with kd := z }
  | 1 => { c with id := z }
  | 2 => { c with wh := z }
  | 3 => { c with tt := z }
  | 4 => { c with x := z }
  | 5 => { c with y := z }
  | 16 => { c with cl := z }
  | 17 => { c with se := z }
  | 18 => { c with r0 := z }
  | 19 => { c with r1 := z }
  | 20 => { c with r2 := z }
  | _ => { c with r3 := z }
def Cm.setF (c : Cm) (k : Nat) (f : Fl) : Cm := match k with
  | 6 => { c with f0 := f }
  | 8 => { c with f1 := f }
  | 10 => { c with f2 := f }
  | 12 => { c with f3 := f }
  | _ => { c with va := f }
def plI (k : Nat) : Prop := k = 0 ∨ k = 1 ∨ k = 2 ∨ k = 3 ∨ k = 4 ∨ k = 5 ∨ k = 16 ∨ k = 17 ∨ k = 18 ∨ k = 19 ∨ k = 20 ∨ k = 21
def atF (k : Nat) : Prop := k = 6 ∨ k = 8 ∨ k = 10 ∨ k = 12 ∨ k = 14
theorem cell_i {W : World} {g k : Nat} {c : Cm} (h : W.heap[g]? = some c.o) (hk : plI k) : W.cell? ⟨g, k, none⟩ = some (.int .i64 (c.i k)) := by
  rw [Go.Joins.cell_of_block h]
  rcases hk with rfl | rfl | rfl | rfl | rfl | rfl | rfl | rfl | rfl | rfl | rfl | rfl <;> rfl
theorem cell_f {W : World} {g k : Nat} {c : Cm} (h : W.heap[g]? = some c.o) (hk : atF k) : W.cell? ⟨g, k, none⟩ = some (.int .i64 (c.f k).n) ∧ W.cell? ⟨g, k + 1, none⟩ = some (.string (c.f k).s) := by
  rw [Go.Joins.cell_of_block h, Go.Joins.cell_of_block h]
  rcases hk with rfl | rfl | rfl | rfl | rfl <;> exact ⟨rfl, rfl⟩
theorem set_i {W : World} {g k : Nat} {c : Cm} (h : W.heap[g]? = some c.o) (hk : plI k) (z : Int) : (W.setCell ⟨g, k, none⟩ (.int .i64 z)).heap[g]? = some (c.setI k z).o := by
  refine set_at h _ ?_
  rcases hk with rfl | rfl | rfl | rfl | rfl | rfl | rfl | rfl | rfl | rfl | rfl | rfl <;> rfl
theorem set_fC {W : World} {g k : Nat} {c : Cm} (h : W.heap[g]? = some c.o) (hk : atF k) (f : Fl) : ((W.setCell ⟨g, k, none⟩ (.int .i64 f.n)).setCell ⟨g, k + 1, none⟩ (.string f.s)).heap[g]? = some (c.setF k f).o := by
  refine set_at (set_at h _ rfl) _ ?_
  rcases hk with rfl | rfl | rfl | rfl | rfl <;> rfl
/-- a part of a command, at its place there -/
abbrev Pa := (Nat × Int × Int) ⊕ Nat
abbrev Pa.num (k : Nat) (lo hi : Int) : Pa := Sum.inl (k, lo, hi)
abbrev Pa.fld (k : Nat) : Pa := Sum.inr k
def Pa.v (g : Nat) : Pa → Value
  | Sum.inl (k, lo, hi) => .iface 145 (.agg #[.pointer (some ⟨g, k, none⟩), .int .i64 lo, .int .i64 hi])
  | Sum.inr k => .iface 151 (.agg #[.pointer (some ⟨g, k, none⟩)])
def Pa.ok : Pa → Prop
  | Sum.inl (k, lo, hi) => plI k ∧ -1000000 ≤ lo ∧ lo ≤ 1000000 ∧ -1000000 ≤ hi ∧ hi ≤ 1000000
  | Sum.inr k => atF k
def headP : List Pa := [.num 0 1 8, .num 16 0 3, .num 17 0 1000000]
def ptP : List Pa := [.num 4 (-1000) 1000, .num 5 (-1000) 1000]
def rectP : List Pa := [.num 18 (-1000) 1000, .num 19 (-1000) 1000, .num 20 (-1000) 1000, .num 21 (-1000) 1000]
def restP (kd : Int) : List Pa :=
  if kd = 1 then [.num 4 (-1000) 1000, .num 5 (-1000) 1000, .fld 6, .fld 8, .fld 10, .fld 12]
  else if kd = 2 then [.num 4 (-1000) 1000, .num 5 (-1000) 1000, .num 1 0 1000000]
  else if kd = 3 then [.num 1 0 1000000, .num 2 (-1) 100, .fld 14]
  else if kd = 4 then [.num 1 0 1000000]
  else if kd = 5 then [.num 2 (-1) 100, .num 3 (-1) 100]
  else if kd = 6 ∨ kd = 7 then [.num 18 (-1000) 1000, .num 19 (-1000) 1000, .num 20 (-1000) 1000, .num 21 (-1000) 1000]
  else []
def partsP (kd : Int) : List Pa := headP ++ restP kd
theorem head_ok : ∀ p ∈ headP, p.ok := by
  intro p hp
  simp only [headP, List.mem_cons, List.not_mem_nil, or_false] at hp
  rcases hp with rfl | rfl | rfl <;> simp [Pa.ok, plI]
theorem rest_cases {P : List Pa → Prop} (h1 : P [.num 4 (-1000) 1000, .num 5 (-1000) 1000, .fld 6, .fld 8, .fld 10, .fld 12]) (h2 : P [.num 4 (-1000) 1000, .num 5 (-1000) 1000, .num 1 0 1000000]) (h3 : P [.num 1 0 1000000, .num 2 (-1) 100, .fld 14])
    (h4 : P [.num 1 0 1000000]) (h5 : P [.num 2 (-1) 100, .num 3 (-1) 100]) (h6 : P [.num 18 (-1000) 1000, .num 19 (-1000) 1000, .num 20 (-1000) 1000, .num 21 (-1000) 1000]) (h7 : P []) (kd : Int) : P (restP kd) := by
  unfold restP
  repeat' split
  all_goals assumption
theorem rest_ok (kd : Int) : ∀ p ∈ restP kd, p.ok := by
  refine rest_cases (P := fun l => ∀ p ∈ l, p.ok) ?_ ?_ ?_ ?_ ?_ ?_ ?_ kd
  all_goals
    intro p hp
    simp only [List.mem_cons, List.not_mem_nil, or_false] at hp
  · rcases hp with rfl | rfl | rfl | rfl | rfl | rfl <;> simp [Pa.ok, plI, atF]
  · rcases hp with rfl | rfl | rfl <;> simp [Pa.ok, plI]
  · rcases hp with rfl | rfl | rfl <;> simp [Pa.ok, plI, atF]
  · subst hp; simp [Pa.ok, plI]
  · rcases hp with rfl | rfl <;> simp [Pa.ok, plI]
  · rcases hp with rfl | rfl | rfl | rfl <;> simp [Pa.ok, plI]
theorem rest_len (kd : Int) : (restP kd).length ≤ 6 := by
  refine rest_cases (P := fun l => l.length ≤ 6) ?_ ?_ ?_ ?_ ?_ ?_ ?_ kd <;> simp
theorem parts_ok (kd : Int) : ∀ p ∈ partsP kd, p.ok := by
  intro p hp
  unfold partsP at hp
  rcases List.mem_append.1 hp with h | h
  · exact head_ok p h
  · exact rest_ok kd p h
theorem parts_len (kd : Int) : (partsP kd).length ≤ 9 := by
  have := rest_len kd
  unfold partsP
  rw [List.length_append]
  have e : headP.length = 3 := rfl
  omega
def Pa.is (c : Cm) : Pa → Bool
  | Sum.inl (k, lo, hi) => decide (lo ≤ c.i k) && decide (c.i k ≤ hi)
  | Sum.inr k => isF (c.f k)
def Pa.clr (c : Cm) : Pa → Cm
  | Sum.inl (k, _, _) => c.setI k 0
  | Sum.inr k => c.setF k zF
def Pa.told (c : Cm) : Pa → List UInt8
  | Sum.inl (k, _, _) => put (zig (c.i k))
  | Sum.inr k => text (c.f k).s.data.toList ++ put (zig (c.f k).n)
/- what one part reads from the beginning of s: the command with it, how many bytes, the error -/
def numR (c : Cm) (k : Nat) (lo hi : Int) (s : List UInt8) : Cm × Nat × Nat :=
  if (get s).2.2 ≠ 0 then (c, 0, (get s).2.2)
  else if zag (get s).1 < lo ∨ hi < zag (get s).1 then (c, 0, 11)
  else (c.setI k (zag (get s).1), (get s).2.1, 0)
def fldR (c : Cm) (k : Nat) (s : List UInt8) : Cm × Nat × Nat :=
  if (texts s 12).2.2 ≠ 0 then (c, 0, (texts s 12).2.2)
  else if (get (s.drop (texts s 12).2.1)).2.2 ≠ 0 then (c, 0, (get (s.drop (texts s 12).2.1)).2.2)
  else if isF ⟨zag (get (s.drop (texts s 12).2.1)).1, ⟨(texts s 12).1.toArray⟩⟩ = false then (c, 0, 11)
  else (c.setF k ⟨zag (get (s.drop (texts s 12).2.1)).1, ⟨(texts s 12).1.toArray⟩⟩, (texts s 12).2.1 + (get (s.drop (texts s 12).2.1)).2.1, 0)
def Pa.read (c : Cm) (s : List UInt8) : Pa → Cm × Nat × Nat
  | Sum.inl (k, lo, hi) => numR c k lo hi s
  | Sum.inr k => fldR c k s
def isL : List Pa → Cm → Bool
  | [], c => true
  | p :: l, c => p.is c && isL l (p.clr c)
def clrL : List Pa → Cm → Cm
  | [], c => c
  | p :: l, c => clrL l (p.clr c)
def toldL (l : List Pa) (c : Cm) : List UInt8 := l.flatMap (Pa.told c)
def readL (s : List UInt8) : List Pa → Cm → Nat → Cm × Nat × Nat
  | [], c, z => (c, z, 0)
  | p :: l, c, z => if (p.read c (s.drop z)).2.2 ≠ 0 then ((p.read c (s.drop z)).1, z, (p.read c (s.drop z)).2.2) else readL s l (p.read c (s.drop z)).1 (z + (p.read c (s.drop z)).2.1)
def eqC (a b : Cm) : Bool := a.kd == b.kd && (a.id == b.id && (a.wh == b.wh && (a.tt == b.tt && (pEq a.x a.y b.x b.y && ((eqF a.f0 b.f0 && (eqF a.f1 b.f1 && (eqF a.f2 b.f2 && eqF a.f3 b.f3))) && (eqF a.va b.va && (a.cl == b.cl && (a.se == b.se && eqB ⟨a.r0, a.r1, a.r2, a.r3⟩ ⟨b.r0, b.r1, b.r2, b.r3⟩))))))))
theorem eqC_iff {a b : Cm} : eqC a b = true ↔ a = b := by
  obtain ⟨a0, a1, a2, a3, a4, a5, a6, a7, a8, a9, a10, a11, a12, a13, a14, a15, a16⟩ := a
  obtain ⟨b0, b1, b2, b3, b4, b5, b6, b7, b8, b9, b10, b11, b12, b13, b14, b15, b16⟩ := b
  simp only [eqC, eqB, pEq, Bool.and_eq_true, beq_iff_eq, eqF_iff, Cm.mk.injEq]
  constructor
  · rintro ⟨h0, h1, h2, h3, ⟨h4, h5⟩, ⟨h6, h7, h8, h9⟩, h10, h11, h12, h13, h14, h15, h16⟩
    exact ⟨h0, h1, h2, h3, h4, h5, h6, h7, h8, h9, h10, h11, h12, h13, h14, h15, h16⟩
  · rintro ⟨h0, h1, h2, h3, h4, h5, h6, h7, h8, h9, h10, h11, h12, h13, h14, h15, h16⟩
    exact ⟨h0, h1, h2, h3, ⟨h4, h5⟩, ⟨h6, h7, h8, h9⟩, h10, h11, h12, h13, h14, h15, h16⟩
theorem eqC_no {a b : Cm} : eqC a b = false ↔ ¬ a = b := by rw [← eqC_iff]; simp
theorem eqC_self (a : Cm) : eqC a a = true := eqC_iff.2 rfl
/- who is a command -/
def isCm (c : Cm) : Bool := isL (partsP c.kd) c && eqC (clrL (partsP c.kd) c) zC
def bytesC (c : Cm) : List UInt8 × Nat := if isCm c then (toldL (partsP c.kd) c, 0) else ([], 11)
def readC (s : List UInt8) : Cm × Nat × Nat :=
  if (readL s headP zC 0).2.2 ≠ 0 then (zC, 0, (readL s headP zC 0).2.2)
  else if (readL s (restP (readL s headP zC 0).1.kd) (readL s headP zC 0).1 (readL s headP zC 0).2.1).2.2 ≠ 0 then (zC, 0, (readL s (restP (readL s headP zC 0).1.kd) (readL s headP zC 0).1 (readL s headP zC 0).2.1).2.2)
  else readL s (restP (readL s headP zC 0).1.kd) (readL s headP zC 0).1 (readL s headP zC 0).2.1
end
section
open Go.RowKit
set_option linter.unusedVariables false
abbrev numV (g k : Nat) (lo hi : Int) : Value := .agg #[.pointer (some ⟨g, k, none⟩), .int .i64 lo, .int .i64 hi]
abbrev fldV (g k : Nat) : Value := .agg #[.pointer (some ⟨g, k, none⟩)]
abbrev numO (g k : Nat) (lo hi : Int) : Obj := .cells #[.pointer (some ⟨g, k, none⟩), .int .i64 lo, .int .i64 hi] 145 (0, 0)
abbrev fldO (g k : Nat) : Obj := .cells #[.pointer (some ⟨g, k, none⟩)] 151 (0, 0)
set_option maxHeartbeats 400000 in
theorem num_is (w : World) {g k : Nat} {n : Int} (h : w.cell? ⟨g, k, none⟩ = some (.int .i64 n)) (lo hi : Int) :
    Calls Tryz.prog 124 #[numV g k lo hi] w fun e w' => e = .returned (.bool (decide (lo ≤ n) && decide (n ≤ hi))) ∧ Below w.heap.size w w' := by
  have hg : g < w.heap.size := World.block_lt_of_cell? w _ h
  by_cases h1 : lo ≤ n <;> by_cases h2 : n ≤ hi
  · have d1 : decide (lo ≤ n) = true := by simp [h1]
    have d2 : decide (n ≤ hi) = true := by simp [h2]
    go_enter Tryz.func124, Tryz.ntmps124
    go_wp2_with fail
    go_quiet (fail)
    go_wp2_with fail
    go_ret
    exact ⟨by simp [d1, d2], below_drewN (below1 _ _) _⟩
  · have d1 : decide (lo ≤ n) = true := by simp [h1]
    have d2 : decide (n ≤ hi) = false := by simp [h2]
    go_enter Tryz.func124, Tryz.ntmps124
    go_wp2_with fail
    go_quiet (fail)
    go_wp2_with fail
    go_ret
    exact ⟨by simp [d1, d2], below_drewN (below1 _ _) _⟩
  all_goals
    have d1 : decide (lo ≤ n) = false := by simp [h1]
    go_enter Tryz.func124, Tryz.ntmps124
    go_wp2_with fail
    go_quiet (fail)
    go_wp2_with fail
    go_ret
    exact ⟨by simp [d1], below_drewN (below1 _ _) _⟩
theorem num_told (w : World) {g k : Nat} {n : Int} (h : w.cell? ⟨g, k, none⟩ = some (.int .i64 n)) (lo hi : Int) (h0 : -9223372036854775808 ≤ n) (h1 : n ≤ 9223372036854775807) :
    Calls Tryz.prog 126 #[numV g k lo hi] w fun e w' => e = .returned (.string ⟨(put (zig n)).toArray⟩) ∧ Below w.heap.size w w' := by
  have hg : g < w.heap.size := World.block_lt_of_cell? w _ h
  go_enter Tryz.func126, Tryz.ntmps126
  go_wp2_with fail
  refine (num_int n h0 h1 _).mono ?_
  rintro x w2 ⟨rfl, hb⟩
  go_wp2_with fail
  go_ret
  exact ⟨rfl, below_on (below1 _ _) hb⟩
/-- but for the block g nothing that was there has turned -/
structure But (g : Nat) (w w' : World) : Prop where
  os : w'.os = w.os
  tape : w'.tape = w.tape
  output : w'.output = w.output
  size : w.heap.size ≤ w'.heap.size
  block : ∀ k, k < w.heap.size → k ≠ g → w'.heap[k]? = w.heap[k]?
theorem But.of_below {w w' : World} (h : Below w.heap.size w w') (g : Nat) : But g w w' := ⟨h.os, h.tape, h.output, h.size, fun k hk _ => h.block k hk⟩
theorem But.refl (g : Nat) (w : World) : But g w w := ⟨rfl, rfl, rfl, Nat.le_refl _, fun _ _ _ => rfl⟩
theorem But.trans {g : Nat} {a b c : World} (h : But g a b) (k : But g b c) : But g a c :=
  ⟨k.os.trans h.os, k.tape.trans h.tape, k.output.trans h.output, Nat.le_trans h.size k.size, fun i hi hx => (k.block i (by have := h.size; omega) hx).trans (h.block i hi hx)⟩
theorem But.setCell {g : Nat} {w w' : World} (h : But g w w') (i : Nat) (v : Value) : But g w (w'.setCell ⟨g, i, none⟩ v) :=
  ⟨h.os, h.tape, h.output, by have := h.size; simpa using this, fun k hk hx => by rw [Below.heap_setCell _ _ _ _ hx]; exact h.block k hk hx⟩
theorem But.alloc {g : Nat} {w w' : World} (h : But g w w') (o : Obj) : But g w (w'.alloc o) :=
  ⟨h.os, h.tape, h.output, by have := h.size; simp; omega, fun k hk hx => by rw [heap_alloc, if_neg (by have := h.size; omega)]; exact h.block k hk hx⟩
/-- a world behind a change of a block that is new to the world in which all began -/
theorem But.below {g : Nat} {w a b : World} (h : Below w.heap.size w a) (k : But g a b) (hg : w.heap.size ≤ g) : Below w.heap.size w b :=
  ⟨k.os.trans h.os, k.tape.trans h.tape, k.output.trans h.output, Nat.le_trans h.size k.size, fun i hi => (k.block i (by have := h.size; omega) (by omega)).trans (h.block i hi)⟩
theorem But.at {g b : Nat} {w w' : World} (h : But g w w') {o : Obj} (k : w.heap[b]? = some o) (hb : b ≠ g) : w'.heap[b]? = some o := by
  rw [h.block b (at_lt k) hb]; exact k
theorem num_clear (w : World) {g k : Nat} {c : Cm} (h : w.heap[g]? = some c.o) (hk : plI k) (lo hi : Int) :
    Calls Tryz.prog 123 #[numV g k lo hi] w fun e w' => e = .returned (.tuple #[]) ∧ w'.heap[g]? = some (c.setI k 0).o ∧ But g w w' := by
  have hg : g < w.heap.size := at_lt h
  have hc := cell_i h hk
  have hf : w.frozen? ⟨g, k, none⟩ = false := (cells_at h).2 k
  have hS := old_at (set_i h hk 0) (numO g k lo hi)
  have hB := ((But.refl g w).setCell k (.int .i64 0)).alloc (numO g k lo hi)
  have HH := hid h
  clear h
  go_enter Tryz.func123, Tryz.ntmps123
  go_wp2_with fail
  go_returns
  exact ⟨rfl, hS, hB⟩
theorem fld_is (w : World) {g k : Nat} {f : Fl} (h : w.cell? ⟨g, k, none⟩ = some (.int .i64 f.n)) (h' : w.cell? ⟨g, k + 1, none⟩ = some (.string f.s)) (hs : f.s.size ≤ maxLen) :
    Calls Tryz.prog 128 #[fldV g k] w fun e w' => e = .returned (.bool (isF f)) ∧ Below w.heap.size w w' := by
  have hg : g < w.heap.size := World.block_lt_of_cell? w _ h
  go_enter Tryz.func128, Tryz.ntmps128
  go_wp2_with fail
  refine (fields_isField _ f hs).mono ?_
  rintro x w2 ⟨rfl, hb⟩
  go_wp2_with fail
  go_ret
  exact ⟨rfl, below_on (below1 _ _) hb⟩
set_option maxHeartbeats 1000000 in
theorem fld_told (w : World) {g k : Nat} {f : Fl} (h : w.cell? ⟨g, k, none⟩ = some (.int .i64 f.n)) (h' : w.cell? ⟨g, k + 1, none⟩ = some (.string f.s)) (hs : f.s.size ≤ 1000000) (h0 : -9223372036854775808 ≤ f.n) (h1 : f.n ≤ 9223372036854775807) :
    Calls Tryz.prog 130 #[fldV g k] w fun e w' => e = .returned (.string ⟨(text f.s.data.toList ++ put (zig f.n)).toArray⟩) ∧ Below w.heap.size w w' := by
  have hg : g < w.heap.size := World.block_lt_of_cell? w _ h
  obtain ⟨T, hT⟩ : ∃ T, Hid (T = text f.s.data.toList) := ⟨_, rfl⟩
  obtain ⟨I, hI⟩ : ∃ I, Hid (I = put (zig f.n)) := ⟨_, rfl⟩
  have lT : T.length ≤ 1000010 := by
    rw [hT.out]; unfold text; have := (put_length f.s.data.toList.length).2; rw [List.length_append]; have e : f.s.data.toList.length ≤ 1000000 := hs; omega
  have lI : I.length ≤ 10 := by rw [hI.out]; exact (put_length _).2
  rw [← hT.out, ← hI.out]
  have K0 : Hid ((w.alloc (fldO g k)).heap[w.heap.size]? = some (fldO g k)) := new_at _ _ _ rfl
  have hB := below1 w (fldO g k)
  have n1 : (w.alloc (fldO g k)).cell? ⟨g, k, none⟩ = some (.int .i64 f.n) := cell_below hB h
  have n2 : (w.alloc (fldO g k)).cell? ⟨g, k + 1, none⟩ = some (.string f.s) := cell_below hB h'
  obtain ⟨W, hW⟩ : ∃ W, w.alloc (fldO g k) = W := ⟨_, rfl⟩
  have lw : w.heap.size < W.heap.size := by rw [← hW]; simp
  go_enter Tryz.func130, Tryz.ntmps130
  go_upto_region 1 with fail
  rw [hW] at K0 hB n1 n2
  clear hW h h'
  have c1 := cells_at K0.out
  have g1 := grown_cells K0.out
  have g2 : ∀ d os, (Sort.grow (redrawn W d) os).cell? ⟨g, k, none⟩ = some (.int .i64 f.n) := fun d os => cell_below (below_regrown W d os) n1
  have g3 : ∀ d os, (Sort.grow (redrawn W d) os).cell? ⟨g, k + 1, none⟩ = some (.string f.s) := fun d os => cell_below (below_regrown W d os) n2
  have C1 := fun w => text_at hT (by omega) w
  have C2 := fun w => int_at hI h0 h1 w
  refine wp_region_quiet_below (by kernel_rfl) (by kernel_rfl) ?_
  repeat (first | go_big_quiet_skip | (go_big_quiet_want; go_big_quiet_op; first | go_big_quiet_on | go_big_quiet_call (first | with_reducible exact Calls.regrown_of (C1 _) | with_reducible exact Calls.regrown_of (C2 _))))
  refine wpQuiet_nil ?_
  intro _ hw'
  obtain ⟨⟨dq, osq⟩, hw''⟩ := hw'
  subst hw''
  go_wp2_with fail
  go_ret
  exact ⟨congrArg (fun x => Ending.returned (.string x)) (ByteArray.mk_append_mk T I), below_on hB (below_regrown _ _ _)⟩
theorem fld_clear (w : World) {g k : Nat} {c : Cm} (h : w.heap[g]? = some c.o) (hk : atF k) :
    Calls Tryz.prog 127 #[fldV g k] w fun e w' => e = .returned (.tuple #[]) ∧ w'.heap[g]? = some (c.setF k zF).o ∧ But g w w' := by
  have hg : g < w.heap.size := at_lt h
  obtain ⟨hc, hc'⟩ := cell_f h hk
  have hf : w.frozen? ⟨g, k, none⟩ = false := (cells_at h).2 k
  have hf' : w.frozen? ⟨g, k + 1, none⟩ = false := (cells_at h).2 (k + 1)
  have hS := old_at (set_fC h hk zF) (fldO g k)
  have hB := (((But.refl g w).setCell k (.int .i64 0)).setCell (k + 1) (.string ⟨#[]⟩)).alloc (fldO g k)
  have HH := hid h
  clear h
  go_enter Tryz.func127, Tryz.ntmps127
  go_wp2_with fail
  go_returns
  exact ⟨rfl, hS, hB⟩
end
section
open Go.RowKit
set_option linter.unusedVariables false
theorem fin2i {a b a' b' : Int} (h1 : a = a') (h2 : b = b') : Ending.returned (.tuple #[.int .i64 a, .int .i64 b]) = .returned (.tuple #[.int .i64 a', .int .i64 b']) := by rw [h1, h2]
theorem numR_bad {c : Cm} {k : Nat} {lo hi : Int} {l : List UInt8} {n i e : Nat} {r : Cm × Nat × Nat} (hr : numR c k lo hi l = r) (hg : get l = (n, i, e)) (he : ¬ e = 0) : r = (c, 0, e) := by
  rw [← hr]; unfold numR; rw [hg]; simp only; rw [if_pos he]
theorem numR_form {c : Cm} {k : Nat} {lo hi : Int} {l : List UInt8} {n i : Nat} {z : Int} {r : Cm × Nat × Nat} (hr : numR c k lo hi l = r) (hg : get l = (n, i, 0)) (hz : zag n = z) (h : z < lo ∨ hi < z) : r = (c, 0, 11) := by
  rw [← hr]; unfold numR; rw [hg]; simp only; rw [hz, if_neg (by simp), if_pos h]
theorem numR_good {c : Cm} {k : Nat} {lo hi : Int} {l : List UInt8} {n i : Nat} {z : Int} {r : Cm × Nat × Nat} (hr : numR c k lo hi l = r) (hg : get l = (n, i, 0)) (hz : zag n = z) (h1 : ¬ z < lo) (h2 : ¬ hi < z) : r = (c.setI k z, i, 0) := by
  rw [← hr]; unfold numR; rw [hg]; simp only; rw [hz, if_neg (by simp), if_neg (by omega)]
set_option maxHeartbeats 1000000 in
theorem num_read {w : World} {g k : Nat} {c : Cm} (h : w.heap[g]? = some c.o) (hk : plI k) {lo hi : Int} {s : ByteArray} {r : Cm × Nat × Nat} (HR : Hid (numR c k lo hi s.data.toList = r)) (hs : s.size ≤ 1000000) :
    Calls Tryz.prog 125 #[numV g k lo hi, .string s] w fun e w' => e = .returned (.tuple #[.int .i64 r.2.1, .int .i64 r.2.2]) ∧ w'.heap[g]? = some r.1.o ∧ But g w w' := by
  have hg : g < w.heap.size := at_lt h
  have hc := cell_i h hk
  have hf : w.frozen? ⟨g, k, none⟩ = false := (cells_at h).2 k
  rcases hG : get s.data.toList with ⟨n, i, e⟩
  obtain ⟨h1, h2, h3, h4, h5⟩ := get_ok hG
  have h2 : i ≤ s.size := h2
  have HG : Hid (get s.data.toList = (n, i, e)) := hG
  obtain ⟨z, hz⟩ : ∃ z, Hid (zag n = z) := ⟨_, rfl⟩
  have hz1 : -9223372036854775808 ≤ z ∧ z ≤ 9223372036854775807 := by rw [← hz.out]; exact zag_le n h1
  have hS := old_at (set_i h hk z) (numO g k lo hi)
  have hO := old_at h (numO g k lo hi)
  have hB0 := (But.refl g w).alloc (numO g k lo hi)
  have hB := ((But.refl g w).setCell k (.int .i64 z)).alloc (numO g k lo hi)
  have HH := hid h
  clear h hG
  by_cases he : e = 0
  · subst he
    clear h4 h5
    by_cases hlo : z < lo
    · have hr := numR_form HR.out HG.out hz.out (.inl hlo)
      have d1 : decide (z < lo) = true := by simp [hlo]
      go_enter Tryz.func125, Tryz.ntmps125
      go_wp2_with fail
      refine (ints_at HG hz (by unfold maxLen; omega) _).mono ?_
      rintro x w2 ⟨rfl, rfl⟩
      go_wp2_with fail
      rw [hr]
      exact bodyPost_ret (v := .tuple #[.int .i64 0, .int .i64 11]) (by simp [results, Tryz.results125, go_sem]) rfl ⟨rfl, hO, hB0⟩
    · by_cases hhi : hi < z
      · have hr := numR_form HR.out HG.out hz.out (.inr hhi)
        have d1 : decide (z < lo) = false := by simp [hlo]
        have d2 : decide (hi < z) = true := by simp [hhi]
        go_enter Tryz.func125, Tryz.ntmps125
        go_wp2_with fail
        refine (ints_at HG hz (by unfold maxLen; omega) _).mono ?_
        rintro x w2 ⟨rfl, rfl⟩
        go_wp2_with fail
        rw [hr]
        exact bodyPost_ret (v := .tuple #[.int .i64 0, .int .i64 11]) (by simp [results, Tryz.results125, go_sem]) rfl ⟨rfl, hO, hB0⟩
      · have hr := numR_good HR.out HG.out hz.out hlo hhi
        have d1 : decide (z < lo) = false := by simp [hlo]
        have d2 : decide (hi < z) = false := by simp [hhi]
        go_enter Tryz.func125, Tryz.ntmps125
        go_wp2_with fail
        refine (ints_at HG hz (by unfold maxLen; omega) _).mono ?_
        rintro x w2 ⟨rfl, rfl⟩
        go_wp2_with fail
        rw [hr]
        exact bodyPost_ret (v := .tuple #[.int .i64 i, .int .i64 0]) (by simp [results, Tryz.results125, go_sem]) rfl ⟨rfl, hS, hB⟩
  · have hr := numR_bad HR.out HG.out he
    have q1 : ((e : Int) == 0) = false := by simpa using he
    have q2 : ((e : Int) != 0) = true := by simpa using he
    clear h4 h5 he
    go_enter Tryz.func125, Tryz.ntmps125
    go_wp2_with fail
    refine (ints_at HG hz (by unfold maxLen; omega) _).mono ?_
    rintro x w2 ⟨rfl, rfl⟩
    go_wp2_with fail
    rw [hr]
    exact bodyPost_ret (v := .tuple #[.int .i64 0, .int .i64 e]) (by simp [results, Tryz.results125, go_sem]) rfl ⟨rfl, hO, hB0⟩
theorem fldR_bad {c : Cm} {k : Nat} {l u : List UInt8} {i e : Nat} {r : Cm × Nat × Nat} (hr : fldR c k l = r) (ht : texts l 12 = (u, i, e)) (he : ¬ e = 0) : r = (c, 0, e) := by
  rw [← hr]; unfold fldR; rw [ht]; simp only; rw [if_pos he]
theorem fldR_bad2 {c : Cm} {k : Nat} {l u : List UInt8} {i n j e : Nat} {r : Cm × Nat × Nat} (hr : fldR c k l = r) (ht : texts l 12 = (u, i, 0)) (hg : get (l.drop i) = (n, j, e)) (he : ¬ e = 0) : r = (c, 0, e) := by
  rw [← hr]; unfold fldR; rw [ht]; simp only; rw [hg]; simp only; rw [if_neg (by simp), if_pos he]
theorem fldR_form {c : Cm} {k : Nat} {l u : List UInt8} {i n j : Nat} {f : Fl} {r : Cm × Nat × Nat} (hr : fldR c k l = r) (ht : texts l 12 = (u, i, 0)) (hg : get (l.drop i) = (n, j, 0)) (hf : ⟨zag n, ⟨u.toArray⟩⟩ = f) (he : isF f = false) : r = (c, 0, 11) := by
  rw [← hr]; unfold fldR; rw [ht]; simp only; rw [hg]; simp only; rw [if_neg (by simp), if_neg (by simp), hf, if_pos he]
theorem fldR_good {c : Cm} {k : Nat} {l u : List UInt8} {i n j : Nat} {f : Fl} {r : Cm × Nat × Nat} (hr : fldR c k l = r) (ht : texts l 12 = (u, i, 0)) (hg : get (l.drop i) = (n, j, 0)) (hf : ⟨zag n, ⟨u.toArray⟩⟩ = f) (he : isF f = true) : r = (c.setF k f, i + j, 0) := by
  rw [← hr]; unfold fldR; rw [ht]; simp only; rw [hg]; simp only; rw [if_neg (by simp), if_neg (by simp), hf, if_neg (by simp [he])]
theorem isFl_at {f : Fl} {q : Bool} (h : isF f = q) (hs : f.s.size ≤ maxLen) (w : World) : Calls Tryz.prog 79 #[f.v] w fun e w' => e = .returned (.bool q) ∧ Below w.heap.size w w' := by
  rw [← h]; exact fields_isField w f hs
set_option maxHeartbeats 1000000 in
theorem fld_read {w : World} {g k : Nat} {c : Cm} (h : w.heap[g]? = some c.o) (hk : atF k) {s : ByteArray} {r : Cm × Nat × Nat} (HR : Hid (fldR c k s.data.toList = r)) (hs : s.size ≤ 1000000) :
    Calls Tryz.prog 129 #[fldV g k, .string s] w fun e w' => e = .returned (.tuple #[.int .i64 r.2.1, .int .i64 r.2.2]) ∧ w'.heap[g]? = some r.1.o ∧ But g w w' := by
  have hg : g < w.heap.size := at_lt h
  rcases hT : texts s.data.toList 12 with ⟨u, i, e⟩
  obtain ⟨t1, t2, t3, t4, t5⟩ := texts_ok hT
  have t2 : i ≤ s.size := t2
  obtain ⟨U, hU⟩ : ∃ U : ByteArray, U = ⟨u.toArray⟩ := ⟨_, rfl⟩
  have sU : U.size ≤ 12 := by rw [hU]; exact t1
  have HT : Hid (texts s.data.toList 12 = (U.data.toList, i, e)) := by rw [hU]; exact hT
  have HT' := hid hT
  rcases hG : get (s.data.toList.drop i) with ⟨n, j, e2⟩
  obtain ⟨h1, h2, h3, h4, h5⟩ := get_ok hG
  rw [List.length_drop] at h2
  have h2 : j ≤ s.size - i := h2
  have HG := hid hG
  have HG2 : Hid (get (s.extract i s.size).data.toList = (n, j, e2)) := by rw [cut_data]; exact hG
  obtain ⟨z, hz⟩ : ∃ z, Hid (zag n = z) := ⟨_, rfl⟩
  have hff : (⟨zag n, ⟨u.toArray⟩⟩ : Fl) = ⟨z, U⟩ := by rw [hz.out, hU]
  have HF := hid hff
  have K0 : Hid ((w.alloc (fldO g k)).heap[w.heap.size]? = some (fldO g k)) := new_at _ _ _ rfl
  have H0 := hid (old_at h (fldO g k))
  have B0 := hid ((But.refl g w).alloc (fldO g k))
  have HH := hid h
  clear h hT hG hU hff t1
  by_cases he : e = 0
  · subst he
    clear t4 t5
    go_enter Tryz.func129, Tryz.ntmps129
    go_wp2_with fail
    refine (texts_at HT (by omega) (by omega) (by omega) _).mono ?_
    rintro y w1 ⟨rfl, hb⟩
    have k1 := hid (var_on hb K0.out (at_lt K0.out))
    have H1 := hid (var_on hb H0.out (at_lt H0.out))
    have B1 := hid (B0.out.trans (.of_below hb g))
    have l1 := at_lt k1.out
    clear K0 H0 B0 hb
    go_wp2_with fail
    refine (ints_at HG2 hz (by rw [ByteArray.size_extract]; unfold maxLen; omega) _).mono ?_
    rintro y w2 ⟨rfl, rfl⟩
    by_cases hx : e2 = 0
    · subst hx
      clear h4 h5
      obtain ⟨q, hq⟩ : ∃ q, Hid (isF ⟨z, U⟩ = q) := ⟨_, rfl⟩
      go_wp2_with fail
      refine (isFl_at hq.out (by unfold maxLen; show U.size ≤ _; omega) _).mono ?_
      rintro y w3 ⟨rfl, hb⟩
      have k2 := hid (var_on hb (old_at k1.out _) (at_lt (old_at k1.out _)))
      have H2 := hid (var_on hb (old_at H1.out _) (at_lt (old_at H1.out _)))
      have F2 := hid (var_on (o := Fl.o ⟨z, U⟩) (g := w2.heap.size) hb (new_at _ _ _ rfl) (by simp))
      have B2 := hid ((B1.out.alloc _).trans (.of_below hb g))
      cases q
      · have hr := fldR_form HR.out HT'.out HG.out HF.out hq.out
        clear k1 H1 B1 hb
        go_wp2_with fail
        rw [hr]
        exact bodyPost_ret (v := .tuple #[.int .i64 0, .int .i64 11]) (by simp [results, Tryz.results129, go_sem]) rfl ⟨rfl, H2.out, B2.out⟩
      · have hr := fldR_good HR.out HT'.out HG.out HF.out hq.out
        clear k1 H1 B1 hb
        have c2 := cells_at k2.out
        have c3 := cells_at F2.out
        obtain ⟨n1, n2⟩ := cell_f H2.out hk
        have m1 : w3.frozen? ⟨g, k, none⟩ = false := (cells_at H2.out).2 k
        have m2 : w3.frozen? ⟨g, k + 1, none⟩ = false := (cells_at H2.out).2 (k + 1)
        have hS := set_fC H2.out hk ⟨z, U⟩
        have hB := (B2.out.setCell k (.int .i64 z)).setCell (k + 1) (.string U)
        go_wp2_with fail
        rw [hr]
        exact bodyPost_ret (v := .tuple #[.int .i64 ((i : Int) + j), .int .i64 0]) (by simp [results, Tryz.results129, go_sem]) rfl ⟨by simp, hS, hB⟩
    · have hr := fldR_bad2 HR.out HT'.out HG.out hx
      have q1 : ((e2 : Int) != 0) = true := by simpa using hx
      clear h4 h5 hx
      go_wp2_with fail
      rw [hr]
      exact bodyPost_ret (v := .tuple #[.int .i64 0, .int .i64 e2]) (by simp [results, Tryz.results129, go_sem]) rfl ⟨rfl, H1.out, B1.out⟩
  · have hr := fldR_bad HR.out HT'.out he
    have q1 : ((e : Int) != 0) = true := by simpa using he
    clear t4 t5 he
    go_enter Tryz.func129, Tryz.ntmps129
    go_wp2_with fail
    refine (texts_at HT (by omega) (by omega) (by omega) _).mono ?_
    rintro y w1 ⟨rfl, hb⟩
    have H1 := hid (var_on hb H0.out (at_lt H0.out))
    have B1 := hid (B0.out.trans (.of_below hb g))
    clear K0 H0 B0 hb
    go_wp2_with fail
    rw [hr]
    exact bodyPost_ret (v := .tuple #[.int .i64 0, .int .i64 e]) (by simp [results, Tryz.results129, go_sem]) rfl ⟨rfl, H1.out, B1.out⟩
end
end Go.Proofs.YtpedngbjpbeanaaGreatDoor
