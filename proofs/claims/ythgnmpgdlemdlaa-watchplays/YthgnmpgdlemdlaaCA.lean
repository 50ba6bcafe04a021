/- Commands: their cells, their parts; contracts of the parts of the package cmd. -/
import Derived.Test.YthgnmpgdlemdlaaFA
import Derived.WalkKit
import Derived.WalkSpells
import Derived.WalkLawsBesides
import Derived.Handy
import Derived.BigQuiet
import Derived.Lib.QuietBelow
import Derived.Deep.CutBlock
namespace Go.Proofs.Ythgnmpgdlemdlaa
section
open Go.RowKit
set_option linter.unusedVariables false
theorem eqF_iff {a b : Fl} : eqF a b = true ↔ a = b := by
  obtain ⟨n, s⟩ := a
  obtain ⟨m, t⟩ := b
  simp [eqF]
abbrev Fl.o (f : Fl) : Obj := .cells #[.int .i64 f.n, .string f.s] 38 (0, 0)
def zF : Fl := ⟨0, ⟨#[]⟩⟩
def Th.f (t : Th) : Nat → Fl
  | 0 => t.f0
  | 1 => t.f1
  | 2 => t.f2
  | _ => t.f3
def Dl.f (t : Dl) : Nat → Fl
  | 0 => t.f0
  | 1 => t.f1
  | 2 => t.f2
  | _ => t.f3
end
section
open Go.RowKit
set_option linter.unusedVariables false
structure Cm where
  kd : Int
  id : Int
  wh : Int
  tt : Int
  x : Int
  y : Int
  f0 : Fl
  f1 : Fl
  f2 : Fl
  f3 : Fl
  va : Fl
  cl : Int
  se : Int
  r0 : Int
  r1 : Int
  r2 : Int
  r3 : Int
abbrev Cm.v (c : Cm) : Value := .agg #[.int .i64 c.kd, .int .i64 c.id, .int .i64 c.wh, .int .i64 c.tt, .int .i64 c.x, .int .i64 c.y, .int .i64 c.f0.n, .string c.f0.s, .int .i64 c.f1.n, .string c.f1.s, .int .i64 c.f2.n, .string c.f2.s, .int .i64 c.f3.n, .string c.f3.s, .int .i64 c.va.n, .string c.va.s, .int .i64 c.cl, .int .i64 c.se, .int .i64 c.r0, .int .i64 c.r1, .int .i64 c.r2, .int .i64 c.r3]
abbrev Cm.o (c : Cm) : Obj := .cells #[.int .i64 c.kd, .int .i64 c.id, .int .i64 c.wh, .int .i64 c.tt, .int .i64 c.x, .int .i64 c.y, .int .i64 c.f0.n, .string c.f0.s, .int .i64 c.f1.n, .string c.f1.s, .int .i64 c.f2.n, .string c.f2.s, .int .i64 c.f3.n, .string c.f3.s, .int .i64 c.va.n, .string c.va.s, .int .i64 c.cl, .int .i64 c.se, .int .i64 c.r0, .int .i64 c.r1, .int .i64 c.r2, .int .i64 c.r3] 41 (0, 0)
def zC : Cm := ⟨0, 0, 0, 0, 0, 0, zF, zF, zF, zF, zF, 0, 0, 0, 0, 0, 0⟩
def Cm.i (c : Cm) : Nat → Int
  | 0 => c.kd
  | 1 => c.id
  | 2 => c.wh
  | 3 => c.tt
  | 4 => c.x
  | 5 => c.y
  | 16 => c.cl
  | 17 => c.se
  | 18 => c.r0
  | 19 => c.r1
  | 20 => c.r2
  | _ => c.r3
def Cm.f (c : Cm) : Nat → Fl
  | 6 => c.f0
  | 8 => c.f1
  | 10 => c.f2
  | 12 => c.f3
  | _ => c.va
def Cm.setI (c : Cm) (k : Nat) (z : Int) : Cm := match k with
  | 0 => { c with kd := z }
  | 1 => { c with id := z }
  | 2 => { c with wh := z }
  | 3 => { c with tt := z }
  | 4 => { c with x := z }
  | 5 => { c with y := z }
  | 16 => { c with cl := z }
  | 17 => { c with se := z }
  | 18 => { c with r0 := z }
  | 19 => { c with r1 := z }
  | 20 => { c with r2 := z }
  | _ => { c with r3 := z }
def Cm.setF (c : Cm) (k : Nat) (f : Fl) : Cm := match k with
  | 6 => { c with f0 := f }
  | 8 => { c with f1 := f }
  | 10 => { c with f2 := f }
  | 12 => { c with f3 := f }
  | _ => { c with va := f }
def plI (k : Nat) : Prop := k = 0 ∨ k = 1 ∨ k = 2 ∨ k = 3 ∨ k = 4 ∨ k = 5 ∨ k = 16 ∨ k = 17 ∨ k = 18 ∨ k = 19 ∨ k = 20 ∨ k = 21
def atF (k : Nat) : Prop := k = 6 ∨ k = 8 ∨ k = 10 ∨ k = 12 ∨ k = 14
theorem cell_i {W : World} {g k : Nat} {c : Cm} (h : W.heap[g]? = some c.o) (hk : plI k) : W.cell? ⟨g, k, none⟩ = some (.int .i64 (c.i k)) := by
  rw [Go.Joins.cell_of_block h]
  rcases hk with rfl | rfl | rfl | rfl | rfl | rfl | rfl | rfl | rfl | rfl | rfl | rfl <;> rfl
theorem cell_f {W : World} {g k : Nat} {c : Cm} (h : W.heap[g]? = some c.o) (hk : atF k) : W.cell? ⟨g, k, none⟩ = some (.int .i64 (c.f k).n) ∧ W.cell? ⟨g, k + 1, none⟩ = some (.string (c.f k).s) := by
  rw [Go.Joins.cell_of_block h, Go.Joins.cell_of_block h]
  rcases hk with rfl | rfl | rfl | rfl | rfl <;> exact ⟨rfl, rfl⟩
theorem set_i {W : World} {g k : Nat} {c : Cm} (h : W.heap[g]? = some c.o) (hk : plI k) (z : Int) : (W.setCell ⟨g, k, none⟩ (.int .i64 z)).heap[g]? = some (c.setI k z).o := by
  refine set_at h _ ?_
  rcases hk with rfl | rfl | rfl | rfl | rfl | rfl | rfl | rfl | rfl | rfl | rfl | rfl <;> rfl
theorem set_f {W : World} {g k : Nat} {c : Cm} (h : W.heap[g]? = some c.o) (hk : atF k) (f : Fl) : ((W.setCell ⟨g, k, none⟩ (.int .i64 f.n)).setCell ⟨g, k + 1, none⟩ (.string f.s)).heap[g]? = some (c.setF k f).o := by
  refine set_at (set_at h _ rfl) _ ?_
  rcases hk with rfl | rfl | rfl | rfl | rfl <;> rfl
/-- a part of a command, at its place there -/
abbrev Pa := (Nat × Int × Int) ⊕ Nat
abbrev Pa.num (k : Nat) (lo hi : Int) : Pa := Sum.inl (k, lo, hi)
abbrev Pa.fld (k : Nat) : Pa := Sum.inr k
def Pa.v (g : Nat) : Pa → Value
  | Sum.inl (k, lo, hi) => .iface 73 (.agg #[.pointer (some ⟨g, k, none⟩), .int .i64 lo, .int .i64 hi])
  | Sum.inr k => .iface 79 (.agg #[.pointer (some ⟨g, k, none⟩)])
def Pa.ok : Pa → Prop
  | Sum.inl (k, lo, hi) => plI k ∧ -1000000 ≤ lo ∧ lo ≤ 1000000 ∧ -1000000 ≤ hi ∧ hi ≤ 1000000
  | Sum.inr k => atF k
def headP : List Pa := [.num 0 1 8, .num 16 0 3, .num 17 0 1000000]
def ptP : List Pa := [.num 4 (-1000) 1000, .num 5 (-1000) 1000]
def rectP : List Pa := [.num 18 (-1000) 1000, .num 19 (-1000) 1000, .num 20 (-1000) 1000, .num 21 (-1000) 1000]
def restP (kd : Int) : List Pa :=
  if kd = 1 then [.num 4 (-1000) 1000, .num 5 (-1000) 1000, .fld 6, .fld 8, .fld 10, .fld 12]
  else if kd = 2 then [.num 4 (-1000) 1000, .num 5 (-1000) 1000, .num 1 0 1000000]
  else if kd = 3 then [.num 1 0 1000000, .num 2 (-1) 100, .fld 14]
  else if kd = 4 then [.num 1 0 1000000]
  else if kd = 5 then [.num 2 (-1) 100, .num 3 (-1) 100]
  else if kd = 6 ∨ kd = 7 then [.num 18 (-1000) 1000, .num 19 (-1000) 1000, .num 20 (-1000) 1000, .num 21 (-1000) 1000]
  else []
def partsP (kd : Int) : List Pa := headP ++ restP kd
theorem head_ok : ∀ p ∈ headP, p.ok := by
  intro p hp
  simp only [headP, List.mem_cons, List.not_mem_nil, or_false] at hp
  rcases hp with rfl | rfl | rfl <;> simp [Pa.ok, plI]
theorem rest_cases {P : List Pa → Prop} (h1 : P [.num 4 (-1000) 1000, .num 5 (-1000) 1000, .fld 6, .fld 8, .fld 10, .fld 12]) (h2 : P [.num 4 (-1000) 1000, .num 5 (-1000) 1000, .num 1 0 1000000]) (h3 : P [.num 1 0 1000000, .num 2 (-1) 100, .fld 14])
    (h4 : P [.num 1 0 1000000]) (h5 : P [.num 2 (-1) 100, .num 3 (-1) 100]) (h6 : P [.num 18 (-1000) 1000, .num 19 (-1000) 1000, .num 20 (-1000) 1000, .num 21 (-1000) 1000]) (h7 : P []) (kd : Int) : P (restP kd) := by
  unfold restP
  repeat' split
  all_goals assumption
theorem rest_ok (kd : Int) : ∀ p ∈ restP kd, p.ok := by
  refine rest_cases (P := fun l => ∀ p ∈ l, p.ok) ?_ ?_ ?_ ?_ ?_ ?_ ?_ kd
  all_goals
    intro p hp
    simp only [List.mem_cons, List.not_mem_nil, or_false] at hp
  · rcases hp with rfl | rfl | rfl | rfl | rfl | rfl <;> simp [Pa.ok, plI, atF]
  · rcases hp with rfl | rfl | rfl <;> simp [Pa.ok, plI]
  · rcases hp with rfl | rfl | rfl <;> simp [Pa.ok, plI, atF]
  · subst hp; simp [Pa.ok, plI]
  · rcases hp with rfl | rfl <;> simp [Pa.ok, plI]
  · rcases hp with rfl | rfl | rfl | rfl <;> simp [Pa.ok, plI]
theorem rest_len (kd : Int) : (restP kd).length ≤ 6 := by
  refine rest_cases (P := fun l => l.length ≤ 6) ?_ ?_ ?_ ?_ ?_ ?_ ?_ kd <;> simp
theorem parts_ok (kd : Int) : ∀ p ∈ partsP kd, p.ok := by
  intro p hp
  unfold partsP at hp
  rcases List.mem_append.1 hp with h | h
  · exact head_ok p h
  · exact rest_ok kd p h
theorem parts_len (kd : Int) : (partsP kd).length ≤ 9 := by
  have := rest_len kd
  unfold partsP
  rw [List.length_append]
  have e : headP.length = 3 := rfl
  omega
def Pa.is (c : Cm) : Pa → Bool
  | Sum.inl (k, lo, hi) => decide (lo ≤ c.i k) && decide (c.i k ≤ hi)
  | Sum.inr k => isF (c.f k)
def Pa.clr (c : Cm) : Pa → Cm
  | Sum.inl (k, _, _) => c.setI k 0
  | Sum.inr k => c.setF k zF
def isL : List Pa → Cm → Bool
  | [], c => true
  | p :: l, c => p.is c && isL l (p.clr c)
def clrL : List Pa → Cm → Cm
  | [], c => c
  | p :: l, c => clrL l (p.clr c)
def eqC (a b : Cm) : Bool := a.kd == b.kd && (a.id == b.id && (a.wh == b.wh && (a.tt == b.tt && (pEq a.x a.y b.x b.y && ((eqF a.f0 b.f0 && (eqF a.f1 b.f1 && (eqF a.f2 b.f2 && eqF a.f3 b.f3))) && (eqF a.va b.va && (a.cl == b.cl && (a.se == b.se && eqB ⟨a.r0, a.r1, a.r2, a.r3⟩ ⟨b.r0, b.r1, b.r2, b.r3⟩))))))))
theorem eqC_iff {a b : Cm} : eqC a b = true ↔ a = b := by
  obtain ⟨a0, a1, a2, a3, a4, a5, a6, a7, a8, a9, a10, a11, a12, a13, a14, a15, a16⟩ := a
  obtain ⟨b0, b1, b2, b3, b4, b5, b6, b7, b8, b9, b10, b11, b12, b13, b14, b15, b16⟩ := b
  simp only [eqC, eqB, pEq, Bool.and_eq_true, beq_iff_eq, eqF_iff, Cm.mk.injEq]
  constructor
  · rintro ⟨h0, h1, h2, h3, ⟨h4, h5⟩, ⟨h6, h7, h8, h9⟩, h10, h11, h12, h13, h14, h15, h16⟩
    exact ⟨h0, h1, h2, h3, h4, h5, h6, h7, h8, h9, h10, h11, h12, h13, h14, h15, h16⟩
  · rintro ⟨h0, h1, h2, h3, h4, h5, h6, h7, h8, h9, h10, h11, h12, h13, h14, h15, h16⟩
    exact ⟨h0, h1, h2, h3, ⟨h4, h5⟩, ⟨h6, h7, h8, h9⟩, h10, h11, h12, h13, h14, h15, h16⟩
theorem eqC_no {a b : Cm} : eqC a b = false ↔ ¬ a = b := by rw [← eqC_iff]; simp
theorem eqC_self (a : Cm) : eqC a a = true := eqC_iff.2 rfl
/- who is a command -/
def isCm (c : Cm) : Bool := isL (partsP c.kd) c && eqC (clrL (partsP c.kd) c) zC
end
section
open Go.RowKit
set_option linter.unusedVariables false
abbrev numV (g k : Nat) (lo hi : Int) : Value := .agg #[.pointer (some ⟨g, k, none⟩), .int .i64 lo, .int .i64 hi]
abbrev fldV (g k : Nat) : Value := .agg #[.pointer (some ⟨g, k, none⟩)]
abbrev numO (g k : Nat) (lo hi : Int) : Obj := .cells #[.pointer (some ⟨g, k, none⟩), .int .i64 lo, .int .i64 hi] 73 (0, 0)
abbrev fldO (g k : Nat) : Obj := .cells #[.pointer (some ⟨g, k, none⟩)] 79 (0, 0)
set_option maxHeartbeats 400000 in
theorem num_is (w : World) {g k : Nat} {n : Int} (h : w.cell? ⟨g, k, none⟩ = some (.int .i64 n)) (lo hi : Int) :
    Calls Try.prog 57 #[numV g k lo hi] w fun e w' => e = .returned (.bool (decide (lo ≤ n) && decide (n ≤ hi))) ∧ Below w.heap.size w w' := by
  have hg : g < w.heap.size := World.block_lt_of_cell? w _ h
  by_cases h1 : lo ≤ n <;> by_cases h2 : n ≤ hi
  · have d1 : decide (lo ≤ n) = true := by simp [h1]
    have d2 : decide (n ≤ hi) = true := by simp [h2]
    go_enter Try.func57, Try.ntmps57
    go_wp2_with fail
    go_quiet (fail)
    go_wp2_with fail
    go_ret
    exact ⟨by simp [d1, d2], below_drewN (below1 _ _) _⟩
  · have d1 : decide (lo ≤ n) = true := by simp [h1]
    have d2 : decide (n ≤ hi) = false := by simp [h2]
    go_enter Try.func57, Try.ntmps57
    go_wp2_with fail
    go_quiet (fail)
    go_wp2_with fail
    go_ret
    exact ⟨by simp [d1, d2], below_drewN (below1 _ _) _⟩
  all_goals
    have d1 : decide (lo ≤ n) = false := by simp [h1]
    go_enter Try.func57, Try.ntmps57
    go_wp2_with fail
    go_quiet (fail)
    go_wp2_with fail
    go_ret
    exact ⟨by simp [d1], below_drewN (below1 _ _) _⟩
theorem num_clear (w : World) {g k : Nat} {c : Cm} (h : w.heap[g]? = some c.o) (hk : plI k) (lo hi : Int) :
    Calls Try.prog 56 #[numV g k lo hi] w fun e w' => e = .returned (.tuple #[]) ∧ w'.heap[g]? = some (c.setI k 0).o ∧ But g w w' := by
  have hg : g < w.heap.size := at_lt h
  have hc := cell_i h hk
  have hf : w.frozen? ⟨g, k, none⟩ = false := (cells_at h).2 k
  have hS := old_at (set_i h hk 0) (numO g k lo hi)
  have hB := ((But.refl g w).setCell k (.int .i64 0)).alloc (numO g k lo hi)
  have HH := hid h
  clear h
  go_enter Try.func56, Try.ntmps56
  go_wp2_with fail
  go_returns
  exact ⟨rfl, hS, hB⟩
theorem fld_is (w : World) {g k : Nat} {f : Fl} (h : w.cell? ⟨g, k, none⟩ = some (.int .i64 f.n)) (h' : w.cell? ⟨g, k + 1, none⟩ = some (.string f.s)) (hs : f.s.size ≤ maxLen) :
    Calls Try.prog 61 #[fldV g k] w fun e w' => e = .returned (.bool (isF f)) ∧ Below w.heap.size w w' := by
  have hg : g < w.heap.size := World.block_lt_of_cell? w _ h
  go_enter Try.func61, Try.ntmps61
  go_wp2_with fail
  refine (fields_isField _ f hs).mono ?_
  rintro x w2 ⟨rfl, hb⟩
  go_wp2_with fail
  go_ret
  exact ⟨rfl, below_on (below1 _ _) hb⟩
theorem fld_clear (w : World) {g k : Nat} {c : Cm} (h : w.heap[g]? = some c.o) (hk : atF k) :
    Calls Try.prog 60 #[fldV g k] w fun e w' => e = .returned (.tuple #[]) ∧ w'.heap[g]? = some (c.setF k zF).o ∧ But g w w' := by
  have hg : g < w.heap.size := at_lt h
  obtain ⟨hc, hc'⟩ := cell_f h hk
  have hf : w.frozen? ⟨g, k, none⟩ = false := (cells_at h).2 k
  have hf' : w.frozen? ⟨g, k + 1, none⟩ = false := (cells_at h).2 (k + 1)
  have hS := old_at (set_f h hk zF) (fldO g k)
  have hB := (((But.refl g w).setCell k (.int .i64 0)).setCell (k + 1) (.string ⟨#[]⟩)).alloc (fldO g k)
  have HH := hid h
  clear h
  go_enter Try.func60, Try.ntmps60
  go_wp2_with fail
  go_returns
  exact ⟨rfl, hS, hB⟩
end
end Go.Proofs.Ythgnmpgdlemdlaa
