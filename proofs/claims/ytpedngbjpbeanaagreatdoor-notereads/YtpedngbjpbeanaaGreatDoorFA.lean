/- Fields, things, deltas: plain; contracts of small functions of fields and of the reference. -/
import Derived.Test.YtpedngbjpbeanaaGreatDoorPA
import Derived.Test.YtpedngbjpbeanaaGreatDoorGA
import Derived.Test.YtpedngbjpbeanaaGreatDoorMA
namespace Go.Proofs.YtpedngbjpbeanaaGreatDoor
section
open Go.RowKit
set_option linter.unusedVariables false
structure Fl where
  n : Int
  s : ByteArray
structure Th where
  id : Int
  x : Int
  y : Int
  f0 : Fl
  f1 : Fl
  f2 : Fl
  f3 : Fl
structure Dl where
  id : Int
  m : Nat
  x : Int
  y : Int
  f0 : Fl
  f1 : Fl
  f2 : Fl
  f3 : Fl
def eqF (a b : Fl) : Bool := a.n == b.n && decide (a.s = b.s)
def eqT (a b : Th) : Bool := a.id == b.id && (a.x == b.x && (a.y == b.y && (eqF a.f0 b.f0 && (eqF a.f1 b.f1 && (eqF a.f2 b.f2 && eqF a.f3 b.f3)))))
def eqD (a b : Dl) : Bool := a.id == b.id && (a.m == b.m && (a.x == b.x && (a.y == b.y && (eqF a.f0 b.f0 && (eqF a.f1 b.f1 && (eqF a.f2 b.f2 && eqF a.f3 b.f3))))))
theorem eqF_iff {a b : Fl} : eqF a b = true ↔ a = b := by
  obtain ⟨n, s⟩ := a
  obtain ⟨m, t⟩ := b
  simp [eqF]
theorem eqF_no {a b : Fl} : eqF a b = false ↔ ¬ a = b := by rw [← eqF_iff]; simp
theorem eqT_iff {a b : Th} : eqT a b = true ↔ a = b := by
  obtain ⟨a0, a1, a2, a3, a4, a5, a6⟩ := a
  obtain ⟨b0, b1, b2, b3, b4, b5, b6⟩ := b
  simp [eqT, eqF_iff]
theorem eqD_iff {a b : Dl} : eqD a b = true ↔ a = b := by
  obtain ⟨a0, a1, a2, a3, a4, a5, a6, a7⟩ := a
  obtain ⟨b0, b1, b2, b3, b4, b5, b6, b7⟩ := b
  simp [eqD, eqF_iff]
theorem eqT_no {a b : Th} : eqT a b = false ↔ ¬ a = b := by rw [← eqT_iff]; simp
theorem eqD_no {a b : Dl} : eqD a b = false ↔ ¬ a = b := by rw [← eqD_iff]; simp
theorem eqF_self (a : Fl) : eqF a a = true := eqF_iff.2 rfl
theorem eqT_self (a : Th) : eqT a a = true := eqT_iff.2 rfl
theorem eqD_self (a : Dl) : eqD a a = true := eqD_iff.2 rfl
abbrev Fl.v (f : Fl) : Value := .agg #[.int .i64 f.n, .string f.s]
abbrev Th.v (t : Th) : Value := .agg #[.int .i64 t.id, .int .i64 t.x, .int .i64 t.y, .int .i64 t.f0.n, .string t.f0.s, .int .i64 t.f1.n, .string t.f1.s, .int .i64 t.f2.n, .string t.f2.s, .int .i64 t.f3.n, .string t.f3.s]
abbrev Dl.v (t : Dl) : Value := .agg #[.int .i64 t.id, .int .u8 t.m, .int .i64 t.x, .int .i64 t.y, .int .i64 t.f0.n, .string t.f0.s, .int .i64 t.f1.n, .string t.f1.s, .int .i64 t.f2.n, .string t.f2.s, .int .i64 t.f3.n, .string t.f3.s]
abbrev Fl.o (f : Fl) : Obj := .cells #[.int .i64 f.n, .string f.s] 47 (0, 0)
abbrev Th.o (t : Th) : Obj := .cells #[.int .i64 t.id, .int .i64 t.x, .int .i64 t.y, .int .i64 t.f0.n, .string t.f0.s, .int .i64 t.f1.n, .string t.f1.s, .int .i64 t.f2.n, .string t.f2.s, .int .i64 t.f3.n, .string t.f3.s] 50 (0, 0)
abbrev Dl.o (t : Dl) : Obj := .cells #[.int .i64 t.id, .int .u8 t.m, .int .i64 t.x, .int .i64 t.y, .int .i64 t.f0.n, .string t.f0.s, .int .i64 t.f1.n, .string t.f1.s, .int .i64 t.f2.n, .string t.f2.s, .int .i64 t.f3.n, .string t.f3.s] 123 (0, 0)
def zF : Fl := ⟨0, ⟨#[]⟩⟩
def zD : Dl := ⟨0, 0, 0, 0, zF, zF, zF, zF⟩
def pEq (a0 a1 b0 b1 : Int) : Bool := a0 == b0 && a1 == b1
def isF (f : Fl) : Bool := (f.n == 0 || decide (f.s.toList = [])) && decide (f.s.size ≤ 12)
def Th.f (t : Th) : Nat → Fl
  | 0 => t.f0
  | 1 => t.f1
  | 2 => t.f2
  | _ => t.f3
def Dl.f (t : Dl) : Nat → Fl
  | 0 => t.f0
  | 1 => t.f1
  | 2 => t.f2
  | _ => t.f3
def Dl.set (d : Dl) (k : Nat) (f : Fl) : Dl := match k with
  | 0 => { d with f0 := f }
  | 1 => { d with f1 := f }
  | 2 => { d with f2 := f }
  | _ => { d with f3 := f }
def Th.set (d : Th) (k : Nat) (f : Fl) : Th := match k with
  | 0 => { d with f0 := f }
  | 1 => { d with f1 := f }
  | 2 => { d with f2 := f }
  | _ => { d with f3 := f }
/- what changed, up to field k -/
def dK (a b : Th) : Nat → Dl
  | 0 => if pEq a.x a.y b.x b.y then ⟨b.id, 0, 0, 0, zF, zF, zF, zF⟩ else ⟨b.id, 1, b.x, b.y, zF, zF, zF, zF⟩
  | k + 1 => if eqF (a.f k) (b.f k) = true then dK a b k else { (dK a b k).set k (b.f k) with m := (dK a b k).m ||| 2 ^ (k + 1) }
def diff (a b : Th) : Dl × Bool := if (dK a b 4).m = 0 then (zD, false) else (dK a b 4, true)
/- what it makes, up to field k -/
def aK (t : Th) (d : Dl) : Nat → Th
  | 0 => if d.m.testBit 0 then { t with x := d.x, y := d.y } else t
  | k + 1 => if d.m.testBit (k + 1) then (aK t d k).set k (d.f k) else aK t d k
def apply (t : Th) (d : Dl) : Th := aK t d 4
def isD (d : Dl) : Bool := decide (0 ≤ d.id) && decide (d.id ≤ 1000000) && decide (1 ≤ d.m) && decide (d.m ≤ 31) && onB d.x d.y && (d.m.testBit 0 || pEq d.x d.y 0 0) &&
  (List.range 4).all fun k => isF (d.f k) && (d.m.testBit (k + 1) || eqF (d.f k) zF)
theorem toList_inj {a b : ByteArray} : a.toList = b.toList ↔ a = b := by
  rw [ByteArray.toList_eq, ByteArray.toList_eq]
  exact ⟨fun h => ByteArray.ext (Array.toList_inj.mp h), fun h => by rw [h]⟩
theorem new_at (W : World) (o : Obj) (g : Nat) (hg : g = W.heap.size) : (W.alloc o).heap[g]? = some o := by rw [heap_alloc, if_pos hg]
theorem old_at {W : World} {g : Nat} {p : Obj} (h : W.heap[g]? = some p) (o : Obj) : (W.alloc o).heap[g]? = some p := by
  rw [heap_alloc, if_neg (Nat.ne_of_lt (Array.getElem?_eq_some_iff.1 h).1)]; exact h
theorem set_at {W : World} {g i : Nat} {cs : Array Value} {t : TypeId} {fr : Nat × Nat} (h : W.heap[g]? = some (.cells cs t fr)) (v : Value) {cs' : Array Value} (hc : cs.setIfInBounds i v = cs') : (W.setCell ⟨g, i, none⟩ v).heap[g]? = some (.cells cs' t fr) := by
  rw [← hc]; exact Go.Joins.block_setCell h v
theorem set_off {W : World} {g : Nat} {p : Obj} (h : W.heap[g]? = some p) {b i : Nat} (hb : g ≠ b) (v : Value) : (W.setCell ⟨b, i, none⟩ v).heap[g]? = some p := by
  rw [Below.heap_setCell _ _ _ _ hb]; exact h
theorem at_lt {W : World} {g : Nat} {p : Obj} (h : W.heap[g]? = some p) : g < W.heap.size := (Array.getElem?_eq_some_iff.1 h).1
abbrev cellsAt (W : World) (g : Nat) (cs : Array Value) : Prop := (∀ i, W.cell? ⟨g, i, none⟩ = cs[i]?) ∧ (∀ i, W.frozen? ⟨g, i, none⟩ = false)
theorem cells_at {W : World} {g : Nat} {cs : Array Value} {t : TypeId} (h : W.heap[g]? = some (.cells cs t (0, 0))) : (∀ i, W.cell? ⟨g, i, none⟩ = cs[i]?) ∧ (∀ i, W.frozen? ⟨g, i, none⟩ = false) :=
  ⟨Go.Joins.cell_of_block h, Go.Joins.unfrozen_of_block h⟩
end
section
open Go.RowKit
set_option linter.unusedVariables false
theorem equal_pt (W : World) (a0 a1 b0 b1 : Int) : (Op.equalIn 10000 45 (pt a0 a1) (pt b0 b1)).run Tryz.prog W = .ok (pEq a0 a1 b0 b1) W := by
  unfold pEq
  by_cases h0 : a0 = b0 <;> by_cases h1 : a1 = b1 <;> simp [go_sem, h0, h1]
theorem equal_fl (W : World) (a b : Fl) : (Op.equalIn 10000 47 a.v b.v).run Tryz.prog W = .ok (eqF a b) W := by
  obtain ⟨n, s⟩ := a
  obtain ⟨m, t⟩ := b
  by_cases h0 : n = m <;> by_cases h1 : s = t <;> simp [go_sem, h0, h1, toList_inj, eqF]
theorem equal_fl_at {a b : Fl} {q : Bool} (h : eqF a b = q) (W : World) : (Op.equalIn 10000 47 a.v b.v).run Tryz.prog W = .ok q W := by rw [equal_fl, h]
theorem bit_at (m k : Nat) (hm : m ≤ 255) : (bits .and .u8 ((m : Int) / 2 ^ k) 1 == 1) = m.testBit k := by
  have e : ((m : Int) / 2 ^ k) = ((m / 2 ^ k : Nat) : Int) := by simp
  have h1 : m / 2 ^ k ≤ m := Nat.div_le_self _ _
  have := u8_and_nat (m / 2 ^ k) 1 (by omega) (by omega)
  rw [e, show (1 : Int) = ((1 : Nat) : Int) from rfl, this, Nat.and_one_is_mod]
  rw [Nat.testBit_eq_decide_div_mod_eq]
  rw [Bool.eq_iff_iff]
  simp
  omega
theorem fields_has (w : World) (m : Nat) (k : Nat) (hm : m ≤ 255) (hk : k ≤ 4) : Calls Tryz.prog 83 #[.int .u8 m, .int .i64 k] w fun e w' => e = .returned (.bool (m.testBit k)) ∧ w' = w := by
  go_enter Tryz.func83, Tryz.ntmps83
  go_wp2
  go_ret
  exact ⟨congrArg (fun x => Ending.returned (.bool x)) (bit_at m k hm), rfl⟩
theorem fields_isField (w : World) (f : Fl) (hs : f.s.size ≤ maxLen) : Calls Tryz.prog 79 #[f.v] w fun e w' => e = .returned (.bool (isF f)) ∧ Below w.heap.size w w' := by
  go_enter Tryz.func79, Tryz.ntmps79
  go_wp2 <;> (go_ret; exact ⟨by simp_all [isF] <;> omega, below1 _ _⟩)
theorem ref_isField (w : World) (f : Fl) (hs : f.s.size ≤ maxLen) : Calls Tryz.prog 56 #[f.v] w fun e w' => e = .returned (.bool (isF f)) ∧ Below w.heap.size w w' := by
  go_enter Tryz.func56, Tryz.ntmps56
  go_wp2 <;> (go_ret; exact ⟨by simp_all [isF] <;> omega, below1 _ _⟩)
theorem few_field (w : World) (f : Fl) (hs : f.s.size ≤ maxLen) : Calls Tryz.prog 68 #[f.v] w fun e w' => e = .returned (.bool (decide (f.s.size ≤ 40))) ∧ Below w.heap.size w w' := by
  go_enter Tryz.func68, Tryz.ntmps68
  go_wp2 <;> (go_ret; exact ⟨by simp <;> omega, below1 _ _⟩)
end
end Go.Proofs.YtpedngbjpbeanaaGreatDoor
