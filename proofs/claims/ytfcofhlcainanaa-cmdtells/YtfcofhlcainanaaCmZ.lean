/- Contracts of the reference's point, rect, Watches, shape, Is; plain: it says what the parts say. -/
import Derived.Test.YtfcofhlcainanaaCmH
import Derived.Test.YtfcofhlcainanaaCmQ
import Derived.Lib.MinMax
namespace Go.Proofs.Ytfcofhlcainanaa
open Go.RowKit
set_option linter.unusedVariables false
theorem within_at {n lo hi : Int} {q : Bool} (h : Hid (inI n lo hi = q)) (w : World) : Calls Try.prog 19 #[.int .i64 n, .int .i64 lo, .int .i64 hi] w fun e w' => e = .returned (.bool q) ∧ w' = w := by
  rw [← h.out]; exact ref_within w n lo hi
def ptI (x y : Int) : Bool := inI x (-1000) 1000 && inI y (-1000) 1000
theorem ref_point (w : World) (x y : Int) : Calls Try.prog 21 #[pt x y] w fun e w' => e = .returned (.bool (ptI x y)) ∧ Below w.heap.size w w' := by
  obtain ⟨p, hp⟩ : ∃ p, Hid (inI x (-1000) 1000 = p) := ⟨_, rfl⟩
  obtain ⟨q, hq⟩ : ∃ q, Hid (inI y (-1000) 1000 = q) := ⟨_, rfl⟩
  have e : Hid (ptI x y = (p && q)) := by show ptI x y = _; unfold ptI; rw [hp.out, hq.out]
  rw [e.out]
  go_enter Try.func21, Try.ntmps21
  go_wp2_with fail
  refine (within_at hp _).mono ?_
  rintro z w1 ⟨rfl, hw⟩
  rw [hw]
  clear hw
  cases p
  · go_wp2_with fail
    go_ret
    exact ⟨rfl, below1 _ _⟩
  · go_wp2_with fail
    refine (within_at hq _).mono ?_
    rintro z w2 ⟨rfl, hw⟩
    rw [hw]
    clear hw
    go_wp2_with fail
    go_ret
    exact ⟨by cases q <;> rfl, below1 _ _⟩
theorem point_at {x y : Int} {q : Bool} (h : Hid (ptI x y = q)) (w : World) : Calls Try.prog 21 #[pt x y] w fun e w' => e = .returned (.bool q) ∧ Below w.heap.size w w' := by
  rw [← h.out]; exact ref_point w x y
def rcI (a b c d : Int) : Bool := ptI a b && ptI c d
theorem ref_rect (w : World) (a b c d : Int) : Calls Try.prog 22 #[rc a b c d] w fun e w' => e = .returned (.bool (rcI a b c d)) ∧ Below w.heap.size w w' := by
  obtain ⟨p, hp⟩ : ∃ p, Hid (ptI a b = p) := ⟨_, rfl⟩
  obtain ⟨q, hq⟩ : ∃ q, Hid (ptI c d = q) := ⟨_, rfl⟩
  have e : Hid (rcI a b c d = (p && q)) := by show rcI a b c d = _; unfold rcI; rw [hp.out, hq.out]
  rw [e.out]
  have K := hid (new_at w (.cells #[.int .i64 a, .int .i64 b, .int .i64 c, .int .i64 d] 28 (0, 0)) _ rfl)
  go_enter Try.func22, Try.ntmps22
  go_wp2_with fail
  refine (point_at hp _).mono ?_
  rintro z w1 ⟨rfl, hb⟩
  have K1 := hid (var_on hb K.out (at_lt K.out))
  have hE := below_on (below1 w _) hb
  clear hb K
  cases p
  · go_wp2_with fail
    go_ret
    exact ⟨rfl, hE⟩
  · have ck := cells_at K1.out
    go_wp2_with fail
    refine (point_at hq _).mono ?_
    rintro z w2 ⟨rfl, hb⟩
    replace hE := below_on hE hb
    go_wp2_with fail
    go_ret
    exact ⟨by cases q <;> rfl, hE⟩
theorem rect_at {a b c d : Int} {q : Bool} (h : Hid (rcI a b c d = q)) (w : World) : Calls Try.prog 22 #[rc a b c d] w fun e w' => e = .returned (.bool q) ∧ Below w.heap.size w w' := by
  rw [← h.out]; exact ref_rect w a b c d
theorem ref_watches (w : World) (a : Cm) : Calls Try.prog 14 #[a.v] w fun e w' => e = .returned (.bool (watchB a.kd)) ∧ Below w.heap.size w w' := by
  obtain ⟨W, hW⟩ : ∃ W, W = w.alloc a.o := ⟨_, rfl⟩
  have hB : Below w.heap.size w W := by rw [hW]; exact below1 _ _
  have hA : W.heap[w.heap.size]? = some a.o := by rw [hW]; exact new_at _ _ _ rfl
  have h0 := cell_i hA (k := 0) (.inl rfl)
  have hq : Hid (inI a.kd 6 8 = watchB a.kd) := by
    show inI a.kd 6 8 = watchB a.kd
    unfold inI watchB
    rw [Bool.eq_iff_iff]
    simp
    omega
  obtain ⟨r, hr⟩ : ∃ r, Hid (watchB a.kd = r) := ⟨_, rfl⟩
  rw [hr.out] at hq ⊢
  go_enter Try.func14, Try.ntmps14
  go_upto_region 1 with fail
  rw [← hW]
  have h0' : W.cell? ⟨w.heap.size, 0, none⟩ = some (.int .i64 a.kd) := h0
  clear hW hA h0
  go_wp2_with fail
  refine (within_at hq _).mono ?_
  rintro z w1 ⟨rfl, hw⟩
  rw [hw]
  clear hw
  go_wp2_with fail
  go_ret
  exact ⟨rfl, hB⟩
/-- only what its kind has -/
def shapeC (c : Cm) : Cm :=
  if c.kd = 1 then ⟨c.kd, 0, 0, 0, c.x, c.y, c.f0, c.f1, c.f2, c.f3, zF, c.cl, c.se, 0, 0, 0, 0⟩
  else if c.kd = 2 then ⟨c.kd, c.id, 0, 0, c.x, c.y, zF, zF, zF, zF, zF, c.cl, c.se, 0, 0, 0, 0⟩
  else if c.kd = 3 then ⟨c.kd, c.id, c.wh, 0, 0, 0, zF, zF, zF, zF, c.va, c.cl, c.se, 0, 0, 0, 0⟩
  else if c.kd = 4 then ⟨c.kd, c.id, 0, 0, 0, 0, zF, zF, zF, zF, zF, c.cl, c.se, 0, 0, 0, 0⟩
  else if c.kd = 5 then ⟨c.kd, 0, c.wh, c.tt, 0, 0, zF, zF, zF, zF, zF, c.cl, c.se, 0, 0, 0, 0⟩
  else if c.kd = 6 ∨ c.kd = 7 then ⟨c.kd, 0, 0, 0, 0, 0, zF, zF, zF, zF, zF, c.cl, c.se, c.r0, c.r1, c.r2, c.r3⟩
  else ⟨c.kd, 0, 0, 0, 0, 0, zF, zF, zF, zF, zF, c.cl, c.se, 0, 0, 0, 0⟩
end Go.Proofs.Ytfcofhlcainanaa
