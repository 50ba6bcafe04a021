/- Contracts of the reference of commands. -/
import Derived.Test.YtpedngbjpbeanaaGreatDoorCH
import Derived.Lib.MinMax
namespace Go.Proofs.YtpedngbjpbeanaaGreatDoor
section
open Go.RowKit
set_option linter.unusedVariables false
theorem within_at {n lo hi : Int} {q : Bool} (h : Hid (inJ n lo hi = q)) (w : World) : Calls Tryz.prog 52 #[.int .i64 n, .int .i64 lo, .int .i64 hi] w fun e w' => e = .returned (.bool q) ∧ w' = w := by
  rw [← h.out]; exact ref_within w n lo hi
def ptI (x y : Int) : Bool := inJ x (-1000) 1000 && inJ y (-1000) 1000
theorem ref_point (w : World) (x y : Int) : Calls Tryz.prog 54 #[pt x y] w fun e w' => e = .returned (.bool (ptI x y)) ∧ Below w.heap.size w w' := by
  obtain ⟨p, hp⟩ : ∃ p, Hid (inJ x (-1000) 1000 = p) := ⟨_, rfl⟩
  obtain ⟨q, hq⟩ : ∃ q, Hid (inJ y (-1000) 1000 = q) := ⟨_, rfl⟩
  have e : Hid (ptI x y = (p && q)) := by show ptI x y = _; unfold ptI; rw [hp.out, hq.out]
  rw [e.out]
  go_enter Tryz.func54, Tryz.ntmps54
  go_wp2_with fail
  refine (within_at hp _).mono ?_
  rintro z w1 ⟨rfl, hw⟩
  rw [hw]
  clear hw
  cases p
  · go_wp2_with fail
    go_ret
    exact ⟨rfl, below1 _ _⟩
  · go_wp2_with fail
    refine (within_at hq _).mono ?_
    rintro z w2 ⟨rfl, hw⟩
    rw [hw]
    clear hw
    go_wp2_with fail
    go_ret
    exact ⟨by cases q <;> rfl, below1 _ _⟩
theorem point_at {x y : Int} {q : Bool} (h : Hid (ptI x y = q)) (w : World) : Calls Tryz.prog 54 #[pt x y] w fun e w' => e = .returned (.bool q) ∧ Below w.heap.size w w' := by
  rw [← h.out]; exact ref_point w x y
def rcI (a b c d : Int) : Bool := ptI a b && ptI c d
theorem refcm_rect (w : World) (a b c d : Int) : Calls Tryz.prog 55 #[rc a b c d] w fun e w' => e = .returned (.bool (rcI a b c d)) ∧ Below w.heap.size w w' := by
  obtain ⟨p, hp⟩ : ∃ p, Hid (ptI a b = p) := ⟨_, rfl⟩
  obtain ⟨q, hq⟩ : ∃ q, Hid (ptI c d = q) := ⟨_, rfl⟩
  have e : Hid (rcI a b c d = (p && q)) := by show rcI a b c d = _; unfold rcI; rw [hp.out, hq.out]
  rw [e.out]
  have K := hid (new_at w (.cells #[.int .i64 a, .int .i64 b, .int .i64 c, .int .i64 d] 55 (0, 0)) _ rfl)
  go_enter Tryz.func55, Tryz.ntmps55
  go_wp2_with fail
  refine (point_at hp _).mono ?_
  rintro z w1 ⟨rfl, hb⟩
  have K1 := hid (var_on hb K.out (at_lt K.out))
  have hE := below_on (below1 w _) hb
  clear hb K
  cases p
  · go_wp2_with fail
    go_ret
    exact ⟨rfl, hE⟩
  · have ck := cells_at K1.out
    go_wp2_with fail
    refine (point_at hq _).mono ?_
    rintro z w2 ⟨rfl, hb⟩
    replace hE := below_on hE hb
    go_wp2_with fail
    go_ret
    exact ⟨by cases q <;> rfl, hE⟩
theorem refrc_at {a b c d : Int} {q : Bool} (h : Hid (rcI a b c d = q)) (w : World) : Calls Tryz.prog 55 #[rc a b c d] w fun e w' => e = .returned (.bool q) ∧ Below w.heap.size w w' := by
  rw [← h.out]; exact refcm_rect w a b c d
theorem ref_watches (w : World) (a : Cm) : Calls Tryz.prog 24 #[a.v] w fun e w' => e = .returned (.bool (watchB a.kd)) ∧ Below w.heap.size w w' := by
  obtain ⟨W, hW⟩ : ∃ W, W = w.alloc a.o := ⟨_, rfl⟩
  have hB : Below w.heap.size w W := by rw [hW]; exact below1 _ _
  have hA : W.heap[w.heap.size]? = some a.o := by rw [hW]; exact new_at _ _ _ rfl
  have h0 := cell_i hA (k := 0) (.inl rfl)
  have hq : Hid (inJ a.kd 6 8 = watchB a.kd) := by
    show inJ a.kd 6 8 = watchB a.kd
    unfold inJ watchB
    rw [Bool.eq_iff_iff]
    simp
    omega
  obtain ⟨r, hr⟩ : ∃ r, Hid (watchB a.kd = r) := ⟨_, rfl⟩
  rw [hr.out] at hq ⊢
  go_enter Tryz.func24, Tryz.ntmps24
  go_upto_region 1 with fail
  rw [← hW]
  have h0' : W.cell? ⟨w.heap.size, 0, none⟩ = some (.int .i64 a.kd) := h0
  clear hW hA h0
  go_wp2_with fail
  refine (within_at hq _).mono ?_
  rintro z w1 ⟨rfl, hw⟩
  rw [hw]
  clear hw
  go_wp2_with fail
  go_ret
  exact ⟨rfl, hB⟩
/-- only what its kind has -/
def shapeC (c : Cm) : Cm :=
  if c.kd = 1 then ⟨c.kd, 0, 0, 0, c.x, c.y, c.f0, c.f1, c.f2, c.f3, zF, c.cl, c.se, 0, 0, 0, 0⟩
  else if c.kd = 2 then ⟨c.kd, c.id, 0, 0, c.x, c.y, zF, zF, zF, zF, zF, c.cl, c.se, 0, 0, 0, 0⟩
  else if c.kd = 3 then ⟨c.kd, c.id, c.wh, 0, 0, 0, zF, zF, zF, zF, c.va, c.cl, c.se, 0, 0, 0, 0⟩
  else if c.kd = 4 then ⟨c.kd, c.id, 0, 0, 0, 0, zF, zF, zF, zF, zF, c.cl, c.se, 0, 0, 0, 0⟩
  else if c.kd = 5 then ⟨c.kd, 0, c.wh, c.tt, 0, 0, zF, zF, zF, zF, zF, c.cl, c.se, 0, 0, 0, 0⟩
  else if c.kd = 6 ∨ c.kd = 7 then ⟨c.kd, 0, 0, 0, 0, 0, zF, zF, zF, zF, zF, c.cl, c.se, c.r0, c.r1, c.r2, c.r3⟩
  else ⟨c.kd, 0, 0, 0, 0, 0, zF, zF, zF, zF, zF, c.cl, c.se, 0, 0, 0, 0⟩
end
section
open Go.RowKit
set_option linter.unusedVariables false
abbrev zL : Fl := ⟨0, ⟨#[]⟩⟩
abbrev headC (c : Cm) : Cm := ⟨c.kd, 0, 0, 0, 0, 0, zL, zL, zL, zL, zL, c.cl, c.se, 0, 0, 0, 0⟩
theorem But.drew {g : Nat} {w w' : World} (h : But g w w') : But g w w'.drew := ⟨h.os, h.tape, h.output, h.size, h.block⟩
theorem results_shape {tmps : Array Value} {W : World} {g : Nat} {c : Cm} (hp : tmps.getD 2 undef = .pointer (some ⟨g, 0, none⟩)) (h : W.heap[g]? = some c.o) : (results Tryz.f53 tmps).run Tryz.prog W = .ok c.v W :=
  results_cell_row Tryz.results53 tmps W g _ _ _ _ hp h Tryz.underlying57 rfl Tryz.size30
set_option maxRecDepth 100000 in
set_option maxHeartbeats 4000000 in
theorem shape1 (w : World) (c : Cm) (hk : Hid (c.kd = 1)) : Calls Tryz.prog 53 #[c.v] w fun e w' => e = .returned (((((((headC c).setI 4 c.x).setI 5 c.y).setF 6 c.f0).setF 8 c.f1).setF 10 c.f2).setF 12 c.f3).v ∧ Below w.heap.size w w' := by
  obtain ⟨W, hW⟩ : ∃ W, W = (w.alloc c.o).alloc zeroO := ⟨_, rfl⟩
  have hE : Below w.heap.size w W := by rw [hW]; exact Go.Joins.below_alloc2 _ _ _
  have K1 := hid (show W.heap[w.heap.size]? = some c.o by rw [hW]; exact old_at (new_at _ _ _ rfl) _)
  have K2 := hid (show W.heap[w.heap.size + 1]? = some zC.o by rw [hW]; exact new_at _ _ _ (by simp))
  have l2 : w.heap.size + 1 < W.heap.size := at_lt K2.out
  have n0 : W.cell? ⟨w.heap.size, 0, none⟩ = some (.int .i64 c.kd) := cell_i K1.out (k := 0) (by simp [plI])
  have n1 : W.cell? ⟨w.heap.size, 16, none⟩ = some (.int .i64 c.cl) := cell_i K1.out (k := 16) (by simp [plI])
  have n2 : W.cell? ⟨w.heap.size, 17, none⟩ = some (.int .i64 c.se) := cell_i K1.out (k := 17) (by simp [plI])
  go_enter Tryz.func53, Tryz.ntmps53
  go_upto_region 1 with fail
  rw [← hW]
  clear hW
  go_upto_region 2 with ((with_reducible refine wpList_store_cm (c := headC c) rfl (.tmp 3) (.tmp 10) rfl rfl rfl (new_zero _) ?_); intro W1 h1 b1 s1)
  clear n0 n1 n2
  replace K1 := hid (b1.at (old_at K1.out _) (by omega))
  replace K2 := hid (b1.at (old_at K2.out _) (by omega))
  have K3 := hid h1
  replace hE := b1.below (hE.alloc (by omega) _) (by omega)
  have l3 := at_lt h1
  clear h1 b1 s1
  have n0 : W1.cell? ⟨w.heap.size, 0, none⟩ = some (.int .i64 1) := by rw [cell_i K1.out (k := 0) (by simp [plI])]; exact congrArg (fun z => some (Value.int .i64 z)) hk.out
  go_upto_region 4 with fail
  clear n0
  have c1 := cells_at K1.out
  have c3 := cells_at K3.out
  go_region
  have hS := drew_at (set_fC (set_fC (set_fC (set_fC (set_i (set_i K3.out (k := 4) (by simp [plI]) c.x) (k := 5) (by simp [plI]) c.y) (k := 6) (by simp [atF]) c.f0) (k := 8) (by simp [atF]) c.f1) (k := 10) (by simp [atF]) c.f2) (k := 12) (by simp [atF]) c.f3)
  have hb := (((((((((((But.refl W.heap.size W1).setCell 4 (.int .i64 c.x)).setCell 5 (.int .i64 c.y)).setCell 6 (.int .i64 c.f0.n)).setCell 7 (.string c.f0.s)).setCell 8 (.int .i64 c.f1.n)).setCell 9 (.string c.f1.s)).setCell 10 (.int .i64 c.f2.n)).setCell 11 (.string c.f2.s)).setCell 12 (.int .i64 c.f3.n)).setCell 13 (.string c.f3.s)).drew
  have hK2 := hb.at K2.out (by omega)
  have hE2 := hb.below hE (by omega)
  clear c1 c3
  go_wp2_with (first
    | with_reducible refine wpList_load_cm rfl (.tmp 3) rfl rfl hS ?_
    | ((with_reducible refine wpList_store_cm (c := ((((((headC c).setI 4 c.x).setI 5 c.y).setF 6 c.f0).setF 8 c.f1).setF 10 c.f2).setF 12 c.f3) rfl (.tmp 2) (.tmp 59) rfl rfl rfl hK2 ?_); intro W9 h9 b9 s9))
  exact bodyPost_ret (v := (((((((headC c).setI 4 c.x).setI 5 c.y).setF 6 c.f0).setF 8 c.f1).setF 10 c.f2).setF 12 c.f3).v) (results_shape rfl h9) rfl ⟨rfl, b9.below hE2 (by omega)⟩
set_option maxRecDepth 100000 in
set_option maxHeartbeats 4000000 in
theorem shape2 (w : World) (c : Cm) (hk : Hid (c.kd = 2)) : Calls Tryz.prog 53 #[c.v] w fun e w' => e = .returned ((((headC c).setI 1 c.id).setI 4 c.x).setI 5 c.y).v ∧ Below w.heap.size w w' := by
  obtain ⟨W, hW⟩ : ∃ W, W = (w.alloc c.o).alloc zeroO := ⟨_, rfl⟩
  have hE : Below w.heap.size w W := by rw [hW]; exact Go.Joins.below_alloc2 _ _ _
  have K1 := hid (show W.heap[w.heap.size]? = some c.o by rw [hW]; exact old_at (new_at _ _ _ rfl) _)
  have K2 := hid (show W.heap[w.heap.size + 1]? = some zC.o by rw [hW]; exact new_at _ _ _ (by simp))
  have l2 : w.heap.size + 1 < W.heap.size := at_lt K2.out
  have n0 : W.cell? ⟨w.heap.size, 0, none⟩ = some (.int .i64 c.kd) := cell_i K1.out (k := 0) (by simp [plI])
  have n1 : W.cell? ⟨w.heap.size, 16, none⟩ = some (.int .i64 c.cl) := cell_i K1.out (k := 16) (by simp [plI])
  have n2 : W.cell? ⟨w.heap.size, 17, none⟩ = some (.int .i64 c.se) := cell_i K1.out (k := 17) (by simp [plI])
  go_enter Tryz.func53, Tryz.ntmps53
  go_upto_region 1 with fail
  rw [← hW]
  clear hW
  go_upto_region 2 with ((with_reducible refine wpList_store_cm (c := headC c) rfl (.tmp 3) (.tmp 10) rfl rfl rfl (new_zero _) ?_); intro W1 h1 b1 s1)
  clear n0 n1 n2
  replace K1 := hid (b1.at (old_at K1.out _) (by omega))
  replace K2 := hid (b1.at (old_at K2.out _) (by omega))
  have K3 := hid h1
  replace hE := b1.below (hE.alloc (by omega) _) (by omega)
  have l3 := at_lt h1
  clear h1 b1 s1
  have n0 : W1.cell? ⟨w.heap.size, 0, none⟩ = some (.int .i64 2) := by rw [cell_i K1.out (k := 0) (by simp [plI])]; exact congrArg (fun z => some (Value.int .i64 z)) hk.out
  go_upto_region 6 with fail
  clear n0
  have c1 := cells_at K1.out
  have c3 := cells_at K3.out
  go_region
  have hS := drew_at (set_i (set_i (set_i K3.out (k := 1) (by simp [plI]) c.id) (k := 4) (by simp [plI]) c.x) (k := 5) (by simp [plI]) c.y)
  have hb := ((((But.refl W.heap.size W1).setCell 1 (.int .i64 c.id)).setCell 4 (.int .i64 c.x)).setCell 5 (.int .i64 c.y)).drew
  have hK2 := hb.at K2.out (by omega)
  have hE2 := hb.below hE (by omega)
  clear c1 c3
  go_wp2_with (first
    | with_reducible refine wpList_load_cm rfl (.tmp 3) rfl rfl hS ?_
    | ((with_reducible refine wpList_store_cm (c := (((headC c).setI 1 c.id).setI 4 c.x).setI 5 c.y) rfl (.tmp 2) (.tmp 59) rfl rfl rfl hK2 ?_); intro W9 h9 b9 s9))
  exact bodyPost_ret (v := ((((headC c).setI 1 c.id).setI 4 c.x).setI 5 c.y).v) (results_shape rfl h9) rfl ⟨rfl, b9.below hE2 (by omega)⟩
set_option maxRecDepth 100000 in
set_option maxHeartbeats 4000000 in
theorem shape3 (w : World) (c : Cm) (hk : Hid (c.kd = 3)) : Calls Tryz.prog 53 #[c.v] w fun e w' => e = .returned ((((headC c).setI 1 c.id).setI 2 c.wh).setF 14 c.va).v ∧ Below w.heap.size w w' := by
  obtain ⟨W, hW⟩ : ∃ W, W = (w.alloc c.o).alloc zeroO := ⟨_, rfl⟩
  have hE : Below w.heap.size w W := by rw [hW]; exact Go.Joins.below_alloc2 _ _ _
  have K1 := hid (show W.heap[w.heap.size]? = some c.o by rw [hW]; exact old_at (new_at _ _ _ rfl) _)
  have K2 := hid (show W.heap[w.heap.size + 1]? = some zC.o by rw [hW]; exact new_at _ _ _ (by simp))
  have l2 : w.heap.size + 1 < W.heap.size := at_lt K2.out
  have n0 : W.cell? ⟨w.heap.size, 0, none⟩ = some (.int .i64 c.kd) := cell_i K1.out (k := 0) (by simp [plI])
  have n1 : W.cell? ⟨w.heap.size, 16, none⟩ = some (.int .i64 c.cl) := cell_i K1.out (k := 16) (by simp [plI])
  have n2 : W.cell? ⟨w.heap.size, 17, none⟩ = some (.int .i64 c.se) := cell_i K1.out (k := 17) (by simp [plI])
  go_enter Tryz.func53, Tryz.ntmps53
  go_upto_region 1 with fail
  rw [← hW]
  clear hW
  go_upto_region 2 with ((with_reducible refine wpList_store_cm (c := headC c) rfl (.tmp 3) (.tmp 10) rfl rfl rfl (new_zero _) ?_); intro W1 h1 b1 s1)
  clear n0 n1 n2
  replace K1 := hid (b1.at (old_at K1.out _) (by omega))
  replace K2 := hid (b1.at (old_at K2.out _) (by omega))
  have K3 := hid h1
  replace hE := b1.below (hE.alloc (by omega) _) (by omega)
  have l3 := at_lt h1
  clear h1 b1 s1
  have n0 : W1.cell? ⟨w.heap.size, 0, none⟩ = some (.int .i64 3) := by rw [cell_i K1.out (k := 0) (by simp [plI])]; exact congrArg (fun z => some (Value.int .i64 z)) hk.out
  go_upto_region 8 with fail
  clear n0
  have c1 := cells_at K1.out
  have c3 := cells_at K3.out
  go_region
  have hS := drew_at (set_fC (set_i (set_i K3.out (k := 1) (by simp [plI]) c.id) (k := 2) (by simp [plI]) c.wh) (k := 14) (by simp [atF]) c.va)
  have hb := (((((But.refl W.heap.size W1).setCell 1 (.int .i64 c.id)).setCell 2 (.int .i64 c.wh)).setCell 14 (.int .i64 c.va.n)).setCell 15 (.string c.va.s)).drew
  have hK2 := hb.at K2.out (by omega)
  have hE2 := hb.below hE (by omega)
  clear c1 c3
  go_wp2_with (first
    | with_reducible refine wpList_load_cm rfl (.tmp 3) rfl rfl hS ?_
    | ((with_reducible refine wpList_store_cm (c := (((headC c).setI 1 c.id).setI 2 c.wh).setF 14 c.va) rfl (.tmp 2) (.tmp 59) rfl rfl rfl hK2 ?_); intro W9 h9 b9 s9))
  exact bodyPost_ret (v := ((((headC c).setI 1 c.id).setI 2 c.wh).setF 14 c.va).v) (results_shape rfl h9) rfl ⟨rfl, b9.below hE2 (by omega)⟩
set_option maxRecDepth 100000 in
set_option maxHeartbeats 4000000 in
theorem shape4 (w : World) (c : Cm) (hk : Hid (c.kd = 4)) : Calls Tryz.prog 53 #[c.v] w fun e w' => e = .returned ((headC c).setI 1 c.id).v ∧ Below w.heap.size w w' := by
  obtain ⟨W, hW⟩ : ∃ W, W = (w.alloc c.o).alloc zeroO := ⟨_, rfl⟩
  have hE : Below w.heap.size w W := by rw [hW]; exact Go.Joins.below_alloc2 _ _ _
  have K1 := hid (show W.heap[w.heap.size]? = some c.o by rw [hW]; exact old_at (new_at _ _ _ rfl) _)
  have K2 := hid (show W.heap[w.heap.size + 1]? = some zC.o by rw [hW]; exact new_at _ _ _ (by simp))
  have l2 : w.heap.size + 1 < W.heap.size := at_lt K2.out
  have n0 : W.cell? ⟨w.heap.size, 0, none⟩ = some (.int .i64 c.kd) := cell_i K1.out (k := 0) (by simp [plI])
  have n1 : W.cell? ⟨w.heap.size, 16, none⟩ = some (.int .i64 c.cl) := cell_i K1.out (k := 16) (by simp [plI])
  have n2 : W.cell? ⟨w.heap.size, 17, none⟩ = some (.int .i64 c.se) := cell_i K1.out (k := 17) (by simp [plI])
  go_enter Tryz.func53, Tryz.ntmps53
  go_upto_region 1 with fail
  rw [← hW]
  clear hW
  go_upto_region 2 with ((with_reducible refine wpList_store_cm (c := headC c) rfl (.tmp 3) (.tmp 10) rfl rfl rfl (new_zero _) ?_); intro W1 h1 b1 s1)
  clear n0 n1 n2
  replace K1 := hid (b1.at (old_at K1.out _) (by omega))
  replace K2 := hid (b1.at (old_at K2.out _) (by omega))
  have K3 := hid h1
  replace hE := b1.below (hE.alloc (by omega) _) (by omega)
  have l3 := at_lt h1
  clear h1 b1 s1
  have n0 : W1.cell? ⟨w.heap.size, 0, none⟩ = some (.int .i64 4) := by rw [cell_i K1.out (k := 0) (by simp [plI])]; exact congrArg (fun z => some (Value.int .i64 z)) hk.out
  go_upto_region 10 with fail
  clear n0
  have c1 := cells_at K1.out
  have c3 := cells_at K3.out
  go_upto_region 16 with fail
  have hS := (set_i K3.out (k := 1) (by simp [plI]) c.id)
  have hb := (But.refl W.heap.size W1).setCell 1 (.int .i64 c.id)
  have hK2 := hb.at K2.out (by omega)
  have hE2 := hb.below hE (by omega)
  clear c1 c3
  go_wp2_with (first
    | with_reducible refine wpList_load_cm rfl (.tmp 3) rfl rfl hS ?_
    | ((with_reducible refine wpList_store_cm (c := (headC c).setI 1 c.id) rfl (.tmp 2) (.tmp 59) rfl rfl rfl hK2 ?_); intro W9 h9 b9 s9))
  exact bodyPost_ret (v := ((headC c).setI 1 c.id).v) (results_shape rfl h9) rfl ⟨rfl, b9.below hE2 (by omega)⟩
set_option maxRecDepth 100000 in
set_option maxHeartbeats 4000000 in
theorem shape5 (w : World) (c : Cm) (hk : Hid (c.kd = 5)) : Calls Tryz.prog 53 #[c.v] w fun e w' => e = .returned (((headC c).setI 2 c.wh).setI 3 c.tt).v ∧ Below w.heap.size w w' := by
  obtain ⟨W, hW⟩ : ∃ W, W = (w.alloc c.o).alloc zeroO := ⟨_, rfl⟩
  have hE : Below w.heap.size w W := by rw [hW]; exact Go.Joins.below_alloc2 _ _ _
  have K1 := hid (show W.heap[w.heap.size]? = some c.o by rw [hW]; exact old_at (new_at _ _ _ rfl) _)
  have K2 := hid (show W.heap[w.heap.size + 1]? = some zC.o by rw [hW]; exact new_at _ _ _ (by simp))
  have l2 : w.heap.size + 1 < W.heap.size := at_lt K2.out
  have n0 : W.cell? ⟨w.heap.size, 0, none⟩ = some (.int .i64 c.kd) := cell_i K1.out (k := 0) (by simp [plI])
  have n1 : W.cell? ⟨w.heap.size, 16, none⟩ = some (.int .i64 c.cl) := cell_i K1.out (k := 16) (by simp [plI])
  have n2 : W.cell? ⟨w.heap.size, 17, none⟩ = some (.int .i64 c.se) := cell_i K1.out (k := 17) (by simp [plI])
  go_enter Tryz.func53, Tryz.ntmps53
  go_upto_region 1 with fail
  rw [← hW]
  clear hW
  go_upto_region 2 with ((with_reducible refine wpList_store_cm (c := headC c) rfl (.tmp 3) (.tmp 10) rfl rfl rfl (new_zero _) ?_); intro W1 h1 b1 s1)
  clear n0 n1 n2
  replace K1 := hid (b1.at (old_at K1.out _) (by omega))
  replace K2 := hid (b1.at (old_at K2.out _) (by omega))
  have K3 := hid h1
  replace hE := b1.below (hE.alloc (by omega) _) (by omega)
  have l3 := at_lt h1
  clear h1 b1 s1
  have n0 : W1.cell? ⟨w.heap.size, 0, none⟩ = some (.int .i64 5) := by rw [cell_i K1.out (k := 0) (by simp [plI])]; exact congrArg (fun z => some (Value.int .i64 z)) hk.out
  go_upto_region 12 with fail
  clear n0
  have c1 := cells_at K1.out
  have c3 := cells_at K3.out
  go_region
  have hS := drew_at (set_i (set_i K3.out (k := 2) (by simp [plI]) c.wh) (k := 3) (by simp [plI]) c.tt)
  have hb := (((But.refl W.heap.size W1).setCell 2 (.int .i64 c.wh)).setCell 3 (.int .i64 c.tt)).drew
  have hK2 := hb.at K2.out (by omega)
  have hE2 := hb.below hE (by omega)
  clear c1 c3
  go_wp2_with (first
    | with_reducible refine wpList_load_cm rfl (.tmp 3) rfl rfl hS ?_
    | ((with_reducible refine wpList_store_cm (c := ((headC c).setI 2 c.wh).setI 3 c.tt) rfl (.tmp 2) (.tmp 59) rfl rfl rfl hK2 ?_); intro W9 h9 b9 s9))
  exact bodyPost_ret (v := (((headC c).setI 2 c.wh).setI 3 c.tt).v) (results_shape rfl h9) rfl ⟨rfl, b9.below hE2 (by omega)⟩
set_option maxRecDepth 100000 in
set_option maxHeartbeats 4000000 in
theorem shape6 (w : World) (c : Cm) (hk : Hid (c.kd = 6)) : Calls Tryz.prog 53 #[c.v] w fun e w' => e = .returned (((((headC c).setI 18 c.r0).setI 19 c.r1).setI 20 c.r2).setI 21 c.r3).v ∧ Below w.heap.size w w' := by
  obtain ⟨W, hW⟩ : ∃ W, W = (w.alloc c.o).alloc zeroO := ⟨_, rfl⟩
  have hE : Below w.heap.size w W := by rw [hW]; exact Go.Joins.below_alloc2 _ _ _
  have K1 := hid (show W.heap[w.heap.size]? = some c.o by rw [hW]; exact old_at (new_at _ _ _ rfl) _)
  have K2 := hid (show W.heap[w.heap.size + 1]? = some zC.o by rw [hW]; exact new_at _ _ _ (by simp))
  have l2 : w.heap.size + 1 < W.heap.size := at_lt K2.out
  have n0 : W.cell? ⟨w.heap.size, 0, none⟩ = some (.int .i64 c.kd) := cell_i K1.out (k := 0) (by simp [plI])
  have n1 : W.cell? ⟨w.heap.size, 16, none⟩ = some (.int .i64 c.cl) := cell_i K1.out (k := 16) (by simp [plI])
  have n2 : W.cell? ⟨w.heap.size, 17, none⟩ = some (.int .i64 c.se) := cell_i K1.out (k := 17) (by simp [plI])
  go_enter Tryz.func53, Tryz.ntmps53
  go_upto_region 1 with fail
  rw [← hW]
  clear hW
  go_upto_region 2 with ((with_reducible refine wpList_store_cm (c := headC c) rfl (.tmp 3) (.tmp 10) rfl rfl rfl (new_zero _) ?_); intro W1 h1 b1 s1)
  clear n0 n1 n2
  replace K1 := hid (b1.at (old_at K1.out _) (by omega))
  replace K2 := hid (b1.at (old_at K2.out _) (by omega))
  have K3 := hid h1
  replace hE := b1.below (hE.alloc (by omega) _) (by omega)
  have l3 := at_lt h1
  clear h1 b1 s1
  have n0 : W1.cell? ⟨w.heap.size, 0, none⟩ = some (.int .i64 6) := by rw [cell_i K1.out (k := 0) (by simp [plI])]; exact congrArg (fun z => some (Value.int .i64 z)) hk.out
  go_upto_region 15 with fail
  clear n0
  have c1 := cells_at K1.out
  have c3 := cells_at K3.out
  go_upto_region 16 with fail
  have hS := (set_i (set_i (set_i (set_i K3.out (k := 18) (by simp [plI]) c.r0) (k := 19) (by simp [plI]) c.r1) (k := 20) (by simp [plI]) c.r2) (k := 21) (by simp [plI]) c.r3)
  have hb := ((((But.refl W.heap.size W1).setCell 18 (.int .i64 c.r0)).setCell 19 (.int .i64 c.r1)).setCell 20 (.int .i64 c.r2)).setCell 21 (.int .i64 c.r3)
  have hK2 := hb.at K2.out (by omega)
  have hE2 := hb.below hE (by omega)
  clear c1 c3
  go_wp2_with (first
    | with_reducible refine wpList_load_cm rfl (.tmp 3) rfl rfl hS ?_
    | ((with_reducible refine wpList_store_cm (c := ((((headC c).setI 18 c.r0).setI 19 c.r1).setI 20 c.r2).setI 21 c.r3) rfl (.tmp 2) (.tmp 59) rfl rfl rfl hK2 ?_); intro W9 h9 b9 s9))
  exact bodyPost_ret (v := (((((headC c).setI 18 c.r0).setI 19 c.r1).setI 20 c.r2).setI 21 c.r3).v) (results_shape rfl h9) rfl ⟨rfl, b9.below hE2 (by omega)⟩
set_option maxRecDepth 100000 in
set_option maxHeartbeats 4000000 in
theorem shape7 (w : World) (c : Cm) (hk : Hid (c.kd = 7)) : Calls Tryz.prog 53 #[c.v] w fun e w' => e = .returned (((((headC c).setI 18 c.r0).setI 19 c.r1).setI 20 c.r2).setI 21 c.r3).v ∧ Below w.heap.size w w' := by
  obtain ⟨W, hW⟩ : ∃ W, W = (w.alloc c.o).alloc zeroO := ⟨_, rfl⟩
  have hE : Below w.heap.size w W := by rw [hW]; exact Go.Joins.below_alloc2 _ _ _
  have K1 := hid (show W.heap[w.heap.size]? = some c.o by rw [hW]; exact old_at (new_at _ _ _ rfl) _)
  have K2 := hid (show W.heap[w.heap.size + 1]? = some zC.o by rw [hW]; exact new_at _ _ _ (by simp))
  have l2 : w.heap.size + 1 < W.heap.size := at_lt K2.out
  have n0 : W.cell? ⟨w.heap.size, 0, none⟩ = some (.int .i64 c.kd) := cell_i K1.out (k := 0) (by simp [plI])
  have n1 : W.cell? ⟨w.heap.size, 16, none⟩ = some (.int .i64 c.cl) := cell_i K1.out (k := 16) (by simp [plI])
  have n2 : W.cell? ⟨w.heap.size, 17, none⟩ = some (.int .i64 c.se) := cell_i K1.out (k := 17) (by simp [plI])
  go_enter Tryz.func53, Tryz.ntmps53
  go_upto_region 1 with fail
  rw [← hW]
  clear hW
  go_upto_region 2 with ((with_reducible refine wpList_store_cm (c := headC c) rfl (.tmp 3) (.tmp 10) rfl rfl rfl (new_zero _) ?_); intro W1 h1 b1 s1)
  clear n0 n1 n2
  replace K1 := hid (b1.at (old_at K1.out _) (by omega))
  replace K2 := hid (b1.at (old_at K2.out _) (by omega))
  have K3 := hid h1
  replace hE := b1.below (hE.alloc (by omega) _) (by omega)
  have l3 := at_lt h1
  clear h1 b1 s1
  have n0 : W1.cell? ⟨w.heap.size, 0, none⟩ = some (.int .i64 7) := by rw [cell_i K1.out (k := 0) (by simp [plI])]; exact congrArg (fun z => some (Value.int .i64 z)) hk.out
  go_upto_region 15 with fail
  clear n0
  have c1 := cells_at K1.out
  have c3 := cells_at K3.out
  go_upto_region 16 with fail
  have hS := (set_i (set_i (set_i (set_i K3.out (k := 18) (by simp [plI]) c.r0) (k := 19) (by simp [plI]) c.r1) (k := 20) (by simp [plI]) c.r2) (k := 21) (by simp [plI]) c.r3)
  have hb := ((((But.refl W.heap.size W1).setCell 18 (.int .i64 c.r0)).setCell 19 (.int .i64 c.r1)).setCell 20 (.int .i64 c.r2)).setCell 21 (.int .i64 c.r3)
  have hK2 := hb.at K2.out (by omega)
  have hE2 := hb.below hE (by omega)
  clear c1 c3
  go_wp2_with (first
    | with_reducible refine wpList_load_cm rfl (.tmp 3) rfl rfl hS ?_
    | ((with_reducible refine wpList_store_cm (c := ((((headC c).setI 18 c.r0).setI 19 c.r1).setI 20 c.r2).setI 21 c.r3) rfl (.tmp 2) (.tmp 59) rfl rfl rfl hK2 ?_); intro W9 h9 b9 s9))
  exact bodyPost_ret (v := (((((headC c).setI 18 c.r0).setI 19 c.r1).setI 20 c.r2).setI 21 c.r3).v) (results_shape rfl h9) rfl ⟨rfl, b9.below hE2 (by omega)⟩
set_option maxRecDepth 100000 in
set_option maxHeartbeats 4000000 in
theorem shape0 (w : World) (c : Cm) (hk : Hid ((c.kd < 1 ∨ 7 < c.kd))) : Calls Tryz.prog 53 #[c.v] w fun e w' => e = .returned (headC c).v ∧ Below w.heap.size w w' := by
  obtain ⟨W, hW⟩ : ∃ W, W = (w.alloc c.o).alloc zeroO := ⟨_, rfl⟩
  have hE : Below w.heap.size w W := by rw [hW]; exact Go.Joins.below_alloc2 _ _ _
  have K1 := hid (show W.heap[w.heap.size]? = some c.o by rw [hW]; exact old_at (new_at _ _ _ rfl) _)
  have K2 := hid (show W.heap[w.heap.size + 1]? = some zC.o by rw [hW]; exact new_at _ _ _ (by simp))
  have l2 : w.heap.size + 1 < W.heap.size := at_lt K2.out
  have n0 : W.cell? ⟨w.heap.size, 0, none⟩ = some (.int .i64 c.kd) := cell_i K1.out (k := 0) (by simp [plI])
  have n1 : W.cell? ⟨w.heap.size, 16, none⟩ = some (.int .i64 c.cl) := cell_i K1.out (k := 16) (by simp [plI])
  have n2 : W.cell? ⟨w.heap.size, 17, none⟩ = some (.int .i64 c.se) := cell_i K1.out (k := 17) (by simp [plI])
  go_enter Tryz.func53, Tryz.ntmps53
  go_upto_region 1 with fail
  rw [← hW]
  clear hW
  go_upto_region 2 with ((with_reducible refine wpList_store_cm (c := headC c) rfl (.tmp 3) (.tmp 10) rfl rfl rfl (new_zero _) ?_); intro W1 h1 b1 s1)
  clear n0 n1 n2
  replace K1 := hid (b1.at (old_at K1.out _) (by omega))
  replace K2 := hid (b1.at (old_at K2.out _) (by omega))
  have K3 := hid h1
  replace hE := b1.below (hE.alloc (by omega) _) (by omega)
  have l3 := at_lt h1
  clear h1 b1 s1
  have n0 : W1.cell? ⟨w.heap.size, 0, none⟩ = some (.int .i64 c.kd) := cell_i K1.out (k := 0) (by simp [plI])
  have q1 : (c.kd == 1) = false := by have := hk.out; simp; omega
  have q2 : (c.kd == 2) = false := by have := hk.out; simp; omega
  have q3 : (c.kd == 3) = false := by have := hk.out; simp; omega
  have q4 : (c.kd == 4) = false := by have := hk.out; simp; omega
  have q5 : (c.kd == 5) = false := by have := hk.out; simp; omega
  have q6 : (c.kd == 6) = false := by have := hk.out; simp; omega
  have q7 : (c.kd == 7) = false := by have := hk.out; simp; omega
  go_upto_region 16 with fail
  clear n0
  have hS := K3.out
  have hb := But.refl W.heap.size W1
  have hK2 := hb.at K2.out (by omega)
  have hE2 := hb.below hE (by omega)
  go_wp2_with (first
    | with_reducible refine wpList_load_cm rfl (.tmp 3) rfl rfl hS ?_
    | ((with_reducible refine wpList_store_cm (c := headC c) rfl (.tmp 2) (.tmp 59) rfl rfl rfl hK2 ?_); intro W9 h9 b9 s9))
  exact bodyPost_ret (v := (headC c).v) (results_shape rfl h9) rfl ⟨rfl, b9.below hE2 (by omega)⟩
theorem ref_shape (w : World) (c : Cm) : Calls Tryz.prog 53 #[c.v] w fun e w' => e = .returned (shapeC c).v ∧ Below w.heap.size w w' := by
  unfold shapeC
  by_cases h1 : c.kd = 1
  · rw [if_pos h1]; exact shape1 w c (hid h1)
  rw [if_neg h1]
  by_cases h2 : c.kd = 2
  · rw [if_pos h2]; exact shape2 w c (hid h2)
  rw [if_neg h2]
  by_cases h3 : c.kd = 3
  · rw [if_pos h3]; exact shape3 w c (hid h3)
  rw [if_neg h3]
  by_cases h4 : c.kd = 4
  · rw [if_pos h4]; exact shape4 w c (hid h4)
  rw [if_neg h4]
  by_cases h5 : c.kd = 5
  · rw [if_pos h5]; exact shape5 w c (hid h5)
  rw [if_neg h5]
  by_cases h6 : c.kd = 6
  · rw [if_pos (.inl h6)]; exact shape6 w c (hid h6)
  by_cases h7 : c.kd = 7
  · rw [if_pos (.inr h7)]; exact shape7 w c (hid h7)
  rw [if_neg (by omega)]
  exact shape0 w c (hid (by omega))
end
end Go.Proofs.YtpedngbjpbeanaaGreatDoor
