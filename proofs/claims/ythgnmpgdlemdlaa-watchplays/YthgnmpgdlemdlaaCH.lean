/- Contract of the reference shape: only what its kind has. -/
import Derived.Test.YthgnmpgdlemdlaaCF
import Derived.WalkMore
namespace Go.Proofs.Ythgnmpgdlemdlaa
section
open Go.RowKit
set_option linter.unusedVariables false
abbrev zeroO : Obj := .cells #[.int .i64 0, .int .i64 0, .int .i64 0, .int .i64 0, .int .i64 0, .int .i64 0, .int .i64 0, .string ⟨#[]⟩, .int .i64 0, .string ⟨#[]⟩, .int .i64 0, .string ⟨#[]⟩, .int .i64 0, .string ⟨#[]⟩, .int .i64 0, .string ⟨#[]⟩, .int .i64 0, .int .i64 0, .int .i64 0, .int .i64 0, .int .i64 0, .int .i64 0] 41 (0, 0)
end
section
open Go.RowKit
set_option linter.unusedVariables false
theorem one22 (c : Cm) : (#[.int .i64 c.kd, .int .i64 c.id, .int .i64 c.wh, .int .i64 c.tt, .int .i64 c.x, .int .i64 c.y, .int .i64 c.f0.n, .string c.f0.s, .int .i64 c.f1.n, .string c.f1.s, .int .i64 c.f2.n, .string c.f2.s, .int .i64 c.f3.n, .string c.f3.s, .int .i64 c.va.n, .string c.va.s, .int .i64 c.cl, .int .i64 c.se, .int .i64 c.r0, .int .i64 c.r1, .int .i64 c.r2, .int .i64 c.r3] : Array Value).all (·.oneCell') = true := by simp [Value.oneCell']
theorem wpList_store_cm {ops : Array Oper} {rest : List Oper} {o : Oper} {a : Act} {W : World} {Q : Exit → Act → World → Prop} (hgd : o.guard = none) (x y : Operand) (ho : o.op = .store 41 x y)
    {g : Nat} {c d : Cm} (hx : a.eval x = .pointer (some ⟨g, 0, none⟩)) (hy : a.eval y = c.v) (h : W.heap[g]? = some d.o) (k : ∀ W', W'.heap[g]? = some c.o → But g W W' → W'.heap.size = W.heap.size → wpList Try.prog ops Q rest (a.put o.dst undef) W') : wpList Try.prog ops Q (o :: rest) a W :=
  wpList_store_row hgd _ x y ho g _ hx hy _ _ h Try.size30 rfl (one22 c) (k _ (setRow_heap W g _ _ _ _ h) ⟨rfl, rfl, rfl, by simp, fun i hi hg => setRow_other W g i _ hg⟩ (by simp))
end
section
open Go.RowKit
set_option linter.unusedVariables false
theorem new_zero (W : World) : (W.alloc zeroO).heap[W.heap.size]? = some zC.o := new_at _ _ _ rfl
end
section
open Go.RowKit
set_option linter.unusedVariables false
abbrev zL : Fl := ⟨0, ⟨#[]⟩⟩
abbrev headC (c : Cm) : Cm := ⟨c.kd, 0, 0, 0, 0, 0, zL, zL, zL, zL, zL, c.cl, c.se, 0, 0, 0, 0⟩
theorem But.drew {g : Nat} {w w' : World} (h : But g w w') : But g w w'.drew := ⟨h.os, h.tape, h.output, h.size, h.block⟩
theorem results_shape {tmps : Array Value} {W : World} {g : Nat} {c : Cm} (hp : tmps.getD 2 undef = .pointer (some ⟨g, 0, none⟩)) (h : W.heap[g]? = some c.o) : (results Try.f30 tmps).run Try.prog W = .ok c.v W :=
  results_cell_row Try.results30 tmps W g _ _ _ _ hp h Try.underlying41 rfl Try.size30
set_option maxRecDepth 100000 in
set_option maxHeartbeats 4000000 in
theorem shape1 (w : World) (c : Cm) (hk : Hid (c.kd = 1)) : Calls Try.prog 30 #[c.v] w fun e w' => e = .returned (((((((headC c).setI 4 c.x).setI 5 c.y).setF 6 c.f0).setF 8 c.f1).setF 10 c.f2).setF 12 c.f3).v ∧ Below w.heap.size w w' := by
  obtain ⟨W, hW⟩ : ∃ W, W = (w.alloc c.o).alloc zeroO := ⟨_, rfl⟩
  have hE : Below w.heap.size w W := by rw [hW]; exact Go.Joins.below_alloc2 _ _ _
  have K1 := hid (show W.heap[w.heap.size]? = some c.o by rw [hW]; exact old_at (new_at _ _ _ rfl) _)
  have K2 := hid (show W.heap[w.heap.size + 1]? = some zC.o by rw [hW]; exact new_at _ _ _ (by simp))
  have l2 : w.heap.size + 1 < W.heap.size := at_lt K2.out
  have n0 : W.cell? ⟨w.heap.size, 0, none⟩ = some (.int .i64 c.kd) := cell_i K1.out (k := 0) (by simp [plI])
  have n1 : W.cell? ⟨w.heap.size, 16, none⟩ = some (.int .i64 c.cl) := cell_i K1.out (k := 16) (by simp [plI])
  have n2 : W.cell? ⟨w.heap.size, 17, none⟩ = some (.int .i64 c.se) := cell_i K1.out (k := 17) (by simp [plI])
  go_enter Try.func30, Try.ntmps30
  go_upto_region 1 with fail
  rw [← hW]
  clear hW
  go_upto_region 2 with ((with_reducible refine wpList_store_cm (c := headC c) rfl (.tmp 3) (.tmp 10) rfl rfl rfl (new_zero _) ?_); intro W1 h1 b1 s1)
  clear n0 n1 n2
  replace K1 := hid (b1.at (old_at K1.out _) (by omega))
  replace K2 := hid (b1.at (old_at K2.out _) (by omega))
  have K3 := hid h1
  replace hE := b1.below (hE.alloc (by omega) _) (by omega)
  have l3 := at_lt h1
  clear h1 b1 s1
  have n0 : W1.cell? ⟨w.heap.size, 0, none⟩ = some (.int .i64 1) := by rw [cell_i K1.out (k := 0) (by simp [plI])]; exact congrArg (fun z => some (Value.int .i64 z)) hk.out
  go_upto_region 4 with fail
  clear n0
  have c1 := cells_at K1.out
  have c3 := cells_at K3.out
  go_region
  have hS := drew_at (set_f (set_f (set_f (set_f (set_i (set_i K3.out (k := 4) (by simp [plI]) c.x) (k := 5) (by simp [plI]) c.y) (k := 6) (by simp [atF]) c.f0) (k := 8) (by simp [atF]) c.f1) (k := 10) (by simp [atF]) c.f2) (k := 12) (by simp [atF]) c.f3)
  have hb := (((((((((((But.refl W.heap.size W1).setCell 4 (.int .i64 c.x)).setCell 5 (.int .i64 c.y)).setCell 6 (.int .i64 c.f0.n)).setCell 7 (.string c.f0.s)).setCell 8 (.int .i64 c.f1.n)).setCell 9 (.string c.f1.s)).setCell 10 (.int .i64 c.f2.n)).setCell 11 (.string c.f2.s)).setCell 12 (.int .i64 c.f3.n)).setCell 13 (.string c.f3.s)).drew
  have hK2 := hb.at K2.out (by omega)
  have hE2 := hb.below hE (by omega)
  clear c1 c3
  go_wp2_with (first
    | with_reducible refine wpList_load_cm rfl (.tmp 3) rfl rfl hS ?_
    | ((with_reducible refine wpList_store_cm (c := ((((((headC c).setI 4 c.x).setI 5 c.y).setF 6 c.f0).setF 8 c.f1).setF 10 c.f2).setF 12 c.f3) rfl (.tmp 2) (.tmp 59) rfl rfl rfl hK2 ?_); intro W9 h9 b9 s9))
  exact bodyPost_ret (v := (((((((headC c).setI 4 c.x).setI 5 c.y).setF 6 c.f0).setF 8 c.f1).setF 10 c.f2).setF 12 c.f3).v) (results_shape rfl h9) rfl ⟨rfl, b9.below hE2 (by omega)⟩
set_option maxRecDepth 100000 in
set_option maxHeartbeats 4000000 in
theorem shape2 (w : World) (c : Cm) (hk : Hid (c.kd = 2)) : Calls Try.prog 30 #[c.v] w fun e w' => e = .returned ((((headC c).setI 1 c.id).setI 4 c.x).setI 5 c.y).v ∧ Below w.heap.size w w' := by
  obtain ⟨W, hW⟩ : ∃ W, W = (w.alloc c.o).alloc zeroO := ⟨_, rfl⟩
  have hE : Below w.heap.size w W := by rw [hW]; exact Go.Joins.below_alloc2 _ _ _
  have K1 := hid (show W.heap[w.heap.size]? = some c.o by rw [hW]; exact old_at (new_at _ _ _ rfl) _)
  have K2 := hid (show W.heap[w.heap.size + 1]? = some zC.o by rw [hW]; exact new_at _ _ _ (by simp))
  have l2 : w.heap.size + 1 < W.heap.size := at_lt K2.out
  have n0 : W.cell? ⟨w.heap.size, 0, none⟩ = some (.int .i64 c.kd) := cell_i K1.out (k := 0) (by simp [plI])
  have n1 : W.cell? ⟨w.heap.size, 16, none⟩ = some (.int .i64 c.cl) := cell_i K1.out (k := 16) (by simp [plI])
  have n2 : W.cell? ⟨w.heap.size, 17, none⟩ = some (.int .i64 c.se) := cell_i K1.out (k := 17) (by simp [plI])
  go_enter Try.func30, Try.ntmps30
  go_upto_region 1 with fail
  rw [← hW]
  clear hW
  go_upto_region 2 with ((with_reducible refine wpList_store_cm (c := headC c) rfl (.tmp 3) (.tmp 10) rfl rfl rfl (new_zero _) ?_); intro W1 h1 b1 s1)
  clear n0 n1 n2
  replace K1 := hid (b1.at (old_at K1.out _) (by omega))
  replace K2 := hid (b1.at (old_at K2.out _) (by omega))
  have K3 := hid h1
  replace hE := b1.below (hE.alloc (by omega) _) (by omega)
  have l3 := at_lt h1
  clear h1 b1 s1
  have n0 : W1.cell? ⟨w.heap.size, 0, none⟩ = some (.int .i64 2) := by rw [cell_i K1.out (k := 0) (by simp [plI])]; exact congrArg (fun z => some (Value.int .i64 z)) hk.out
  go_upto_region 6 with fail
  clear n0
  have c1 := cells_at K1.out
  have c3 := cells_at K3.out
  go_region
  have hS := drew_at (set_i (set_i (set_i K3.out (k := 1) (by simp [plI]) c.id) (k := 4) (by simp [plI]) c.x) (k := 5) (by simp [plI]) c.y)
  have hb := ((((But.refl W.heap.size W1).setCell 1 (.int .i64 c.id)).setCell 4 (.int .i64 c.x)).setCell 5 (.int .i64 c.y)).drew
  have hK2 := hb.at K2.out (by omega)
  have hE2 := hb.below hE (by omega)
  clear c1 c3
  go_wp2_with (first
    | with_reducible refine wpList_load_cm rfl (.tmp 3) rfl rfl hS ?_
    | ((with_reducible refine wpList_store_cm (c := (((headC c).setI 1 c.id).setI 4 c.x).setI 5 c.y) rfl (.tmp 2) (.tmp 59) rfl rfl rfl hK2 ?_); intro W9 h9 b9 s9))
  exact bodyPost_ret (v := ((((headC c).setI 1 c.id).setI 4 c.x).setI 5 c.y).v) (results_shape rfl h9) rfl ⟨rfl, b9.below hE2 (by omega)⟩
set_option maxRecDepth 100000 in
set_option maxHeartbeats 4000000 in
theorem shape3 (w : World) (c : Cm) (hk : Hid (c.kd = 3)) : Calls Try.prog 30 #[c.v] w fun e w' => e = .returned ((((headC c).setI 1 c.id).setI 2 c.wh).setF 14 c.va).v ∧ Below w.heap.size w w' := by
  obtain ⟨W, hW⟩ : ∃ W, W = (w.alloc c.o).alloc zeroO := ⟨_, rfl⟩
  have hE : Below w.heap.size w W := by rw [hW]; exact Go.Joins.below_alloc2 _ _ _
  have K1 := hid (show W.heap[w.heap.size]? = some c.o by rw [hW]; exact old_at (new_at _ _ _ rfl) _)
  have K2 := hid (show W.heap[w.heap.size + 1]? = some zC.o by rw [hW]; exact new_at _ _ _ (by simp))
  have l2 : w.heap.size + 1 < W.heap.size := at_lt K2.out
  have n0 : W.cell? ⟨w.heap.size, 0, none⟩ = some (.int .i64 c.kd) := cell_i K1.out (k := 0) (by simp [plI])
  have n1 : W.cell? ⟨w.heap.size, 16, none⟩ = some (.int .i64 c.cl) := cell_i K1.out (k := 16) (by simp [plI])
  have n2 : W.cell? ⟨w.heap.size, 17, none⟩ = some (.int .i64 c.se) := cell_i K1.out (k := 17) (by simp [plI])
  go_enter Try.func30, Try.ntmps30
  go_upto_region 1 with fail
  rw [← hW]
  clear hW
  go_upto_region 2 with ((with_reducible refine wpList_store_cm (c := headC c) rfl (.tmp 3) (.tmp 10) rfl rfl rfl (new_zero _) ?_); intro W1 h1 b1 s1)
  clear n0 n1 n2
  replace K1 := hid (b1.at (old_at K1.out _) (by omega))
  replace K2 := hid (b1.at (old_at K2.out _) (by omega))
  have K3 := hid h1
  replace hE := b1.below (hE.alloc (by omega) _) (by omega)
  have l3 := at_lt h1
  clear h1 b1 s1
  have n0 : W1.cell? ⟨w.heap.size, 0, none⟩ = some (.int .i64 3) := by rw [cell_i K1.out (k := 0) (by simp [plI])]; exact congrArg (fun z => some (Value.int .i64 z)) hk.out
  go_upto_region 8 with fail
  clear n0
  have c1 := cells_at K1.out
  have c3 := cells_at K3.out
  go_region
  have hS := drew_at (set_f (set_i (set_i K3.out (k := 1) (by simp [plI]) c.id) (k := 2) (by simp [plI]) c.wh) (k := 14) (by simp [atF]) c.va)
  have hb := (((((But.refl W.heap.size W1).setCell 1 (.int .i64 c.id)).setCell 2 (.int .i64 c.wh)).setCell 14 (.int .i64 c.va.n)).setCell 15 (.string c.va.s)).drew
  have hK2 := hb.at K2.out (by omega)
  have hE2 := hb.below hE (by omega)
  clear c1 c3
  go_wp2_with (first
    | with_reducible refine wpList_load_cm rfl (.tmp 3) rfl rfl hS ?_
    | ((with_reducible refine wpList_store_cm (c := (((headC c).setI 1 c.id).setI 2 c.wh).setF 14 c.va) rfl (.tmp 2) (.tmp 59) rfl rfl rfl hK2 ?_); intro W9 h9 b9 s9))
  exact bodyPost_ret (v := ((((headC c).setI 1 c.id).setI 2 c.wh).setF 14 c.va).v) (results_shape rfl h9) rfl ⟨rfl, b9.below hE2 (by omega)⟩
set_option maxRecDepth 100000 in
set_option maxHeartbeats 4000000 in
theorem shape4 (w : World) (c : Cm) (hk : Hid (c.kd = 4)) : Calls Try.prog 30 #[c.v] w fun e w' => e = .returned ((headC c).setI 1 c.id).v ∧ Below w.heap.size w w' := by
  obtain ⟨W, hW⟩ : ∃ W, W = (w.alloc c.o).alloc zeroO := ⟨_, rfl⟩
  have hE : Below w.heap.size w W := by rw [hW]; exact Go.Joins.below_alloc2 _ _ _
  have K1 := hid (show W.heap[w.heap.size]? = some c.o by rw [hW]; exact old_at (new_at _ _ _ rfl) _)
  have K2 := hid (show W.heap[w.heap.size + 1]? = some zC.o by rw [hW]; exact new_at _ _ _ (by simp))
  have l2 : w.heap.size + 1 < W.heap.size := at_lt K2.out
  have n0 : W.cell? ⟨w.heap.size, 0, none⟩ = some (.int .i64 c.kd) := cell_i K1.out (k := 0) (by simp [plI])
  have n1 : W.cell? ⟨w.heap.size, 16, none⟩ = some (.int .i64 c.cl) := cell_i K1.out (k := 16) (by simp [plI])
  have n2 : W.cell? ⟨w.heap.size, 17, none⟩ = some (.int .i64 c.se) := cell_i K1.out (k := 17) (by simp [plI])
  go_enter Try.func30, Try.ntmps30
  go_upto_region 1 with fail
  rw [← hW]
  clear hW
  go_upto_region 2 with ((with_reducible refine wpList_store_cm (c := headC c) rfl (.tmp 3) (.tmp 10) rfl rfl rfl (new_zero _) ?_); intro W1 h1 b1 s1)
  clear n0 n1 n2
  replace K1 := hid (b1.at (old_at K1.out _) (by omega))
  replace K2 := hid (b1.at (old_at K2.out _) (by omega))
  have K3 := hid h1
  replace hE := b1.below (hE.alloc (by omega) _) (by omega)
  have l3 := at_lt h1
  clear h1 b1 s1
  have n0 : W1.cell? ⟨w.heap.size, 0, none⟩ = some (.int .i64 4) := by rw [cell_i K1.out (k := 0) (by simp [plI])]; exact congrArg (fun z => some (Value.int .i64 z)) hk.out
  go_upto_region 10 with fail
  clear n0
  have c1 := cells_at K1.out
  have c3 := cells_at K3.out
  go_upto_region 16 with fail
  have hS := (set_i K3.out (k := 1) (by simp [plI]) c.id)
  have hb := (But.refl W.heap.size W1).setCell 1 (.int .i64 c.id)
  have hK2 := hb.at K2.out (by omega)
  have hE2 := hb.below hE (by omega)
  clear c1 c3
  go_wp2_with (first
    | with_reducible refine wpList_load_cm rfl (.tmp 3) rfl rfl hS ?_
    | ((with_reducible refine wpList_store_cm (c := (headC c).setI 1 c.id) rfl (.tmp 2) (.tmp 59) rfl rfl rfl hK2 ?_); intro W9 h9 b9 s9))
  exact bodyPost_ret (v := ((headC c).setI 1 c.id).v) (results_shape rfl h9) rfl ⟨rfl, b9.below hE2 (by omega)⟩
set_option maxRecDepth 100000 in
set_option maxHeartbeats 4000000 in
theorem shape5 (w : World) (c : Cm) (hk : Hid (c.kd = 5)) : Calls Try.prog 30 #[c.v] w fun e w' => e = .returned (((headC c).setI 2 c.wh).setI 3 c.tt).v ∧ Below w.heap.size w w' := by
  obtain ⟨W, hW⟩ : ∃ W, W = (w.alloc c.o).alloc zeroO := ⟨_, rfl⟩
  have hE : Below w.heap.size w W := by rw [hW]; exact Go.Joins.below_alloc2 _ _ _
  have K1 := hid (show W.heap[w.heap.size]? = some c.o by rw [hW]; exact old_at (new_at _ _ _ rfl) _)
  have K2 := hid (show W.heap[w.heap.size + 1]? = some zC.o by rw [hW]; exact new_at _ _ _ (by simp))
  have l2 : w.heap.size + 1 < W.heap.size := at_lt K2.out
  have n0 : W.cell? ⟨w.heap.size, 0, none⟩ = some (.int .i64 c.kd) := cell_i K1.out (k := 0) (by simp [plI])
  have n1 : W.cell? ⟨w.heap.size, 16, none⟩ = some (.int .i64 c.cl) := cell_i K1.out (k := 16) (by simp [plI])
  have n2 : W.cell? ⟨w.heap.size, 17, none⟩ = some (.int .i64 c.se) := cell_i K1.out (k := 17) (by simp [plI])
  go_enter Try.func30, Try.ntmps30
  go_upto_region 1 with fail
  rw [← hW]
  clear hW
  go_upto_region 2 with ((with_reducible refine wpList_store_cm (c := headC c) rfl (.tmp 3) (.tmp 10) rfl rfl rfl (new_zero _) ?_); intro W1 h1 b1 s1)
  clear n0 n1 n2
  replace K1 := hid (b1.at (old_at K1.out _) (by omega))
  replace K2 := hid (b1.at (old_at K2.out _) (by omega))
  have K3 := hid h1
  replace hE := b1.below (hE.alloc (by omega) _) (by omega)
  have l3 := at_lt h1
  clear h1 b1 s1
  have n0 : W1.cell? ⟨w.heap.size, 0, none⟩ = some (.int .i64 5) := by rw [cell_i K1.out (k := 0) (by simp [plI])]; exact congrArg (fun z => some (Value.int .i64 z)) hk.out
  go_upto_region 12 with fail
  clear n0
  have c1 := cells_at K1.out
  have c3 := cells_at K3.out
  go_region
  have hS := drew_at (set_i (set_i K3.out (k := 2) (by simp [plI]) c.wh) (k := 3) (by simp [plI]) c.tt)
  have hb := (((But.refl W.heap.size W1).setCell 2 (.int .i64 c.wh)).setCell 3 (.int .i64 c.tt)).drew
  have hK2 := hb.at K2.out (by omega)
  have hE2 := hb.below hE (by omega)
  clear c1 c3
  go_wp2_with (first
    | with_reducible refine wpList_load_cm rfl (.tmp 3) rfl rfl hS ?_
    | ((with_reducible refine wpList_store_cm (c := ((headC c).setI 2 c.wh).setI 3 c.tt) rfl (.tmp 2) (.tmp 59) rfl rfl rfl hK2 ?_); intro W9 h9 b9 s9))
  exact bodyPost_ret (v := (((headC c).setI 2 c.wh).setI 3 c.tt).v) (results_shape rfl h9) rfl ⟨rfl, b9.below hE2 (by omega)⟩
set_option maxRecDepth 100000 in
set_option maxHeartbeats 4000000 in
theorem shape6 (w : World) (c : Cm) (hk : Hid (c.kd = 6)) : Calls Try.prog 30 #[c.v] w fun e w' => e = .returned (((((headC c).setI 18 c.r0).setI 19 c.r1).setI 20 c.r2).setI 21 c.r3).v ∧ Below w.heap.size w w' := by
  obtain ⟨W, hW⟩ : ∃ W, W = (w.alloc c.o).alloc zeroO := ⟨_, rfl⟩
  have hE : Below w.heap.size w W := by rw [hW]; exact Go.Joins.below_alloc2 _ _ _
  have K1 := hid (show W.heap[w.heap.size]? = some c.o by rw [hW]; exact old_at (new_at _ _ _ rfl) _)
  have K2 := hid (show W.heap[w.heap.size + 1]? = some zC.o by rw [hW]; exact new_at _ _ _ (by simp))
  have l2 : w.heap.size + 1 < W.heap.size := at_lt K2.out
  have n0 : W.cell? ⟨w.heap.size, 0, none⟩ = some (.int .i64 c.kd) := cell_i K1.out (k := 0) (by simp [plI])
  have n1 : W.cell? ⟨w.heap.size, 16, none⟩ = some (.int .i64 c.cl) := cell_i K1.out (k := 16) (by simp [plI])
  have n2 : W.cell? ⟨w.heap.size, 17, none⟩ = some (.int .i64 c.se) := cell_i K1.out (k := 17) (by simp [plI])
  go_enter Try.func30, Try.ntmps30
  go_upto_region 1 with fail
  rw [← hW]
  clear hW
  go_upto_region 2 with ((with_reducible refine wpList_store_cm (c := headC c) rfl (.tmp 3) (.tmp 10) rfl rfl rfl (new_zero _) ?_); intro W1 h1 b1 s1)
  clear n0 n1 n2
  replace K1 := hid (b1.at (old_at K1.out _) (by omega))
  replace K2 := hid (b1.at (old_at K2.out _) (by omega))
  have K3 := hid h1
  replace hE := b1.below (hE.alloc (by omega) _) (by omega)
  have l3 := at_lt h1
  clear h1 b1 s1
  have n0 : W1.cell? ⟨w.heap.size, 0, none⟩ = some (.int .i64 6) := by rw [cell_i K1.out (k := 0) (by simp [plI])]; exact congrArg (fun z => some (Value.int .i64 z)) hk.out
  go_upto_region 15 with fail
  clear n0
  have c1 := cells_at K1.out
  have c3 := cells_at K3.out
  go_upto_region 16 with fail
  have hS := (set_i (set_i (set_i (set_i K3.out (k := 18) (by simp [plI]) c.r0) (k := 19) (by simp [plI]) c.r1) (k := 20) (by simp [plI]) c.r2) (k := 21) (by simp [plI]) c.r3)
  have hb := ((((But.refl W.heap.size W1).setCell 18 (.int .i64 c.r0)).setCell 19 (.int .i64 c.r1)).setCell 20 (.int .i64 c.r2)).setCell 21 (.int .i64 c.r3)
  have hK2 := hb.at K2.out (by omega)
  have hE2 := hb.below hE (by omega)
  clear c1 c3
  go_wp2_with (first
    | with_reducible refine wpList_load_cm rfl (.tmp 3) rfl rfl hS ?_
    | ((with_reducible refine wpList_store_cm (c := ((((headC c).setI 18 c.r0).setI 19 c.r1).setI 20 c.r2).setI 21 c.r3) rfl (.tmp 2) (.tmp 59) rfl rfl rfl hK2 ?_); intro W9 h9 b9 s9))
  exact bodyPost_ret (v := (((((headC c).setI 18 c.r0).setI 19 c.r1).setI 20 c.r2).setI 21 c.r3).v) (results_shape rfl h9) rfl ⟨rfl, b9.below hE2 (by omega)⟩
set_option maxRecDepth 100000 in
set_option maxHeartbeats 4000000 in
theorem shape7 (w : World) (c : Cm) (hk : Hid (c.kd = 7)) : Calls Try.prog 30 #[c.v] w fun e w' => e = .returned (((((headC c).setI 18 c.r0).setI 19 c.r1).setI 20 c.r2).setI 21 c.r3).v ∧ Below w.heap.size w w' := by
  obtain ⟨W, hW⟩ : ∃ W, W = (w.alloc c.o).alloc zeroO := ⟨_, rfl⟩
  have hE : Below w.heap.size w W := by rw [hW]; exact Go.Joins.below_alloc2 _ _ _
  have K1 := hid (show W.heap[w.heap.size]? = some c.o by rw [hW]; exact old_at (new_at _ _ _ rfl) _)
  have K2 := hid (show W.heap[w.heap.size + 1]? = some zC.o by rw [hW]; exact new_at _ _ _ (by simp))
  have l2 : w.heap.size + 1 < W.heap.size := at_lt K2.out
  have n0 : W.cell? ⟨w.heap.size, 0, none⟩ = some (.int .i64 c.kd) := cell_i K1.out (k := 0) (by simp [plI])
  have n1 : W.cell? ⟨w.heap.size, 16, none⟩ = some (.int .i64 c.cl) := cell_i K1.out (k := 16) (by simp [plI])
  have n2 : W.cell? ⟨w.heap.size, 17, none⟩ = some (.int .i64 c.se) := cell_i K1.out (k := 17) (by simp [plI])
  go_enter Try.func30, Try.ntmps30
  go_upto_region 1 with fail
  rw [← hW]
  clear hW
  go_upto_region 2 with ((with_reducible refine wpList_store_cm (c := headC c) rfl (.tmp 3) (.tmp 10) rfl rfl rfl (new_zero _) ?_); intro W1 h1 b1 s1)
  clear n0 n1 n2
  replace K1 := hid (b1.at (old_at K1.out _) (by omega))
  replace K2 := hid (b1.at (old_at K2.out _) (by omega))
  have K3 := hid h1
  replace hE := b1.below (hE.alloc (by omega) _) (by omega)
  have l3 := at_lt h1
  clear h1 b1 s1
  have n0 : W1.cell? ⟨w.heap.size, 0, none⟩ = some (.int .i64 7) := by rw [cell_i K1.out (k := 0) (by simp [plI])]; exact congrArg (fun z => some (Value.int .i64 z)) hk.out
  go_upto_region 15 with fail
  clear n0
  have c1 := cells_at K1.out
  have c3 := cells_at K3.out
  go_upto_region 16 with fail
  have hS := (set_i (set_i (set_i (set_i K3.out (k := 18) (by simp [plI]) c.r0) (k := 19) (by simp [plI]) c.r1) (k := 20) (by simp [plI]) c.r2) (k := 21) (by simp [plI]) c.r3)
  have hb := ((((But.refl W.heap.size W1).setCell 18 (.int .i64 c.r0)).setCell 19 (.int .i64 c.r1)).setCell 20 (.int .i64 c.r2)).setCell 21 (.int .i64 c.r3)
  have hK2 := hb.at K2.out (by omega)
  have hE2 := hb.below hE (by omega)
  clear c1 c3
  go_wp2_with (first
    | with_reducible refine wpList_load_cm rfl (.tmp 3) rfl rfl hS ?_
    | ((with_reducible refine wpList_store_cm (c := ((((headC c).setI 18 c.r0).setI 19 c.r1).setI 20 c.r2).setI 21 c.r3) rfl (.tmp 2) (.tmp 59) rfl rfl rfl hK2 ?_); intro W9 h9 b9 s9))
  exact bodyPost_ret (v := (((((headC c).setI 18 c.r0).setI 19 c.r1).setI 20 c.r2).setI 21 c.r3).v) (results_shape rfl h9) rfl ⟨rfl, b9.below hE2 (by omega)⟩
set_option maxRecDepth 100000 in
set_option maxHeartbeats 4000000 in
theorem shape0 (w : World) (c : Cm) (hk : Hid ((c.kd < 1 ∨ 7 < c.kd))) : Calls Try.prog 30 #[c.v] w fun e w' => e = .returned (headC c).v ∧ Below w.heap.size w w' := by
  obtain ⟨W, hW⟩ : ∃ W, W = (w.alloc c.o).alloc zeroO := ⟨_, rfl⟩
  have hE : Below w.heap.size w W := by rw [hW]; exact Go.Joins.below_alloc2 _ _ _
  have K1 := hid (show W.heap[w.heap.size]? = some c.o by rw [hW]; exact old_at (new_at _ _ _ rfl) _)
  have K2 := hid (show W.heap[w.heap.size + 1]? = some zC.o by rw [hW]; exact new_at _ _ _ (by simp))
  have l2 : w.heap.size + 1 < W.heap.size := at_lt K2.out
  have n0 : W.cell? ⟨w.heap.size, 0, none⟩ = some (.int .i64 c.kd) := cell_i K1.out (k := 0) (by simp [plI])
  have n1 : W.cell? ⟨w.heap.size, 16, none⟩ = some (.int .i64 c.cl) := cell_i K1.out (k := 16) (by simp [plI])
  have n2 : W.cell? ⟨w.heap.size, 17, none⟩ = some (.int .i64 c.se) := cell_i K1.out (k := 17) (by simp [plI])
  go_enter Try.func30, Try.ntmps30
  go_upto_region 1 with fail
  rw [← hW]
  clear hW
  go_upto_region 2 with ((with_reducible refine wpList_store_cm (c := headC c) rfl (.tmp 3) (.tmp 10) rfl rfl rfl (new_zero _) ?_); intro W1 h1 b1 s1)
  clear n0 n1 n2
  replace K1 := hid (b1.at (old_at K1.out _) (by omega))
  replace K2 := hid (b1.at (old_at K2.out _) (by omega))
  have K3 := hid h1
  replace hE := b1.below (hE.alloc (by omega) _) (by omega)
  have l3 := at_lt h1
  clear h1 b1 s1
  have n0 : W1.cell? ⟨w.heap.size, 0, none⟩ = some (.int .i64 c.kd) := cell_i K1.out (k := 0) (by simp [plI])
  have q1 : (c.kd == 1) = false := by have := hk.out; simp; omega
  have q2 : (c.kd == 2) = false := by have := hk.out; simp; omega
  have q3 : (c.kd == 3) = false := by have := hk.out; simp; omega
  have q4 : (c.kd == 4) = false := by have := hk.out; simp; omega
  have q5 : (c.kd == 5) = false := by have := hk.out; simp; omega
  have q6 : (c.kd == 6) = false := by have := hk.out; simp; omega
  have q7 : (c.kd == 7) = false := by have := hk.out; simp; omega
  go_upto_region 16 with fail
  clear n0
  have hS := K3.out
  have hb := But.refl W.heap.size W1
  have hK2 := hb.at K2.out (by omega)
  have hE2 := hb.below hE (by omega)
  go_wp2_with (first
    | with_reducible refine wpList_load_cm rfl (.tmp 3) rfl rfl hS ?_
    | ((with_reducible refine wpList_store_cm (c := headC c) rfl (.tmp 2) (.tmp 59) rfl rfl rfl hK2 ?_); intro W9 h9 b9 s9))
  exact bodyPost_ret (v := (headC c).v) (results_shape rfl h9) rfl ⟨rfl, b9.below hE2 (by omega)⟩
theorem ref_shape (w : World) (c : Cm) : Calls Try.prog 30 #[c.v] w fun e w' => e = .returned (shapeC c).v ∧ Below w.heap.size w w' := by
  unfold shapeC
  by_cases h1 : c.kd = 1
  · rw [if_pos h1]; exact shape1 w c (hid h1)
  rw [if_neg h1]
  by_cases h2 : c.kd = 2
  · rw [if_pos h2]; exact shape2 w c (hid h2)
  rw [if_neg h2]
  by_cases h3 : c.kd = 3
  · rw [if_pos h3]; exact shape3 w c (hid h3)
  rw [if_neg h3]
  by_cases h4 : c.kd = 4
  · rw [if_pos h4]; exact shape4 w c (hid h4)
  rw [if_neg h4]
  by_cases h5 : c.kd = 5
  · rw [if_pos h5]; exact shape5 w c (hid h5)
  rw [if_neg h5]
  by_cases h6 : c.kd = 6
  · rw [if_pos (.inl h6)]; exact shape6 w c (hid h6)
  by_cases h7 : c.kd = 7
  · rw [if_pos (.inr h7)]; exact shape7 w c (hid h7)
  rw [if_neg (by omega)]
  exact shape0 w c (hid (by omega))
end
end Go.Proofs.Ythgnmpgdlemdlaa
