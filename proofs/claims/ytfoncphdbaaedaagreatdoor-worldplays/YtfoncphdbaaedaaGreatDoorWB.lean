/- Contract of squeeze of the package world: what is done where a cell is full. No conditions beyond those typed. Contracts of the package world, first part: a world's block holds what a table's does; New, Copy, All, See, Len. No conditions beyond those typed. -/
import Derived.Test.YtfoncphdbaaedaaGreatDoorAc5
import Derived.Test.YtfoncphdbaaedaaGreatDoorAcT
import Derived.Test.YtfoncphdbaaedaaGreatDoorTake
import Derived.Test.YtfoncphdbaaedaaGreatDoorWA
namespace Go.Proofs.YtfoncphdbaaedaaGreatDoor
section
open Go.RowKit Go.Maps
set_option linter.unusedVariables false
set_option maxRecDepth 100000
theorem Kept.mono {K K' : List Nat} {w w' : World} (h : Kept K w w') (hs : ∀ k, k ∈ K' → k ∈ K) : Kept K' w w' := fun k hk => h k (hs k hk)
theorem TK.drop {W0 W : World} {tb : Nat} {L : List Th} {K K' : List Nat} (h : TK W0 W tb L K) (hs : ∀ k, k ∈ K' → k ∈ K) : TK W0 W tb L K' := by
  obtain ⟨X, h1, h2⟩ := h.has
  exact ⟨X, h1, fun k hk => h2 k (hs k hk)⟩
/-- what lies below the table is none of its own -/
theorem TK.under {W0 W : World} {tb : Nat} {L : List Th} {K R : List Nat} (h : TK W0 W tb L K) (hR : ∀ k, k ∈ R → k < W0.heap.size) : TK W0 W tb L (R ++ K) := by
  obtain ⟨X, h1, h2⟩ := h.has
  have hs := h1.below.size
  refine ⟨X, h1, fun k hk => ?_⟩
  rcases List.mem_append.1 hk with hk | hk
  · have := hR k hk
    exact ⟨by omega, fun hm => by have := (h1.lt k hm).1; omega⟩
  · exact h2 k hk
set_option maxHeartbeats 2000000 in
theorem sq_full {W0 w : World} {tb : Nat} {L : List Th} {K : List Nat} (h : TK W0 w tb L K) {c : Cm} (hk : ¬ c.kd = 2) (id : Int) (hf : 200 ≤ L.length) :
    Calls Tryz.prog 33 #[.pointer (some ⟨tb, 0, none⟩), c.v, .int .i64 id] w fun e w' => e = .returned (.tuple #[.int .i64 0, .int .i64 16]) ∧ TK W0 w' tb L K ∧ Kept K w w' := by
  obtain ⟨W, hW⟩ : ∃ W, W = w.alloc c.o := ⟨_, rfl⟩
  have hB : Below w.heap.size w W := by rw [hW]; exact below1 _ _
  have K1 := hid (show W.heap[w.heap.size]? = some c.o by rw [hW]; exact new_at _ _ _ rfl)
  have n0 : W.cell? ⟨w.heap.size, 0, none⟩ = some (.int .i64 c.kd) := cell_i K1.out (k := 0) (by simp [plI])
  obtain ⟨n, hn⟩ : ∃ n, Hid (L.length = n) := ⟨_, rfl⟩
  have T2 := hid (h.later hB)
  have hK2 := hid (h.kept hB)
  have C := tk_len T2.out hn
  have e1 : ((c.kd : Int) == 2) = false := by simp [hk]
  have hf2 : (200 : Int) ≤ (n : Int) := by rw [← hn.out]; omega
  clear h hk hf
  go_enter Tryz.func33, Tryz.ntmps33
  go_upto_region 1 with fail
  rw [← hW]
  clear hW
  go_wp2_with fail
  refine C.mono ?_
  rintro y w2 ⟨rfl, hw2⟩
  rw [hw2]
  clear hw2 w2
  go_wp2_with fail
  exact bodyPost_ret (v := .tuple #[.int .i64 0, .int .i64 16]) (by simp [results, Tryz.results33, go_sem]) rfl ⟨rfl, T2.out, hK2.out⟩
set_option maxHeartbeats 2000000 in
theorem sq_put {W0 w : World} {tb : Nat} {L : List Th} {K : List Nat} (h : TK W0 w tb L K) {c : Cm} (hc : inC c) (hk : ¬ c.kd = 2) {id : Int} (hf : ¬ 200 ≤ L.length) {n x : Int} {L' : List Th} (hx : Hid (tpE (putT c id) L = x)) (hN : Hid ((if x = 0 then id else 0) = n)) (hL : Hid (tpL (putT c id) L = L')) :
    Calls Tryz.prog 33 #[.pointer (some ⟨tb, 0, none⟩), c.v, .int .i64 id] w fun e w' => e = .returned (.tuple #[.int .i64 n, .int .i64 x]) ∧ TK W0 w' tb L' K ∧ Kept K w w' := by
  obtain ⟨W, hW⟩ : ∃ W, W = w.alloc c.o := ⟨_, rfl⟩
  have hB : Below w.heap.size w W := by rw [hW]; exact below1 _ _
  have K1 := hid (show W.heap[w.heap.size]? = some c.o by rw [hW]; exact new_at _ _ _ rfl)
  have n0 : W.cell? ⟨w.heap.size, 0, none⟩ = some (.int .i64 c.kd) := cell_i K1.out (k := 0) (by simp [plI])
  obtain ⟨m, hm⟩ : ∃ m, Hid (L.length = m) := ⟨_, rfl⟩
  have T2 := hid (h.later hB)
  have hK2 := hid (h.kept hB)
  have C := tk_len T2.out hm
  have e1 : ((c.kd : Int) == 2) = false := by simp [hk]
  have hf2 : ¬ (200 : Int) ≤ (m : Int) := by rw [← hm.out]; omega
  have hIn := hid (show inT (⟨id, c.x, c.y, c.f0, c.f1, c.f2, c.f3⟩ : Th) from ⟨hc.1, hc.2.1, hc.2.2.1, hc.2.2.2.1⟩)
  have hx2 : Hid (tpE ⟨id, c.x, c.y, c.f0, c.f1, c.f2, c.f3⟩ L = x) := hx
  have hL2 : Hid (tpL ⟨id, c.x, c.y, c.f0, c.f1, c.f2, c.f3⟩ L = L') := hL
  clear h hk hf hc hx hL
  go_enter Tryz.func33, Tryz.ntmps33
  go_upto_region 1 with fail
  rw [← hW]
  clear hW
  go_wp2_with fail
  refine C.mono ?_
  rintro y w2 ⟨rfl, hw2⟩
  rw [hw2]
  clear hw2 w2 n0 C
  have c3 := cells_at K1.out
  go_wp2_with fail
  with_reducible refine (tk_put (t := ⟨id, c.x, c.y, c.f0, c.f1, c.f2, c.f3⟩) T2.out hIn.out hx2 hL2).mono ?_
  rintro y w4 ⟨rfl, hT, hK⟩
  clear c3 e1 T2
  by_cases hx0 : x = 0
  · have e2 : ((x : Int) != 0) = false := by simp [hx0]
    have e3 : id = n := by rw [← hN.out, if_pos hx0]
    subst e3
    have hx0' := hid hx0
    clear hx0
    go_wp2_with fail
    exact bodyPost_ret (v := .tuple #[.int .i64 id, .int .i64 0]) (by simp [results, Tryz.results33, go_sem]) rfl ⟨by rw [hx0'.out], hT, hK2.out.trans hK⟩
  · have e2 : ((x : Int) != 0) = true := by simp [hx0]
    have e3 : 0 = n := by rw [← hN.out, if_neg hx0]
    subst e3
    go_wp2_with fail
    exact bodyPost_ret (v := .tuple #[.int .i64 0, .int .i64 x]) (by simp [results, Tryz.results33, go_sem]) rfl ⟨rfl, hT, hK2.out.trans hK⟩
set_option maxHeartbeats 4000000 in
theorem sq_move {W0 w : World} {tb : Nat} {L : List Th} {K0 : List Nat} (h : TK W0 w tb L K0) {c : Cm} (hk : c.kd = 2) (hi : inI c.id) (id : Int) {x : Int} {L' : List Th} (hx : Hid (tsE (movT (thOf L c.id) c) L = x)) (hL : Hid (tsL (movT (thOf L c.id) c) L = L')) :
    Calls Tryz.prog 33 #[.pointer (some ⟨tb, 0, none⟩), c.v, .int .i64 id] w fun e w' => e = .returned (.tuple #[.int .i64 c.id, .int .i64 x]) ∧ TK W0 w' tb L' K0 ∧ Kept K0 w w' := by
  obtain ⟨W, hW⟩ : ∃ W, W = w.alloc c.o := ⟨_, rfl⟩
  have hB : Below w.heap.size w W := by rw [hW]; exact below1 _ _
  have K1 := hid (show W.heap[w.heap.size]? = some c.o by rw [hW]; exact new_at _ _ _ rfl)
  have htin := thOf_in h.good c.id
  obtain ⟨t, ht⟩ : ∃ t, Hid ((findT c.id L).getD zT = t) := ⟨_, rfl⟩
  obtain ⟨p, hp⟩ : ∃ p, Hid (hasT c.id L = p) := ⟨_, rfl⟩
  have e0 : thOf L c.id = t := ht.out
  rw [e0] at htin hx hL
  have T := hid (h.also hB (g := w.heap.size) (Nat.le_refl _) (lt_of_at K1.out))
  have hK1 := hid (h.kept hB)
  have C := tk_get T.out hi ht hp
  have hIn := hid (show inT (⟨t.id, c.x, c.y, t.f0, t.f1, t.f2, t.f3⟩ : Th) from htin)
  have e1 : ((c.kd : Int) == 2) = true := by simp [hk]
  have n0 : W.cell? ⟨w.heap.size, 0, none⟩ = some (.int .i64 c.kd) := cell_i K1.out (k := 0) (by simp [plI])
  have n1 : W.cell? ⟨w.heap.size, 1, none⟩ = some (.int .i64 c.id) := cell_i K1.out (k := 1) (by simp [plI])
  clear h hi hk htin e0
  have hx2 : Hid (tsE ⟨t.id, c.x, c.y, t.f0, t.f1, t.f2, t.f3⟩ L = x) := hx
  have hL2 : Hid (tsL ⟨t.id, c.x, c.y, t.f0, t.f1, t.f2, t.f3⟩ L = L') := hL
  clear hx hL
  go_enter Tryz.func33, Tryz.ntmps33
  go_upto_region 1 with fail
  rw [← hW]
  clear hW
  go_wp2_with fail
  refine C.mono ?_
  rintro y w2 ⟨rfl, hb2⟩
  obtain ⟨W3, hW3⟩ : ∃ W3, w2.alloc t.o = W3 := ⟨_, rfl⟩
  have hb3 : Below W.heap.size W W3 := by rw [← hW3]; exact hb2.alloc hb2.size _
  have K3 := hid (var_on hb3 K1.out (lt_of_at K1.out))
  have J3 := hid (show W3.heap[w2.heap.size]? = some t.o by rw [← hW3]; exact new_at _ _ _ rfl)
  have hB3 := below_on hB hb3
  have hlW := lt_of_at K1.out
  have hg : W.heap.size ≤ w2.heap.size := hb2.size
  have hgc : w.heap.size ≠ w2.heap.size := by have := hb2.size; omega
  have hl3 : w2.heap.size < W3.heap.size := lt_of_at J3.out
  clear C hb2 hB K1 n0 n1
  unfold Th.o at hW3
  have HW3 := hid hW3
  clear hW3
  go_upto_region 3 with fail
  rw [HW3.out]
  clear HW3
  obtain ⟨g, hgg⟩ : ∃ g, w2.heap.size = g := ⟨_, rfl⟩
  rw [hgg] at J3 hg hgc hl3 ⊢
  clear hgg
  have n4 : W3.cell? ⟨w.heap.size, 4, none⟩ = some (.int .i64 c.x) := cell_i K3.out (k := 4) (by simp [plI])
  have n5 : W3.cell? ⟨w.heap.size, 5, none⟩ = some (.int .i64 c.y) := cell_i K3.out (k := 5) (by simp [plI])
  have c3 := cells_at J3.out
  go_upto_region 4 with fail
  have J5 := set_pt (x := c.x) (y := c.y) J3.out
  have hW5 := below_set2 hb3 hg 1 2 (.int .i64 c.x) (.int .i64 c.y)
  have K5 : ((W3.setCell ⟨g, 1, none⟩ (.int .i64 c.x)).setCell ⟨g, 2, none⟩ (.int .i64 c.y)).heap[w.heap.size]? = some c.o := by
    have h1 := var_on (below_set2 (Below.refl g W3) (Nat.le_refl g) 1 2 (.int .i64 c.x) (.int .i64 c.y)) K3.out
    exact h1 (by omega)
  have hs5 : g < ((W3.setCell ⟨g, 1, none⟩ (.int .i64 c.x)).setCell ⟨g, 2, none⟩ (.int .i64 c.y)).heap.size := lt_of_at J5
  obtain ⟨W5, hW5e⟩ : ∃ W5, (W3.setCell ⟨g, 1, none⟩ (.int .i64 c.x)).setCell ⟨g, 2, none⟩ (.int .i64 c.y) = W5 := ⟨_, rfl⟩
  rw [hW5e] at J5 hW5 K5 hs5 ⊢
  clear hW5e c3 n4 n5 e1 J3 K3 hB3 hb3 hl3
  have T5 := hid (T.out.also hW5 hg hs5)
  have hK5 := hid (hK1.out.trans ((T.out.drop (K' := K0) (fun k hk => by simp [hk])).kept hW5))
  have S0 : W5.cell? ⟨w.heap.size, 1, none⟩ = some (.int .i64 c.id) := cell_i K5 (k := 1) (by simp [plI])
  have S1 : W5.heap[g]? = some (⟨t.id, c.x, c.y, t.f0, t.f1, t.f2, t.f3⟩ : Th).o := J5
  clear K5 J5
  refine wp_region_held_drew (S := fun w' => w'.cell? ⟨w.heap.size, 1, none⟩ = some (.int .i64 c.id) ∧ w'.heap[g]? = some (⟨t.id, c.x, c.y, t.f0, t.f1, t.f2, t.f3⟩ : Th).o) (by kernel_rfl) ⟨S0, S1⟩ (fun hHeld => ?_)
  refine take_yes (i := 0) (v := ?v0) rfl (by kernel_rfl) (by kernel_rfl) (by kernel_rfl) (fun _ _ _ h => h) (by rfl) ?hy0 hHeld ?rest0
  case hy0 =>
    intro w' hSw
    go_simp <;> with_reducible rfl
  try simp only [Act.put, List.setIfInBounds_toArray, List.set_cons_zero, List.set_cons_succ]
  refine take_yes (i := 1) (v := ?v1) rfl (by kernel_rfl) (by kernel_rfl) (by kernel_rfl) (fun _ _ _ h => h) (by rfl) ?hy1 hHeld ?rest1
  case hy1 =>
    intro w' hSw
    obtain ⟨hSc, -⟩ := hSw
    go_simp <;> with_reducible rfl
  try simp only [Act.put, List.setIfInBounds_toArray, List.set_cons_zero, List.set_cons_succ]
  refine take_yes (i := 2) (v := ?v2) rfl (by kernel_rfl) (by kernel_rfl) (by kernel_rfl) (fun _ _ _ h => h) (by rfl) ?hy2 hHeld ?rest2
  case hy2 =>
    intro w' hSw
    go_simp <;> with_reducible rfl
  try simp only [Act.put, List.setIfInBounds_toArray, List.set_cons_zero, List.set_cons_succ]
  refine take_yes (i := 3) (v := (⟨t.id, c.x, c.y, t.f0, t.f1, t.f2, t.f3⟩ : Th).v) rfl (by kernel_rfl) (by kernel_rfl) (by kernel_rfl) (fun _ _ _ h => h) (by rfl) ?hy3 hHeld ?rest3
  case hy3 =>
    intro w' hSw
    have c5 := cells_at hSw.2
    clear hSw
    go_simp <;> with_reducible rfl
  try simp only [Act.put, List.setIfInBounds_toArray, List.set_cons_zero, List.set_cons_succ]
  refine wpAnyH_ready (rs := [4]) (by kernel_rfl) (by simp) (cons_at (i := 4) rfl (fun K hK => ?_) AllReadyH.nil)
  go_simp
  go_at_call 48
  with_reducible refine (tk_set (t := ⟨t.id, c.x, c.y, t.f0, t.f1, t.f2, t.f3⟩) (T5.out.later (by first | exact Below.refl _ _ | exact (Below.refl _ _).drew)) hIn.out hx2 hL2).mono ?_
  rintro y w6 ⟨rfl, hT, hKt⟩
  have S2 := hKt.cell (g := w.heap.size) (by simp) S0
  have S3 := hKt.at (g := g) (by simp) S1
  have HT := hid (hT.drop (K' := K0) (fun k hk => by simp [hk]))
  have HKt := hid (hKt.mono (K' := K0) (fun k hk => by simp [hk]))
  clear hT hKt
  go_wp2_with fail
  refine hK.out _ _ ⟨S2, S3⟩ (fun hHeld => ?_)
  clear hK K
  try simp only [Act.put, List.setIfInBounds_toArray, List.set_cons_zero, List.set_cons_succ]
  refine take_yes (i := 5) (v := ?v5) rfl (by kernel_rfl) (by kernel_rfl) (by kernel_rfl) (fun _ _ _ h => h) (by rfl) ?hy5 hHeld ?rest5
  case hy5 =>
    intro w' hSw
    go_simp <;> with_reducible rfl
  try simp only [Act.put, List.setIfInBounds_toArray, List.set_cons_zero, List.set_cons_succ]
  refine take_yes (i := 6) (v := ?v6) rfl (by kernel_rfl) (by kernel_rfl) (by kernel_rfl) (fun _ _ _ h => h) (by rfl) ?hy6 hHeld ?rest6
  case hy6 =>
    intro w' hSw
    go_simp <;> with_reducible rfl
  try simp only [Act.put, List.setIfInBounds_toArray, List.set_cons_zero, List.set_cons_succ]
  refine wpAnyH_done (by kernel_rfl) ?_ _
  go_wp2_with fail
  exact bodyPost_ret (v := .tuple #[.int .i64 c.id, .int .i64 x]) (by simp [results, Tryz.results33, go_sem]) rfl ⟨rfl, HT.out, hK5.out.trans HKt.out⟩
theorem exec_load_cm {o : Oper} {a : Act} {W : World} (x : Operand) (ho : o.op = .load 37 x) {g : Nat} {c : Cm} (hx : a.eval x = .pointer (some ⟨g, 0, none⟩)) (h : W.heap[g]? = some c.o) : (execOp a.eval o).run Tryz.prog W = .ok (.value c.v) W := by
  unfold execOp
  simp only [ho, hx, Sem.run_bind, load_at h, Result.andThen_ok, Sem.run_pure]
end
section
open Go.RowKit Go.Maps
set_option linter.unusedVariables false
set_option maxRecDepth 100000
/-- a table's cells in a new block -/
theorem tk_box {W0 W : World} {tb bm qb : Nat} {v : Value} {L : List Th} (h : TB0 W0 W tb bm qb v L) (ty : TypeId) : TK W0 (W.alloc (tabO ty bm qb)) W.heap.size L [] := by
  have hlt := h.lt
  refine ⟨_, ⟨bm, qb, v, ⟨⟨ty, new_at _ _ _ rfl⟩, h.map.later (below1 _ _), h.tree.later (below1 _ _), h.good, h.below.size, h.lom, ?_, h.ne2, h.below.alloc h.below.size _, h.masks⟩, rfl⟩, fun k hk => by cases hk⟩
  intro hm
  have := (hlt _ (List.mem_cons_of_mem _ (List.mem_cons_of_mem _ hm))).2
  omega
theorem wd_new {w : World} (hM : Masks w) : Calls Tryz.prog 8 #[] w fun e w' => ∃ wb, e = .returned (.pointer (some ⟨wb, 0, none⟩)) ∧ TK w w' wb [] [] := by
  have C := tb_new hM
  go_enter Tryz.func8, Tryz.ntmps8
  go_wp2_with fail
  refine C.mono ?_
  rintro x W1 ⟨tb, X, rfl, bm, qb, v, H, rfl⟩
  have HH := hid H
  have c := cells_at H.at_
  clear H C
  go_wp2_with fail
  go_ret
  exact ⟨_, rfl, tk_box HH.out _⟩
theorem wd_copy {W0 w : World} {wb : Nat} {L : List Th} {K : List Nat} (h : TK W0 w wb L K) : Calls Tryz.prog 10 #[.pointer (some ⟨wb, 0, none⟩)] w fun e w' => ∃ cb, e = .returned (.pointer (some ⟨cb, 0, none⟩)) ∧ TK w w' cb L [] := by
  obtain ⟨X, h1, h2⟩ := h.has
  have C := tb_copy h1
  clear h h1 h2
  go_enter Tryz.func10, Tryz.ntmps10
  go_wp2_with fail
  refine C.mono ?_
  rintro x W1 ⟨cb, Y, rfl, bm, qb, v, H, rfl⟩
  have HH := hid H
  have c := cells_at H.at_
  clear H C
  go_wp2_with fail
  go_ret
  exact ⟨_, rfl, tk_box HH.out _⟩
theorem wd_all {W0 w : World} {wb : Nat} {L : List Th} {K : List Nat} (h : TK W0 w wb L K) {n : Nat} (hn : Hid (L.length = n)) :
    Calls Tryz.prog 14 #[.pointer (some ⟨wb, 0, none⟩)] w fun e w' => ∃ p cap, e = .returned (.slice p n cap) ∧ RowT w' p L ∧ Below w.heap.size w w' := by
  have C := tk_all h hn
  clear h hn
  go_enter Tryz.func14, Tryz.ntmps14
  go_wp2_with fail
  refine C.mono ?_
  rintro x W1 ⟨p, cap, rfl, hr, hb⟩
  clear C
  go_wp2_with fail
  go_ret
  exact ⟨p, cap, rfl, hr, hb⟩
theorem wd_see {W0 w : World} {wb : Nat} {L : List Th} {K : List Nat} (h : TK W0 w wb L K) (r0 r1 r2 r3 : Int) {M : List Th} (hM : Hid (inT_r ⟨r0, r1, r2, r3⟩ L = M)) {n : Nat} (hn : Hid (M.length = n)) :
    Calls Tryz.prog 15 #[.pointer (some ⟨wb, 0, none⟩), rc r0 r1 r2 r3] w fun e w' => ∃ p cap, e = .returned (.slice p n cap) ∧ RowT w' p M ∧ Below w.heap.size w w' := by
  obtain ⟨W, hW⟩ : ∃ W, w.alloc (.cells #[.int .i64 r0, .int .i64 r1, .int .i64 r2, .int .i64 r3] 25) = W := ⟨_, rfl⟩
  have hB : Below w.heap.size w W := by rw [← hW]; exact below1 _ _
  have K1 : W.heap[w.heap.size]? = some (.cells #[.int .i64 r0, .int .i64 r1, .int .i64 r2, .int .i64 r3] 25 (0, 0)) := by rw [← hW]; exact new_at _ _ _ rfl
  have T := hid (h.later hB)
  clear h
  go_enter Tryz.func15, Tryz.ntmps15
  go_upto_region 1 with fail
  try rw [hW]
  clear hW
  obtain ⟨cr, -⟩ := cells_at K1
  have q0 : W.cell? ⟨w.heap.size, 0, none⟩ = some (.int .i64 r0) := cr 0
  have q1 : W.cell? ⟨w.heap.size, 1, none⟩ = some (.int .i64 r1) := cr 1
  have q2 : W.cell? ⟨w.heap.size, 2, none⟩ = some (.int .i64 r2) := cr 2
  have q3 : W.cell? ⟨w.heap.size, 3, none⟩ = some (.int .i64 r3) := cr 3
  clear cr K1
  go_region_held3 (fun w' => w'.cell? ⟨w.heap.size, 0, none⟩ = some (.int .i64 r0) ∧ w'.cell? ⟨w.heap.size, 1, none⟩ = some (.int .i64 r1) ∧ w'.cell? ⟨w.heap.size, 2, none⟩ = some (.int .i64 r2) ∧ w'.cell? ⟨w.heap.size, 3, none⟩ = some (.int .i64 r3))
    (first | go_keep | (go_split_ands; refine ⟨?_, ?_, ?_, ?_⟩ <;> exact cell_below hbK (by assumption)))
    (first
      | (go_at_call 26; with_reducible refine (tk_in (T.out.later (by first | exact Below.refl _ _ | exact (Below.refl _ _).drew)) r0 r1 r2 r3 hM hn).mono ?_; rintro z W2 ⟨p, cap, rfl, hr, hbK⟩
         have hB2 : Below w.heap.size w W2 := (by first | exact below_on hB hbK | exact below_on hB.drew hbK)))
  all_goals
    go_wp2_with fail
    go_ret
    exact ⟨p, cap, rfl, hr, hB2⟩
theorem wd_len {W0 w : World} {wb : Nat} {L : List Th} {K : List Nat} (h : TK W0 w wb L K) {n : Nat} (hn : Hid (L.length = n)) :
    Calls Tryz.prog 17 #[.pointer (some ⟨wb, 0, none⟩)] w fun e w' => e = .returned (.int .i64 (n : Nat)) ∧ w' = w := by
  have C := tk_len h hn
  clear h hn
  go_enter Tryz.func17, Tryz.ntmps17
  go_wp2_with fail
  refine C.mono ?_
  rintro x W1 ⟨rfl, hw⟩
  rw [hw]
  clear C
  go_wp2_with fail
  go_ret
  exact ⟨rfl, rfl⟩
end
end Go.Proofs.YtfoncphdbaaedaaGreatDoor
