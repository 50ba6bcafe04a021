/- The statements' known(): its fixed examples hold. -/
import Derived.Test.YtjdlcocncacmlaaDC
namespace Go.Proofs.Ytjdlcocncacmlaa
open Go.RowKit
set_option linter.unusedVariables false
set_option linter.unusedSimpArgs false
def n1 : Th := ⟨1, 1, 0, zF, zF, zF, zF⟩
def n2 : Th := ⟨2, 9, 0, zF, zF, zF, zF⟩
def n3 : Th := ⟨2, 2, 0, zF, zF, zF, zF⟩
def nR : Rc := ⟨0, 0, 5, 5⟩
theorem n_seen : seenL nR [n1, n2] = [n1] := rfl
theorem n_seen3 : seenL nR [n3] = [n3] := rfl
theorem n_do : doO (seenL nR [n1, n2]) (seenL nR [n3]) = [leE n1, enE n3] := by
  rw [n_seen, n_seen3, doO_l _ _ (show n1.id < n3.id by decide)]; rfl
theorem n_do0 : doO (seenL nR [n1, n2]) (seenL nR [n1, n2]) = [] := doO_self _
theorem rowT_block {W : World} {g : Nat} {cs : Array Value} {ty : TypeId} {L : List Th} (h : W.heap[g]? = some (.cells cs ty (0, 0))) (hc : cs.toList = flatT L) : RowT W (some ⟨g, 0, none⟩) L := by
  refine .inr ⟨g, 0, rfl, fun k t hk => cellsT_of fun j hj => ?_⟩
  rw [Nat.zero_add, Go.Joins.cell_of_block h, ← flatT_get L k t hk j hj, ← hc]
  simp
set_option maxRecDepth 100000 in
set_option maxHeartbeats 8000000 in
theorem known_holds (w : World) : Calls Try.prog 8 #[] w fun e w' => e = .returned (.bool true) ∧ Below w.heap.size w w' := by
  obtain ⟨Q, hQ⟩ : ∃ Q : Ending → World → Prop, Hid ((fun e w' => e = .returned (.bool true) ∧ Below w.heap.size w w') = Q) := ⟨_, rfl⟩
  rw [hQ.out]
  go_enter Try.func8, Try.ntmps8
  go_upto_region 4 with fail
  generalize hW3 : ((w.alloc _).alloc _).alloc _ = W3
  have hB3 : Below w.heap.size w W3 := by rw [← hW3]; exact (Go.Joins.below_alloc2 _ _ _).alloc (by simp; omega) _
  have HA := hid (show RowT W3 (some ⟨w.heap.size, 0, none⟩) [n1, n2] by rw [← hW3]; exact rowT_block (old_at (old_at (new_at _ _ _ rfl) _) _) rfl)
  have HB := hid (show RowT W3 (some ⟨w.heap.size + 1, 0, none⟩) [n3] by rw [← hW3]; exact rowT_block (old_at (new_at _ _ _ (by simp)) _) rfl)
  have KR := hid (show W3.heap[w.heap.size + 2]? = some (rcO 0 0 5 5) by rw [← hW3]; exact new_at _ _ _ (by simp))
  obtain ⟨g0, hg0⟩ : ∃ g, Hid (w.heap.size = g) := ⟨_, rfl⟩
  rw [hg0.out] at HA HB KR
  try rw [hg0.out]
  clear hW3
  have c := (cells_at KR.out).1
  go_wp2_with fail
  refine (diff_of (r := nR) (r' := nR) HA.out HB.out (show Hid (([n1, n2] : List Th).length = 2) from rfl) (show Hid (([n3] : List Th).length = 1) from rfl) (by decide) (by decide) (show Hid (_ = [leE n1, enE n3]) from n_do) (show Hid (([leE n1, enE n3] : List Ev).length = 2) from rfl)).mono ?_
  rintro x W4 ⟨p4, c4, rfl, ho4, hb4⟩
  obtain ⟨ge, rfl, -, -, -, -⟩ := owns_some ho4 (by decide)
  have RE := rowE_own ho4 rfl
  have HA4 := hid (HA.out.later hb4)
  have HB4 := hid (HB.out.later hb4)
  have KR4 := hid (var_on hb4 KR.out (at_lt KR.out))
  have hB4 := hid (below_on hB3 hb4)
  clear hb4 hB3 HA HB KR c ho4
  obtain ⟨b1, o1, e1, x1⟩ := RE.at (k := 0) (t := leE n1) rfl
  obtain ⟨b2, o2, e2, x2⟩ := RE.at (k := 1) (t := enE n3) rfl
  simp only [Option.some.injEq, Addr.mk.injEq, and_true] at e1 e2
  obtain ⟨rfl, rfl⟩ := e1
  obtain ⟨h1, h2⟩ := e2
  subst h1; subst h2
  have y0 : W4.cell? ⟨ge, 0, none⟩ = some (.int .i64 3) := x1 0 _ rfl
  have y1 : W4.cell? ⟨ge, 1, none⟩ = some (.int .i64 1) := x1 1 _ rfl
  have y2 : W4.cell? ⟨ge, 25, none⟩ = some (.int .i64 1) := x2 0 _ rfl
  have y3 : W4.rangeAt ge 27 n3.cs := fun j v hv => by
    have hj : j < 11 := by have := (List.getElem?_eq_some_iff.1 hv).1; exact this
    have := x2 (2 + j) v (by
      have e : (enE n3).cs = [.int .i64 1, .int .i64 2] ++ (n3.cs ++ (Dl.cs zD)) := rfl
      rw [e, List.getElem?_append_right (by simp)]
      rw [List.getElem?_append_left (by simp [Th.cs]; omega)]
      simpa using hv)
    rw [show 27 + j = 0 + 1 * 25 + (2 + j) by omega]
    exact this
  obtain ⟨b3, o3, e3, x3⟩ := HB4.out.at (k := 0) (t := n3) rfl
  simp only [Option.some.injEq, Addr.mk.injEq, and_true] at e3
  obtain ⟨rfl, rfl⟩ := e3
  have y4 : W4.rangeAt (g0 + 1) 0 n3.cs := range_th (by simpa using x3)
  have cr := (cells_at KR4.out).1
  have S0 : W4.cell? ⟨ge, 0, none⟩ = some (.int .i64 3) ∧ W4.cell? ⟨ge, 1, none⟩ = some (.int .i64 1) ∧ W4.cell? ⟨ge, 25, none⟩ = some (.int .i64 1) ∧ W4.rangeAt ge 27 n3.cs ∧ W4.rangeAt (g0 + 1) 0 n3.cs ∧ W4.cell? ⟨g0 + 2, 0, none⟩ = some (.int .i64 0) ∧ W4.cell? ⟨g0 + 2, 1, none⟩ = some (.int .i64 0) ∧ W4.cell? ⟨g0 + 2, 2, none⟩ = some (.int .i64 5) ∧ W4.cell? ⟨g0 + 2, 3, none⟩ = some (.int .i64 5) := ⟨y0, y1, y2, y3, y4, cr 0, cr 1, cr 2, cr 3⟩
  have SB : ∀ wx : World, Below W4.heap.size W4 wx → (Below W4.heap.size W4 wx ∧ wx.cell? ⟨ge, 0, none⟩ = some (.int .i64 3) ∧ wx.cell? ⟨ge, 1, none⟩ = some (.int .i64 1) ∧ wx.cell? ⟨ge, 25, none⟩ = some (.int .i64 1) ∧ wx.rangeAt ge 27 n3.cs ∧ wx.rangeAt (g0 + 1) 0 n3.cs ∧ wx.cell? ⟨g0 + 2, 0, none⟩ = some (.int .i64 0) ∧ wx.cell? ⟨g0 + 2, 1, none⟩ = some (.int .i64 0) ∧ wx.cell? ⟨g0 + 2, 2, none⟩ = some (.int .i64 5) ∧ wx.cell? ⟨g0 + 2, 3, none⟩ = some (.int .i64 5)) := fun wx hx => by
    obtain ⟨s0, s1, s2, s3, s4, s5, s6, s7, s8⟩ := S0
    exact ⟨hx, cell_below hx s0, cell_below hx s1, cell_below hx s2, range_on s3 hx, range_on s4 hx, cell_below hx s5, cell_below hx s6, cell_below hx s7, cell_below hx s8⟩
  clear x1 x2 x3 y0 y1 y2 y3 y4 cr S0 RE KR4 HB4
  have EQ := fun W : World => equal_th_at (a := n3) (b := n3) (eqT_self n3) W
  have EQ2 : ∀ W : World, (Op.equalIn 10000 40 n3.v n3.v).run Try.prog W = .ok true W := EQ
  have N2 : Hid (([n1, n2] : List Th).length = 2) := rfl
  have N1 : Hid (([n1] : List Th).length = 1) := rfl
  have N0 : Hid (([] : List Ev).length = 0) := rfl
  have NS : Hid (seenL nR [n1, n2] = [n1]) := n_seen
  have ND : Hid (doO (seenL nR [n1, n2]) (seenL nR [n1, n2]) = []) := n_do0
  have C1 : ∀ x : World, Below W4.heap.size W4 x → Calls Try.prog 15 #[.slice (some ⟨g0, 0, none⟩) 2 2, rc 0 0 5 5] x (SeenPost x [n1] 1) := fun x h => diff_seen (r := nR) (HA4.out.later h) N2 (by decide) NS N1
  have C2 : ∀ x : World, Below W4.heap.size W4 x → Calls Try.prog 12 #[.slice (some ⟨g0, 0, none⟩) 2 2, rc 0 0 5 5, .slice (some ⟨g0, 0, none⟩) 2 2, rc 0 0 5 5] x (OfPost x [] 0) := fun x h => diff_of (r := nR) (r' := nR) (HA4.out.later h) (HA4.out.later h) N2 N2 (by decide) (by decide) ND N0
  go_wp2_with fail
  refine wp_region_held_drew (S := fun w' => Below W4.heap.size W4 w' ∧ w'.cell? ⟨ge, 0, none⟩ = some (.int .i64 3) ∧ w'.cell? ⟨ge, 1, none⟩ = some (.int .i64 1) ∧ w'.cell? ⟨ge, 25, none⟩ = some (.int .i64 1) ∧ w'.rangeAt ge 27 n3.cs ∧ w'.rangeAt (g0 + 1) 0 n3.cs ∧ w'.cell? ⟨g0 + 2, 0, none⟩ = some (.int .i64 0) ∧ w'.cell? ⟨g0 + 2, 1, none⟩ = some (.int .i64 0) ∧ w'.cell? ⟨g0 + 2, 2, none⟩ = some (.int .i64 5) ∧ w'.cell? ⟨g0 + 2, 3, none⟩ = some (.int .i64 5)) (by kernel_rfl) (SB _ (Below.refl _ _).drew) (fun hHeld => ?_)
  refine take_yes (i := 0) (v := ?v0a) rfl (by kernel_rfl) (by kernel_rfl) (by kernel_rfl) (fun _ _ _ h => h) (by rfl) ?hy0a hHeld ?rest0a
  case hy0a =>
    intro w' hSw
    obtain ⟨-, s0, s1, s2, -, -, s5, s6, s7, s8⟩ := hSw
    go_simp <;> with_reducible rfl
  try simp only [Act.put, List.setIfInBounds_toArray, List.set_cons_zero, List.set_cons_succ]
  refine take_yes (i := 1) (v := ?v1a) rfl (by kernel_rfl) (by kernel_rfl) (by kernel_rfl) (fun _ _ _ h => h) (by rfl) ?hy1a hHeld ?rest1a
  case hy1a =>
    intro w' hSw
    obtain ⟨-, s0, s1, s2, -, -, s5, s6, s7, s8⟩ := hSw
    go_simp <;> with_reducible rfl
  try simp only [Act.put, List.setIfInBounds_toArray, List.set_cons_zero, List.set_cons_succ]
  refine take_yes (i := 2) (v := ?v2a) rfl (by kernel_rfl) (by kernel_rfl) (by kernel_rfl) (fun _ _ _ h => h) (by rfl) ?hy2a hHeld ?rest2a
  case hy2a =>
    intro w' hSw
    obtain ⟨-, s0, s1, s2, -, -, s5, s6, s7, s8⟩ := hSw
    go_simp <;> with_reducible rfl
  try simp only [Act.put, List.setIfInBounds_toArray, List.set_cons_zero, List.set_cons_succ]
  refine take_yes (i := 3) (v := ?v3a) rfl (by kernel_rfl) (by kernel_rfl) (by kernel_rfl) (fun _ _ _ h => h) (by rfl) ?hy3a hHeld ?rest3a
  case hy3a =>
    intro w' hSw
    obtain ⟨-, s0, s1, s2, -, -, s5, s6, s7, s8⟩ := hSw
    go_simp <;> with_reducible rfl
  try simp only [Act.put, List.setIfInBounds_toArray, List.set_cons_zero, List.set_cons_succ]
  refine take_yes (i := 4) (v := ?v4a) rfl (by kernel_rfl) (by kernel_rfl) (by kernel_rfl) (fun _ _ _ h => h) (by rfl) ?hy4a hHeld ?rest4a
  case hy4a =>
    intro w' hSw
    obtain ⟨-, s0, s1, s2, -, -, s5, s6, s7, s8⟩ := hSw
    go_simp <;> with_reducible rfl
  try simp only [Act.put, List.setIfInBounds_toArray, List.set_cons_zero, List.set_cons_succ]
  refine take_yes (i := 5) (v := ?v5a) rfl (by kernel_rfl) (by kernel_rfl) (by kernel_rfl) (fun _ _ _ h => h) (by rfl) ?hy5a hHeld ?rest5a
  case hy5a =>
    intro w' hSw
    obtain ⟨-, s0, s1, s2, -, -, s5, s6, s7, s8⟩ := hSw
    go_simp <;> with_reducible rfl
  try simp only [Act.put, List.setIfInBounds_toArray, List.set_cons_zero, List.set_cons_succ]
  refine take_yes (i := 6) (v := ?v6a) rfl (by kernel_rfl) (by kernel_rfl) (by kernel_rfl) (fun _ _ _ h => h) (by rfl) ?hy6a hHeld ?rest6a
  case hy6a =>
    intro w' hSw
    obtain ⟨-, s0, s1, s2, -, -, s5, s6, s7, s8⟩ := hSw
    go_simp <;> with_reducible rfl
  try simp only [Act.put, List.setIfInBounds_toArray, List.set_cons_zero, List.set_cons_succ]
  refine take_yes (i := 7) (v := ?v7a) rfl (by kernel_rfl) (by kernel_rfl) (by kernel_rfl) (fun _ _ _ h => h) (by rfl) ?hy7a hHeld ?rest7a
  case hy7a =>
    intro w' hSw
    obtain ⟨-, s0, s1, s2, -, -, s5, s6, s7, s8⟩ := hSw
    go_simp <;> with_reducible rfl
  try simp only [Act.put, List.setIfInBounds_toArray, List.set_cons_zero, List.set_cons_succ]
  refine take_yes (i := 8) (v := ?v8a) rfl (by kernel_rfl) (by kernel_rfl) (by kernel_rfl) (fun _ _ _ h => h) (by rfl) ?hy8a hHeld ?rest8a
  case hy8a =>
    intro w' hSw
    obtain ⟨-, s0, s1, s2, -, -, s5, s6, s7, s8⟩ := hSw
    go_simp <;> with_reducible rfl
  try simp only [Act.put, List.setIfInBounds_toArray, List.set_cons_zero, List.set_cons_succ]
  refine take_yes (i := 9) (v := ?v9a) rfl (by kernel_rfl) (by kernel_rfl) (by kernel_rfl) (fun _ _ _ h => h) (by rfl) ?hy9a hHeld ?rest9a
  case hy9a =>
    intro w' hSw
    obtain ⟨-, s0, s1, s2, -, -, s5, s6, s7, s8⟩ := hSw
    go_simp <;> with_reducible rfl
  try simp only [Act.put, List.setIfInBounds_toArray, List.set_cons_zero, List.set_cons_succ]
  refine take_yes (i := 10) (v := ?v10a) rfl (by kernel_rfl) (by kernel_rfl) (by kernel_rfl) (fun _ _ _ h => h) (by rfl) ?hy10a hHeld ?rest10a
  case hy10a =>
    intro w' hSw
    obtain ⟨-, s0, s1, s2, -, -, s5, s6, s7, s8⟩ := hSw
    go_simp <;> with_reducible rfl
  try simp only [Act.put, List.setIfInBounds_toArray, List.set_cons_zero, List.set_cons_succ]
  refine take_yes (i := 11) (v := ?v11a) rfl (by kernel_rfl) (by kernel_rfl) (by kernel_rfl) (fun _ _ _ h => h) (by rfl) ?hy11a hHeld ?rest11a
  case hy11a =>
    intro w' hSw
    obtain ⟨-, s0, s1, s2, -, -, s5, s6, s7, s8⟩ := hSw
    go_simp <;> with_reducible rfl
  try simp only [Act.put, List.setIfInBounds_toArray, List.set_cons_zero, List.set_cons_succ]
  refine take_yes (i := 12) (v := ?v12a) rfl (by kernel_rfl) (by kernel_rfl) (by kernel_rfl) (fun _ _ _ h => h) (by rfl) ?hy12a hHeld ?rest12a
  case hy12a =>
    intro w' hSw
    obtain ⟨-, s0, s1, s2, -, -, s5, s6, s7, s8⟩ := hSw
    go_simp <;> with_reducible rfl
  try simp only [Act.put, List.setIfInBounds_toArray, List.set_cons_zero, List.set_cons_succ]
  refine take_yes (i := 13) (v := ?v13a) rfl (by kernel_rfl) (by kernel_rfl) (by kernel_rfl) (fun _ _ _ h => h) (by rfl) ?hy13a hHeld ?rest13a
  case hy13a =>
    intro w' hSw
    obtain ⟨-, s0, s1, s2, -, -, s5, s6, s7, s8⟩ := hSw
    go_simp <;> with_reducible rfl
  try simp only [Act.put, List.setIfInBounds_toArray, List.set_cons_zero, List.set_cons_succ]
  refine take_yes (i := 14) (v := ?v14a) rfl (by kernel_rfl) (by kernel_rfl) (by kernel_rfl) (fun _ _ _ h => h) (by rfl) ?hy14a hHeld ?rest14a
  case hy14a =>
    intro w' hSw
    obtain ⟨-, s0, s1, s2, -, -, s5, s6, s7, s8⟩ := hSw
    go_simp <;> with_reducible rfl
  try simp only [Act.put, List.setIfInBounds_toArray, List.set_cons_zero, List.set_cons_succ]
  refine take_yes (i := 15) (v := ?v15a) rfl (by kernel_rfl) (by kernel_rfl) (by kernel_rfl) (fun _ _ _ h => h) (by rfl) ?hy15a hHeld ?rest15a
  case hy15a =>
    intro w' hSw
    obtain ⟨-, s0, s1, s2, -, -, s5, s6, s7, s8⟩ := hSw
    go_simp <;> with_reducible rfl
  try simp only [Act.put, List.setIfInBounds_toArray, List.set_cons_zero, List.set_cons_succ]
  refine take_yes (i := 16) (v := ?v16a) rfl (by kernel_rfl) (by kernel_rfl) (by kernel_rfl) (fun _ _ _ h => h) (by rfl) ?hy16a hHeld ?rest16a
  case hy16a =>
    intro w' hSw
    obtain ⟨-, s0, s1, s2, -, -, s5, s6, s7, s8⟩ := hSw
    go_simp <;> with_reducible rfl
  try simp only [Act.put, List.setIfInBounds_toArray, List.set_cons_zero, List.set_cons_succ]
  refine take_yes (i := 17) (v := ?v17a) rfl (by kernel_rfl) (by kernel_rfl) (by kernel_rfl) (fun _ _ _ h => h) (by rfl) ?hy17a hHeld ?rest17a
  case hy17a =>
    intro w' hSw
    obtain ⟨-, s0, s1, s2, -, -, s5, s6, s7, s8⟩ := hSw
    go_simp <;> with_reducible rfl
  try simp only [Act.put, List.setIfInBounds_toArray, List.set_cons_zero, List.set_cons_succ]
  refine take_yes (i := 18) (v := ?v18a) rfl (by kernel_rfl) (by kernel_rfl) (by kernel_rfl) (fun _ _ _ h => h) (by rfl) ?hy18a hHeld ?rest18a
  case hy18a =>
    intro w' hSw
    obtain ⟨-, s0, s1, s2, -, -, s5, s6, s7, s8⟩ := hSw
    go_simp <;> with_reducible rfl
  try simp only [Act.put, List.setIfInBounds_toArray, List.set_cons_zero, List.set_cons_succ]
  refine take_yes (i := 19) (v := ?v19a) rfl (by kernel_rfl) (by kernel_rfl) (by kernel_rfl) (fun _ _ _ h => h) (by rfl) ?hy19a hHeld ?rest19a
  case hy19a =>
    intro w' hSw
    obtain ⟨-, s0, s1, s2, -, -, s5, s6, s7, s8⟩ := hSw
    go_simp <;> with_reducible rfl
  try simp only [Act.put, List.setIfInBounds_toArray, List.set_cons_zero, List.set_cons_succ]
  refine take_yes (i := 20) (v := ?v20a) rfl (by kernel_rfl) (by kernel_rfl) (by kernel_rfl) (fun _ _ _ h => h) (by rfl) ?hy20a hHeld ?rest20a
  case hy20a =>
    intro w' hSw
    obtain ⟨-, s0, s1, s2, -, -, s5, s6, s7, s8⟩ := hSw
    go_simp <;> with_reducible rfl
  try simp only [Act.put, List.setIfInBounds_toArray, List.set_cons_zero, List.set_cons_succ]
  refine take_yes (i := 21) (v := ?v21a) rfl (by kernel_rfl) (by kernel_rfl) (by kernel_rfl) (fun _ _ _ h => h) (by rfl) ?hy21a hHeld ?rest21a
  case hy21a =>
    intro w' hSw
    obtain ⟨-, s0, s1, s2, -, -, s5, s6, s7, s8⟩ := hSw
    go_simp <;> with_reducible rfl
  try simp only [Act.put, List.setIfInBounds_toArray, List.set_cons_zero, List.set_cons_succ]
  refine take_yes (i := 22) (v := ?v22a) rfl (by kernel_rfl) (by kernel_rfl) (by kernel_rfl) (fun _ _ _ h => h) (by rfl) ?hy22a hHeld ?rest22a
  case hy22a =>
    intro w' hSw
    obtain ⟨-, s0, s1, s2, -, -, s5, s6, s7, s8⟩ := hSw
    go_simp <;> with_reducible rfl
  try simp only [Act.put, List.setIfInBounds_toArray, List.set_cons_zero, List.set_cons_succ]
  refine take_yes (i := 23) (v := ?v23a) rfl (by kernel_rfl) (by kernel_rfl) (by kernel_rfl) (fun _ _ _ h => h) (by rfl) ?hy23a hHeld ?rest23a
  case hy23a =>
    intro w' hSw
    obtain ⟨-, s0, s1, s2, -, -, s5, s6, s7, s8⟩ := hSw
    go_simp <;> with_reducible rfl
  try simp only [Act.put, List.setIfInBounds_toArray, List.set_cons_zero, List.set_cons_succ]
  refine take_yes (i := 24) (v := ?v24a) rfl (by kernel_rfl) (by kernel_rfl) (by kernel_rfl) (fun _ _ _ h => h) (by rfl) ?hy24a hHeld ?rest24a
  case hy24a =>
    intro w' hSw
    obtain ⟨-, s0, s1, s2, -, -, s5, s6, s7, s8⟩ := hSw
    go_simp <;> with_reducible rfl
  try simp only [Act.put, List.setIfInBounds_toArray, List.set_cons_zero, List.set_cons_succ]
  refine take_yes (i := 25) (v := ?v25a) rfl (by kernel_rfl) (by kernel_rfl) (by kernel_rfl) (fun _ _ _ h => h) (by rfl) ?hy25a hHeld ?rest25a
  case hy25a =>
    intro w' hSw
    obtain ⟨-, s0, s1, s2, -, -, s5, s6, s7, s8⟩ := hSw
    go_simp <;> with_reducible rfl
  try simp only [Act.put, List.setIfInBounds_toArray, List.set_cons_zero, List.set_cons_succ]
  refine take_yes (i := 26) (v := ?v26a) rfl (by kernel_rfl) (by kernel_rfl) (by kernel_rfl) (fun _ _ _ h => h) (by rfl) ?hy26a hHeld ?rest26a
  case hy26a =>
    intro w' hSw
    obtain ⟨-, s0, s1, s2, -, -, s5, s6, s7, s8⟩ := hSw
    go_simp <;> with_reducible rfl
  try simp only [Act.put, List.setIfInBounds_toArray, List.set_cons_zero, List.set_cons_succ]
  refine take_yes (i := 27) (v := ?v27a) rfl (by kernel_rfl) (by kernel_rfl) (by kernel_rfl) (fun _ _ _ h => h) (by rfl) ?hy27a hHeld ?rest27a
  case hy27a =>
    intro w' hSw
    obtain ⟨-, s0, s1, s2, -, -, s5, s6, s7, s8⟩ := hSw
    go_simp <;> with_reducible rfl
  try simp only [Act.put, List.setIfInBounds_toArray, List.set_cons_zero, List.set_cons_succ]
  refine take_yes (i := 28) (v := _) rfl (by kernel_rfl) (by kernel_rfl) (by kernel_rfl) (fun _ _ _ h => h) (by rfl) (fun w' hSw => exec_load_mid_th (.tmp 46) rfl rfl hSw.2.2.2.2.1) hHeld ?rest28a
  try simp only [Act.put, List.setIfInBounds_toArray, List.set_cons_zero, List.set_cons_succ]
  refine take_yes (i := 29) (v := ?v29a) rfl (by kernel_rfl) (by kernel_rfl) (by kernel_rfl) (fun _ _ _ h => h) (by rfl) ?hy29a hHeld ?rest29a
  case hy29a =>
    intro w' hSw
    obtain ⟨-, s0, s1, s2, -, -, s5, s6, s7, s8⟩ := hSw
    go_simp <;> with_reducible rfl
  try simp only [Act.put, List.setIfInBounds_toArray, List.set_cons_zero, List.set_cons_succ]
  refine take_yes (i := 30) (v := ?v30a) rfl (by kernel_rfl) (by kernel_rfl) (by kernel_rfl) (fun _ _ _ h => h) (by rfl) ?hy30a hHeld ?rest30a
  case hy30a =>
    intro w' hSw
    obtain ⟨-, s0, s1, s2, -, -, s5, s6, s7, s8⟩ := hSw
    go_simp <;> with_reducible rfl
  try simp only [Act.put, List.setIfInBounds_toArray, List.set_cons_zero, List.set_cons_succ]
  refine take_yes (i := 31) (v := _) rfl (by kernel_rfl) (by kernel_rfl) (by kernel_rfl) (fun _ _ _ h => h) (by rfl) (fun w' hSw => exec_load_mid_th (.tmp 49) rfl rfl hSw.2.2.2.2.2.1) hHeld ?rest31a
  try simp only [Act.put, List.setIfInBounds_toArray, List.set_cons_zero, List.set_cons_succ]
  refine take_yes (i := 32) (v := ?v32a) rfl (by kernel_rfl) (by kernel_rfl) (by kernel_rfl) (fun _ _ _ h => h) (by rfl) ?hy32a hHeld ?rest32a
  case hy32a =>
    intro w' hSw
    obtain ⟨-, s0, s1, s2, -, -, s5, s6, s7, s8⟩ := hSw
    go_simp <;> with_reducible rfl
  try simp only [Act.put, List.setIfInBounds_toArray, List.set_cons_zero, List.set_cons_succ]
  refine take_yes (i := 33) (v := ?v33a) rfl (by kernel_rfl) (by kernel_rfl) (by kernel_rfl) (fun _ _ _ h => h) (by rfl) ?hy33a hHeld ?rest33a
  case hy33a =>
    intro w' hSw
    obtain ⟨-, s0, s1, s2, -, -, s5, s6, s7, s8⟩ := hSw
    go_simp <;> with_reducible rfl
  try simp only [Act.put, List.setIfInBounds_toArray, List.set_cons_zero, List.set_cons_succ]
  refine take_yes (i := 34) (v := ?v34a) rfl (by kernel_rfl) (by kernel_rfl) (by kernel_rfl) (fun _ _ _ h => h) (by rfl) ?hy34a hHeld ?rest34a
  case hy34a =>
    intro w' hSw
    obtain ⟨-, s0, s1, s2, -, -, s5, s6, s7, s8⟩ := hSw
    go_simp <;> with_reducible rfl
  try simp only [Act.put, List.setIfInBounds_toArray, List.set_cons_zero, List.set_cons_succ]
  refine take_yes (i := 35) (v := ?v35a) rfl (by kernel_rfl) (by kernel_rfl) (by kernel_rfl) (fun _ _ _ h => h) (by rfl) ?hy35a hHeld ?rest35a
  case hy35a =>
    intro w' hSw
    obtain ⟨-, s0, s1, s2, -, -, s5, s6, s7, s8⟩ := hSw
    go_simp <;> with_reducible rfl
  try simp only [Act.put, List.setIfInBounds_toArray, List.set_cons_zero, List.set_cons_succ]
  refine take_yes (i := 36) (v := ?v36a) rfl (by kernel_rfl) (by kernel_rfl) (by kernel_rfl) (fun _ _ _ h => h) (by rfl) ?hy36a hHeld ?rest36a
  case hy36a =>
    intro w' hSw
    obtain ⟨-, s0, s1, s2, -, -, s5, s6, s7, s8⟩ := hSw
    go_simp <;> with_reducible rfl
  try simp only [Act.put, List.setIfInBounds_toArray, List.set_cons_zero, List.set_cons_succ]
  refine wpAnyH_ready (rs := [37]) (by kernel_rfl) (by simp) (cons_at (i := 37) rfl (fun K37a hK37a => ?_) AllReadyH.nil)
  go_simp
  go_at_call 15
  with_reducible refine (C1 _ hHeld.1).mono ?_
  rintro x W5 ⟨p5, c5, rfl, ho5, hb5⟩
  have hb5' := below_on hHeld.1 hb5
  clear ho5 hb5 hHeld
  go_wp2_with fail
  refine hK37a.out _ _ (SB _ hb5') (fun hHeld => ?_)
  clear hK37a K37a
  try simp only [Act.put, List.setIfInBounds_toArray, List.set_cons_zero, List.set_cons_succ]
  refine take_yes (i := 38) (v := ?v38a) rfl (by kernel_rfl) (by kernel_rfl) (by kernel_rfl) (fun _ _ _ h => h) (by rfl) ?hy38a hHeld ?rest38a
  case hy38a =>
    intro w' hSw
    obtain ⟨-, s0, s1, s2, -, -, s5, s6, s7, s8⟩ := hSw
    go_simp <;> with_reducible rfl
  try simp only [Act.put, List.setIfInBounds_toArray, List.set_cons_zero, List.set_cons_succ]
  refine take_yes (i := 39) (v := ?v39a) rfl (by kernel_rfl) (by kernel_rfl) (by kernel_rfl) (fun _ _ _ h => h) (by rfl) ?hy39a hHeld ?rest39a
  case hy39a =>
    intro w' hSw
    obtain ⟨-, s0, s1, s2, -, -, s5, s6, s7, s8⟩ := hSw
    go_simp <;> with_reducible rfl
  try simp only [Act.put, List.setIfInBounds_toArray, List.set_cons_zero, List.set_cons_succ]
  refine take_yes (i := 40) (v := ?v40a) rfl (by kernel_rfl) (by kernel_rfl) (by kernel_rfl) (fun _ _ _ h => h) (by rfl) ?hy40a hHeld ?rest40a
  case hy40a =>
    intro w' hSw
    obtain ⟨-, s0, s1, s2, -, -, s5, s6, s7, s8⟩ := hSw
    go_simp <;> with_reducible rfl
  try simp only [Act.put, List.setIfInBounds_toArray, List.set_cons_zero, List.set_cons_succ]
  refine take_yes (i := 41) (v := ?v41a) rfl (by kernel_rfl) (by kernel_rfl) (by kernel_rfl) (fun _ _ _ h => h) (by rfl) ?hy41a hHeld ?rest41a
  case hy41a =>
    intro w' hSw
    obtain ⟨-, s0, s1, s2, -, -, s5, s6, s7, s8⟩ := hSw
    go_simp <;> with_reducible rfl
  try simp only [Act.put, List.setIfInBounds_toArray, List.set_cons_zero, List.set_cons_succ]
  refine take_yes (i := 42) (v := ?v42a) rfl (by kernel_rfl) (by kernel_rfl) (by kernel_rfl) (fun _ _ _ h => h) (by rfl) ?hy42a hHeld ?rest42a
  case hy42a =>
    intro w' hSw
    obtain ⟨-, s0, s1, s2, -, -, s5, s6, s7, s8⟩ := hSw
    go_simp <;> with_reducible rfl
  try simp only [Act.put, List.setIfInBounds_toArray, List.set_cons_zero, List.set_cons_succ]
  refine take_yes (i := 43) (v := ?v43a) rfl (by kernel_rfl) (by kernel_rfl) (by kernel_rfl) (fun _ _ _ h => h) (by rfl) ?hy43a hHeld ?rest43a
  case hy43a =>
    intro w' hSw
    obtain ⟨-, s0, s1, s2, -, -, s5, s6, s7, s8⟩ := hSw
    go_simp <;> with_reducible rfl
  try simp only [Act.put, List.setIfInBounds_toArray, List.set_cons_zero, List.set_cons_succ]
  refine take_yes (i := 44) (v := ?v44a) rfl (by kernel_rfl) (by kernel_rfl) (by kernel_rfl) (fun _ _ _ h => h) (by rfl) ?hy44a hHeld ?rest44a
  case hy44a =>
    intro w' hSw
    obtain ⟨-, s0, s1, s2, -, -, s5, s6, s7, s8⟩ := hSw
    go_simp <;> with_reducible rfl
  try simp only [Act.put, List.setIfInBounds_toArray, List.set_cons_zero, List.set_cons_succ]
  refine take_yes (i := 45) (v := ?v45a) rfl (by kernel_rfl) (by kernel_rfl) (by kernel_rfl) (fun _ _ _ h => h) (by rfl) ?hy45a hHeld ?rest45a
  case hy45a =>
    intro w' hSw
    obtain ⟨-, s0, s1, s2, -, -, s5, s6, s7, s8⟩ := hSw
    go_simp <;> with_reducible rfl
  try simp only [Act.put, List.setIfInBounds_toArray, List.set_cons_zero, List.set_cons_succ]
  refine wpAnyH_ready (rs := [46]) (by kernel_rfl) (by simp) (cons_at (i := 46) rfl (fun K46a hK46a => ?_) AllReadyH.nil)
  go_simp
  go_at_call 12
  with_reducible refine (C2 _ hHeld.1).mono ?_
  rintro x W6 ⟨p6, c6, rfl, ho6, hb6⟩
  have hb6' := below_on hHeld.1 hb6
  clear ho6 hb6 hHeld
  go_wp2_with fail
  refine hK46a.out _ _ (SB _ hb6') (fun hHeld => ?_)
  clear hK46a K46a
  try simp only [Act.put, List.setIfInBounds_toArray, List.set_cons_zero, List.set_cons_succ]
  refine take_yes (i := 47) (v := ?v47a) rfl (by kernel_rfl) (by kernel_rfl) (by kernel_rfl) (fun _ _ _ h => h) (by rfl) ?hy47a hHeld ?rest47a
  case hy47a =>
    intro w' hSw
    obtain ⟨-, s0, s1, s2, -, -, s5, s6, s7, s8⟩ := hSw
    go_simp <;> with_reducible rfl
  try simp only [Act.put, List.setIfInBounds_toArray, List.set_cons_zero, List.set_cons_succ]
  refine take_yes (i := 48) (v := ?v48a) rfl (by kernel_rfl) (by kernel_rfl) (by kernel_rfl) (fun _ _ _ h => h) (by rfl) ?hy48a hHeld ?rest48a
  case hy48a =>
    intro w' hSw
    obtain ⟨-, s0, s1, s2, -, -, s5, s6, s7, s8⟩ := hSw
    go_simp <;> with_reducible rfl
  try simp only [Act.put, List.setIfInBounds_toArray, List.set_cons_zero, List.set_cons_succ]
  refine take_yes (i := 49) (v := ?v49a) rfl (by kernel_rfl) (by kernel_rfl) (by kernel_rfl) (fun _ _ _ h => h) (by rfl) ?hy49a hHeld ?rest49a
  case hy49a =>
    intro w' hSw
    obtain ⟨-, s0, s1, s2, -, -, s5, s6, s7, s8⟩ := hSw
    go_simp <;> with_reducible rfl
  try simp only [Act.put, List.setIfInBounds_toArray, List.set_cons_zero, List.set_cons_succ]
  refine take_yes (i := 50) (v := ?v50a) rfl (by kernel_rfl) (by kernel_rfl) (by kernel_rfl) (fun _ _ _ h => h) (by rfl) ?hy50a hHeld ?rest50a
  case hy50a =>
    intro w' hSw
    obtain ⟨-, s0, s1, s2, -, -, s5, s6, s7, s8⟩ := hSw
    go_simp <;> with_reducible rfl
  try simp only [Act.put, List.setIfInBounds_toArray, List.set_cons_zero, List.set_cons_succ]
  refine wpAnyH_done (by kernel_rfl) ?_ _
  obtain ⟨hb6, -⟩ := hHeld
  have hB6 := below_on hB4.out hb6
  clear hb6 SB EQ EQ2
  go_wp2_with fail
  rw [← hQ.out]
  exact ⟨rfl, hB6⟩
theorem few_at16 {w : World} {p : Option Addr} {cap n : Nat} {L : List Th} {q : Bool} (hq : Hid (fewL L = q)) (hn : Hid (L.length = n)) (hr : RowT w p L) (hi : ∀ t ∈ L, inT t) (hm : n ≤ maxLen) :
    Calls Try.prog 9 #[.slice p n cap] w fun e w' => e = .returned (.bool q) ∧ Below w.heap.size w w' := by
  have := few_things w p cap L hr hi (by rw [hn.out]; exact hm)
  rw [hq.out, hn.out] at this
  exact this
theorem same_true16 {w : World} {p p' : Option Addr} {cap cap' n : Nat} {L : List Th} (hr : RowT w p L) (hr' : RowT w p' L) (hn : Hid (L.length = n)) (hm : n ≤ 1000) :
    Calls Try.prog 14 #[.slice p n cap, .slice p' n cap'] w fun e w' => e = .returned (.bool true) ∧ Below w.heap.size w w' := by
  have := ref_sameAll w p p' cap cap' L L hr hr' (by rw [hn.out]; unfold maxLen; omega) (by rw [hn.out]; unfold maxLen; omega)
  rw [hn.out, sameL_self] at this
  exact this
theorem fewL_len16 {L : List Th} {n : Nat} (h : fewL L = true) (hn : L.length = n) : n ≤ 30 := by rw [← hn]; exact fewL_len h
end Go.Proofs.Ytjdlcocncacmlaa
