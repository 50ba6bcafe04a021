/- Contracts of the reasons against a command, of the package act: lacks, beyond, fieldless, full, crowded, intoCrowd. The table is any that there may be; the thing's number any that a machine holds. No conditions beyond those typed. -/
import Derived.Test.YtfoncphdbaaedaaGreatDoorAcP
import Derived.WalkMore
namespace Go.Proofs.YtfoncphdbaaedaaGreatDoor
open Go.RowKit Go.Maps
set_option linter.unusedVariables false
theorem ac_lacks {W0 w : World} {tb : Nat} {L : List Th} {K : List Nat} (h : TK W0 w tb L K) {c : Cm} (hi : inI c.id) : Calls Tryz.prog 83 #[.pointer (some ⟨tb, 0, none⟩), c.v] w fun e w' => e = .returned (.bool (!hasT c.id L)) ∧ Below w.heap.size w w' := by
  obtain ⟨W, hW⟩ : ∃ W, W = w.alloc c.o := ⟨_, rfl⟩
  have hB : Below w.heap.size w W := by rw [hW]; exact below1 _ _
  have K1 := hid (show W.heap[w.heap.size]? = some c.o by rw [hW]; exact new_at _ _ _ rfl)
  obtain ⟨t, ht⟩ : ∃ t, Hid ((findT c.id L).getD zT = t) := ⟨_, rfl⟩
  obtain ⟨p, hp⟩ : ∃ p, Hid (hasT c.id L = p) := ⟨_, rfl⟩
  have C := tk_get (h.later hB) hi ht hp
  rw [hp.out]
  have n1 : W.cell? ⟨w.heap.size, 1, none⟩ = some (.int .i64 c.id) := cell_i K1.out (k := 1) (by simp [plI])
  clear h hi
  go_enter Tryz.func83, Tryz.ntmps83
  go_upto_region 1 with fail
  rw [← hW]
  clear hW K1
  go_wp2_with fail
  refine C.mono ?_
  rintro x w2 ⟨rfl, hb2⟩
  have hB2 := below_on hB hb2
  have hs2 := hB2.size
  go_wp2_with fail
  go_ret
  exact ⟨rfl, hB2.alloc hs2 _⟩
theorem ac_beyond (w : World) (tb : Nat) (c : Cm) : Calls Tryz.prog 84 #[.pointer (some ⟨tb, 0, none⟩), c.v] w fun e w' => e = .returned (.bool (!onB c.x c.y)) ∧ Below w.heap.size w w' := by
  obtain ⟨W, hW⟩ : ∃ W, W = w.alloc c.o := ⟨_, rfl⟩
  have hB : Below w.heap.size w W := by rw [hW]; exact below1 _ _
  have K1 := hid (show W.heap[w.heap.size]? = some c.o by rw [hW]; exact new_at _ _ _ rfl)
  have C := geom_on W c.x c.y
  have n1 : W.cell? ⟨w.heap.size, 4, none⟩ = some (.int .i64 c.x) := cell_i K1.out (k := 4) (by simp [plI])
  have n2 : W.cell? ⟨w.heap.size, 5, none⟩ = some (.int .i64 c.y) := cell_i K1.out (k := 5) (by simp [plI])
  go_enter Tryz.func84, Tryz.ntmps84
  go_upto_region 1 with fail
  rw [← hW]
  clear hW K1
  go_wp2_with fail
  refine C.mono ?_
  rintro x w2 ⟨rfl, hb2⟩
  go_wp2_with fail
  go_ret
  exact ⟨rfl, below_on hB hb2⟩
theorem ac_fieldless (w : World) (tb : Nat) (c : Cm) : Calls Tryz.prog 85 #[.pointer (some ⟨tb, 0, none⟩), c.v] w fun e w' => e = .returned (.bool (decide (c.wh < 0) || decide (4 ≤ c.wh))) ∧ Below w.heap.size w w' := by
  obtain ⟨W, hW⟩ : ∃ W, W = w.alloc c.o := ⟨_, rfl⟩
  have hB : Below w.heap.size w W := by rw [hW]; exact below1 _ _
  have K1 := hid (show W.heap[w.heap.size]? = some c.o by rw [hW]; exact new_at _ _ _ rfl)
  have n1 : W.cell? ⟨w.heap.size, 2, none⟩ = some (.int .i64 c.wh) := cell_i K1.out (k := 2) (by simp [plI])
  by_cases h1 : c.wh < 0
  · go_enter Tryz.func85, Tryz.ntmps85
    go_upto_region 1 with fail
    rw [← hW]
    clear hW K1
    go_wp2_with fail
    go_ret
    exact ⟨by simp [h1], hB⟩
  · by_cases h2 : 4 ≤ c.wh
    · go_enter Tryz.func85, Tryz.ntmps85
      go_upto_region 1 with fail
      rw [← hW]
      clear hW K1
      go_wp2_with fail
      go_ret
      exact ⟨by simp, hB⟩
    · go_enter Tryz.func85, Tryz.ntmps85
      go_upto_region 1 with fail
      rw [← hW]
      clear hW K1
      go_wp2_with fail
      go_ret
      exact ⟨by simp [h1, h2], hB⟩
theorem ac_full {W0 w : World} {tb : Nat} {L : List Th} {K : List Nat} (h : TK W0 w tb L K) (c : Cm) : Calls Tryz.prog 86 #[.pointer (some ⟨tb, 0, none⟩), c.v] w fun e w' => e = .returned (.bool (decide (200 ≤ L.length))) ∧ Below w.heap.size w w' := by
  obtain ⟨W, hW⟩ : ∃ W, W = w.alloc c.o := ⟨_, rfl⟩
  have hB : Below w.heap.size w W := by rw [hW]; exact below1 _ _
  obtain ⟨n, hn⟩ : ∃ n, Hid (L.length = n) := ⟨_, rfl⟩
  have C := tk_len (h.later hB) hn
  rw [hn.out]
  clear h
  go_enter Tryz.func86, Tryz.ntmps86
  go_upto_region 1 with fail
  rw [← hW]
  clear hW
  go_wp2_with fail
  refine C.mono ?_
  rintro x w2 ⟨rfl, hw⟩
  rw [hw]
  clear hw
  go_wp2 <;> (go_ret; exact ⟨by simp <;> omega, hB⟩)
theorem ac_crowded {W0 w : World} {tb : Nat} {L : List Th} {K : List Nat} (h : TK W0 w tb L K) (c : Cm) : Calls Tryz.prog 87 #[.pointer (some ⟨tb, 0, none⟩), c.v] w fun e w' => e = .returned (.bool (crowdB L c)) ∧ Below w.heap.size w w' := by
  obtain ⟨W, hW⟩ : ∃ W, W = w.alloc c.o := ⟨_, rfl⟩
  have hB : Below w.heap.size w W := by rw [hW]; exact below1 _ _
  have K1 := hid (show W.heap[w.heap.size]? = some c.o by rw [hW]; exact new_at _ _ _ rfl)
  have n1 : W.cell? ⟨w.heap.size, 4, none⟩ = some (.int .i64 c.x) := cell_i K1.out (k := 4) (by simp [plI])
  have n2 : W.cell? ⟨w.heap.size, 5, none⟩ = some (.int .i64 c.y) := cell_i K1.out (k := 5) (by simp [plI])
  have T := hid (h.later hB)
  have C := cells_of W T.out.mask c.x c.y
  obtain ⟨M, hM⟩ : ∃ M, Hid (inT_r (cellR ((ofN c.x c.y : Nat) : Int)) L = M) := ⟨_, rfl⟩
  obtain ⟨m, hm⟩ : ∃ m, Hid (M.length = m) := ⟨_, rfl⟩
  have hq : crowdB L c = decide (8 ≤ m) := by
    show decide (8 ≤ (inT_r (cellR ((ofN c.x c.y : Nat) : Int)) L).length) = _
    rw [hM.out, hm.out]
  rw [hq]
  clear h hq
  go_enter Tryz.func87, Tryz.ntmps87
  go_upto_region 1 with fail
  rw [← hW]
  clear hW K1
  go_wp2_with fail
  refine C.mono ?_
  rintro x w2 ⟨rfl, hb2⟩
  have hB2 := below_on hB hb2
  go_wp2_with fail
  refine (tk_cell (T.out.later hb2) _ hM hm).mono ?_
  rintro x w3 ⟨p3, c3, rfl, -, hb3⟩
  have hB3 := below_on hB2 hb3
  go_wp2 <;> (go_ret; exact ⟨by simp <;> omega, hB3⟩)
set_option maxHeartbeats 1000000 in
theorem ac_into {W0 w : World} {tb : Nat} {L : List Th} {K : List Nat} (h : TK W0 w tb L K) {c : Cm} (hi : inI c.id) : Calls Tryz.prog 88 #[.pointer (some ⟨tb, 0, none⟩), c.v] w fun e w' => e = .returned (.bool (intoB L c)) ∧ Below w.heap.size w w' := by
  obtain ⟨W, hW⟩ : ∃ W, W = w.alloc c.o := ⟨_, rfl⟩
  have hB : Below w.heap.size w W := by rw [hW]; exact below1 _ _
  have K1 := hid (show W.heap[w.heap.size]? = some c.o by rw [hW]; exact new_at _ _ _ rfl)
  obtain ⟨t, ht⟩ : ∃ t, Hid ((findT c.id L).getD zT = t) := ⟨_, rfl⟩
  obtain ⟨p, hp⟩ : ∃ p, Hid (hasT c.id L = p) := ⟨_, rfl⟩
  have T := hid (h.later hB)
  have C := tk_get T.out hi ht hp
  have n1 : W.cell? ⟨w.heap.size, 1, none⟩ = some (.int .i64 c.id) := cell_i K1.out (k := 1) (by simp [plI])
  obtain ⟨A, hA⟩ : ∃ A, Hid (((ofN t.x t.y : Nat) : Int) = A) := ⟨_, rfl⟩
  obtain ⟨B, hBB⟩ : ∃ B, Hid (((ofN c.x c.y : Nat) : Int) = B) := ⟨_, rfl⟩
  obtain ⟨q, hq⟩ : ∃ q, Hid (crowdB L c = q) := ⟨_, rfl⟩
  obtain ⟨R, hR⟩ : ∃ R, Hid (intoB L c = R) := ⟨_, rfl⟩
  have hres : Hid (R = ((A != B) && q)) := by
    show R = _
    rw [← hR.out]
    show ((((ofN ((findT c.id L).getD zT).x ((findT c.id L).getD zT).y : Nat) : Int) != ((ofN c.x c.y : Nat) : Int)) && crowdB L c) = _
    rw [ht.out, hA.out, hBB.out, hq.out]
  rw [hR.out]
  clear h hR hi
  go_enter Tryz.func88, Tryz.ntmps88
  go_upto_region 1 with fail
  rw [← hW]
  clear hW
  go_wp2_with fail
  refine C.mono ?_
  rintro x w2 ⟨rfl, hb2⟩
  obtain ⟨W3, hW3⟩ : ∃ W3, w2.alloc t.o = W3 := ⟨_, rfl⟩
  have hb3 : Below W.heap.size W W3 := by rw [← hW3]; exact hb2.alloc hb2.size _
  have T3 := hid (T.out.later hb3)
  have K3 := hid (var_on hb3 K1.out (lt_of_at K1.out))
  have J3 := hid (show W3.heap[w2.heap.size]? = some t.o by rw [← hW3]; exact new_at _ _ _ rfl)
  have hB3 := below_on hB hb3
  clear n1 C hb2 hb3 hB K1 T
  unfold Th.o at hW3
  have HW3 := hid hW3
  clear hW3
  go_upto_region 2 with fail
  rw [HW3.out]
  clear HW3
  have C3 := cells_of W3 T3.out.mask t.x t.y
  have c3 := cells_at J3.out
  go_wp2_with fail
  refine C3.mono ?_
  rintro x w4 ⟨rfl, hb4⟩
  have T4 := hid (T3.out.later hb4)
  have K4 := hid (var_on hb4 K3.out (lt_of_at K3.out))
  have hB4 := below_on hB3 hb4
  have n1 : w4.cell? ⟨w.heap.size, 4, none⟩ = some (.int .i64 c.x) := cell_i K4.out (k := 4) (by simp [plI])
  have n2 : w4.cell? ⟨w.heap.size, 5, none⟩ = some (.int .i64 c.y) := cell_i K4.out (k := 5) (by simp [plI])
  have C4 := cells_of w4 T4.out.mask c.x c.y
  rw [hA.out]
  clear C3 c3 J3 K3 T3 hb4 hB3
  go_wp2_with fail
  refine C4.mono ?_
  rintro x w5 ⟨rfl, hb5⟩
  have T5 := hid (T4.out.later hb5)
  have K5 := hid (var_on hb5 K4.out (lt_of_at K4.out))
  have hB5 := below_on hB4 hb5
  have C5 := ac_crowded T5.out c
  rw [hBB.out]
  rw [hq.out] at C5
  clear C4 n1 n2 K4 T4 hb5 hB4
  by_cases hab : A = B
  · have h1 : (A != B) = false := by simp [hab]
    have hR : R = false := by rw [hres.out, h1]; rfl
    subst hR
    clear hab hres
    go_wp2_with fail
    go_ret
    exact ⟨rfl, hB5⟩
  · have h1 : (A != B) = true := by simp [hab]
    have hR : R = q := by rw [hres.out, h1]; rfl
    subst hR
    clear hab hres
    go_wp2_with (with_reducible refine wpList_load_cmG rfl (.tmp 3) rfl rfl K5.out ?_)
    refine C5.mono ?_
    rintro x w6 ⟨rfl, hb6⟩
    go_wp2_with fail
    go_ret
    exact ⟨rfl, below_on hB5 hb6⟩
end Go.Proofs.YtfoncphdbaaedaaGreatDoor
