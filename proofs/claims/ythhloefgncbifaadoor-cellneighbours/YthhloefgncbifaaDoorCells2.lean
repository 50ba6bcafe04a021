/- Contracts of cells.Cover and of the grid's references over this translation. -/
import Derived.Test.YthhloefgncbifaaDoorCells
import Derived.WalkMore
namespace Go.Proofs.YthhloefgncbifaaDoor
open Go.RowKit
set_option linter.unusedVariables false
set_option linter.unusedSimpArgs false
def RowC (w : World) (l : List Nat) : Ending → World → Prop := fun e w' => ∃ v, e = .returned v ∧ w'.ownsRow w.heap.size 3 1 v l.length (vals l) ∧ Below w.heap.size w w'
theorem Tryd.info3 : (Tryd.prog.info? 3).map (fun i => (i.zero, i.size, i.bytes)) = some (some (.int .i64 0), 1, 8) := by kernel_rfl
theorem owns_on {base : Nat} {e : TypeId} {size : Nat} {v : Value} {n : Nat} {xs : List Value} {W W' : World} (h : W.ownsRow base e size v n xs) (hb : Below W.heap.size W W') : W'.ownsRow base e size v n xs :=
  h.kept (row := none) ⟨hb.os, hb.tape, hb.output, hb.size, fun k hk _ => hb.block k hk⟩ (by cases hv : v.ownBlock <;> simp)
theorem ref_rect_no (w : World) (c : Int) (hc : isC c = false) : Calls Tryd.prog 11 #[.int .i64 c] w fun e w' => e = .returned (.tuple #[rc 0 0 0 0, .bool false]) ∧ Below w.heap.size w w' := by
  go_enter Tryd.func11, Tryd.ntmps11
  go_wp2_with fail
  go_at_call 15
  refine (ref_is_cell _ _).mono ?_
  rintro z w1 ⟨rfl, rfl⟩
  rw [hc]
  go_wp2
  exact bodyPost_ret (v := .tuple #[rc 0 0 0 0, .bool false]) (by simp [results, Tryd.results11, go_sem]) rfl ⟨rfl, below1 _ _⟩
theorem ref_rect_at (w : World) (c : Nat) (hc : c < 16) : Calls Tryd.prog 11 #[.int .i64 c] w fun e w' => e = .returned (.tuple #[(cellN c).v, .bool true]) ∧ Below w.heap.size w w' := by
  have hm : (c : Int) % 4294967296 = c := by omega
  have l1 := cx_lt c
  have l2 := cy_lt c
  have hi := isC_of hc
  obtain ⟨g1, g2⟩ := gat_cx c hc
  unfold cellN
  obtain ⟨x, hx⟩ : ∃ x, Hid (cx c = x) := ⟨_, rfl⟩
  obtain ⟨y, hy⟩ : ∃ y, Hid (cy c = y) := ⟨_, rfl⟩
  rw [hx.out] at l1 g1 ⊢
  rw [hy.out] at l2 g2 ⊢
  have G : Hid (gat c = x ∧ gat (c / 2) = y) := ⟨g1, g2⟩
  clear g1 g2
  have hx1 : (x : Int) * 16 + 16 = (x + 1) * 16 := by omega
  have hy1 : (y : Int) * 16 + 16 = (y + 1) * 16 := by omega
  go_enter Tryd.func11, Tryd.ntmps11
  go_wp2_with fail
  go_at_call 15
  refine (ref_is_cell _ _).mono ?_
  rintro z w1 ⟨rfl, rfl⟩
  rw [hi]
  clear hi
  go_wp2_with fail
  go_at_call 24
  refine (ref_split c (by omega) _).mono ?_
  rintro z w1 ⟨rfl, rfl⟩
  rw [G.out.1, G.out.2]
  go_wp2
  exact bodyPost_ret (v := .tuple #[rc (x * 16) (y * 16) ((x + 1) * 16) ((y + 1) * 16), .bool true]) (by simp [results, Tryd.results11, go_sem]) rfl ⟨rfl, below1 _ _⟩
theorem ref_rect (w : World) (c : Int) : Calls Tryd.prog 11 #[.int .i64 c] w fun e w' => e = .returned (.tuple #[(cellR c).v, .bool (isC c)]) ∧ Below w.heap.size w w' := by
  cases h : isC c
  · rw [cellR, h]; exact ref_rect_no w c h
  · obtain ⟨n, rfl, hn⟩ := isC_nat h
    rw [cellR_of hn]; exact ref_rect_at w n hn
theorem ref_cell_on (w : World) (x y : Nat) (hx : x < 64) (hy : y < 64) : Calls Tryd.prog 9 #[pt x y] w fun e w' => e = .returned (.tuple #[.int .i64 (wvN (x / 16) (y / 16) : Nat), .int .i64 0]) ∧ Below w.heap.size w w' := by
  have ho : Hid (onB x y = true) := (onB_iff _ _).2 (by omega)
  have e1 : (x : Int).tdiv 16 = ((x / 16 : Nat) : Int) := by rw [Int.tdiv_eq_ediv_of_nonneg (by omega)]; omega
  have e2 : (y : Int).tdiv 16 = ((y / 16 : Nat) : Int) := by rw [Int.tdiv_eq_ediv_of_nonneg (by omega)]; omega
  obtain ⟨a, ha⟩ : ∃ a, x / 16 = a := ⟨_, rfl⟩
  obtain ⟨b, hb⟩ : ∃ b, y / 16 = b := ⟨_, rfl⟩
  have la : a < 4 := by omega
  have lb : b < 4 := by omega
  rw [ha] at e1 ⊢
  rw [hb] at e2 ⊢
  clear ha hb
  have f1 : (a : Int) % 65536 = a := by omega
  have f2 : (b : Int) % 65536 = b := by omega
  go_enter Tryd.func9, Tryd.ntmps9
  go_wp2_with fail
  go_at_call 21
  refine (ref_on _ _ _).mono ?_
  rintro z w1 ⟨rfl, hb1⟩
  rw [ho.out]
  have h2 := var2 (var_on (g := w.heap.size) hb1 (by simp only [heap_alloc]; simp; exact ⟨⟨rfl, rfl⟩, rfl⟩) (by simp))
  have hB : Below w.heap.size w w1 := below_on (below1 _ _) hb1
  clear hb1
  go_wp2_with fail
  go_at_call 22
  refine (ref_weave a b (by omega) (by omega) _).mono ?_
  rintro z w2 ⟨rfl, rfl⟩
  rw [weave_wvN a la b lb]
  have hw := wvN_lt a la b lb
  obtain ⟨v, hv⟩ : ∃ v, Hid (wvN a b = v) := ⟨_, rfl⟩
  rw [hv.out] at hw ⊢
  go_wp2
  go_ret2
  exact ⟨by rw [hv.out]; rfl, hB⟩
theorem ref_cell_off (w : World) (x y : Int) (h : onB x y = false) : Calls Tryd.prog 9 #[pt x y] w fun e w' => e = .returned (.tuple #[.int .i64 0, .int .i64 14]) ∧ Below w.heap.size w w' := by
  have ho : Hid (onB x y = false) := h
  clear h
  go_enter Tryd.func9, Tryd.ntmps9
  go_wp2_with fail
  go_at_call 21
  refine (ref_on _ _ _).mono ?_
  rintro z w1 ⟨rfl, hb1⟩
  rw [ho.out]
  have hB : Below w.heap.size w w1 := below_on (below1 _ _) hb1
  clear hb1
  go_wp2
  go_ret2
  exact ⟨rfl, hB⟩
theorem ref_cell (w : World) (x y : Int) : Calls Tryd.prog 9 #[pt x y] w fun e w' => e = .returned (.tuple #[.int .i64 (ofN x y : Nat), .int .i64 (ofE x y)]) ∧ Below w.heap.size w w' := by
  cases h : onB x y
  · simp only [ofN, ofE, h]; exact ref_cell_off w x y h
  · have := (onB_iff _ _).1 h
    obtain ⟨a, ha⟩ : ∃ a : Nat, x = a := ⟨x.toNat, by omega⟩
    obtain ⟨b, hb⟩ : ∃ b : Nat, y = b := ⟨y.toNat, by omega⟩
    subst ha hb
    have e1 : ((a : Int) / 16).toNat = a / 16 := by omega
    have e2 : ((b : Int) / 16).toNat = b / 16 := by omega
    simp only [ofN, ofE, h, e1, e2]; exact ref_cell_on w a b (by omega) (by omega)

set_option maxHeartbeats 1000000 in
theorem cells_cover (w : World) (hM : Masks w) (a0 a1 a2 a3 : Int) : Calls Tryd.prog 12 #[rc a0 a1 a2 a3] w (RowC w (coverL ⟨a0, a1, a2, a3⟩ 16)) := by
  have HM : Hid (Masks w) := hM
  clear hM
  obtain ⟨i0, hi, hz0, hz1, hz2⟩ := info_parts Tryd.info3
  go_enter Tryd.func12, Tryd.ntmps12
  go_wp2_with fail; go_step3; go_wp2_with fail; go_step3; go_wp2_with fail
  have hB0 : Hid (Below w.heap.size w (w.alloc (ro a0 a1 a2 a3))) := below1 _ _
  go_loopw [3, 4] (fun v i wr => ∃ (k : Nat) (L : List Nat), k ≤ 16 ∧ i = .int .i64 k ∧ Hid (L = coverL ⟨a0, a1, a2, a3⟩ k) ∧ wr.ownsRow (w.heap.size + 1) 3 1 v L.length (vals L) ∧ Hid (wr.heap[w.heap.size]? = some (ro a0 a1 a2 a3)) ∧ Below w.heap.size w wr) (fun _ i _ => 17 - (intOf i).toNat)
  case atStart => exact ⟨0, [], by omega, rfl, rfl, World.ownsRow_nil _ _ _ _, heap_alloc_new _ _, hB0.out⟩
  case round =>
    obtain ⟨k, L, hk, rfl, hL, ho, hA, hb⟩ := hrel
    clear hB0
    have hn : L.length ≤ 16 := by rw [hL.out]; exact Nat.le_trans (coverL_le _ _) hk
    have hw : w.heap.size < wr.heap.size := (Array.getElem?_eq_some_iff.1 hA.out).1
    by_cases hlt : k < 16
    · have hlt' : (k : Int) < 16 := by omega
      have hlt0 : (0 : Int) ≤ (k : Int) := by omega
      obtain ⟨p0, p1, p2, p3, hp⟩ : ∃ p0 p1 p2 p3 : Int, Hid (cellN k = ⟨p0, p1, p2, p3⟩) := ⟨_, _, _, _, rfl⟩
      obtain ⟨m0, m1, m2, m3, hm⟩ : ∃ m0 m1 m2 m3 : Int, Hid (meetR ⟨p0, p1, p2, p3⟩ ⟨a0, a1, a2, a3⟩ = ⟨m0, m1, m2, m3⟩) := ⟨_, _, _, _, rfl⟩
      go_wp2_with fail
      go_at_call 10
      refine (cells_rect_at _ (HM.out.below hb) k hlt).mono ?_
      rintro x w1 ⟨rfl, hb1⟩
      rw [hp.out]
      have hb' := below_on hb hb1
      have ho1 := owns_on ho hb1
      have hA1 : Hid (w1.heap[w.heap.size]? = some (ro a0 a1 a2 a3)) := var_on hb1 hA.out hw
      have hw1 : w.heap.size < w1.heap.size := Nat.lt_of_lt_of_le hw hb1.size
      clear hb1 ho hA hb
      have h1 := var4 hA1.out
      go_wp2_with fail
      go_at_call 26
      refine (geom_meet_at hm _).mono ?_
      rintro x w2 ⟨rfl, hb2⟩
      have hb'' := below_on (hb'.alloc (by omega) _) hb2
      have ho2 := owns_on (ho1.alloc _) hb2
      have hA2 : Hid (w2.heap[w.heap.size]? = some (ro a0 a1 a2 a3)) := var_on hb2 (by rw [heap_alloc, if_neg (by omega)]; exact hA1.out) (by simp; omega)
      have hw2 : w.heap.size < w2.heap.size := Nat.lt_of_lt_of_le (by simp; omega) hb2.size
      clear hb2 ho1 hA1 hb' h1
      go_wp2_with fail
      go_at_call 25
      refine (geom_empty _ _ _ _ _).mono ?_
      rintro x w3 ⟨rfl, hb3⟩
      have hB := below_on hb'' hb3
      have ho3 := owns_on ho2 hb3
      have hA3 : Hid (w3.heap[w.heap.size]? = some (ro a0 a1 a2 a3)) := var_on hb3 hA2.out hw2
      have hw3 : w.heap.size < w3.heap.size := Nat.lt_of_lt_of_le hw2 hb3.size
      clear hb3 ho2 hA2 hb'' hw hw1 hw2
      have hH : Hid (hasB ⟨a0, a1, a2, a3⟩ k = !emptyB ⟨m0, m1, m2, m3⟩) := by show _ = _; rw [hasB, hp.out, hm.out]
      cases hF : emptyB ⟨m0, m1, m2, m3⟩
      · go_wp2_with (at_builtin; refine wpList_append_lies _ rfl _ _ 34 rfl (w.heap.size + 1) 3 i0 (.int .i64 0) 1 8 Tryd.underlying34 hi hz0 hz1 hz2 rfl (by decide) _ _ _ rfl (ho3.alloc _) ⟨w3.heap.size, 0, none⟩ 1 1 [.int .i64 (k : Nat)] rfl rfl (World.news_of_block (heap_alloc_new _ _)) (by intro u hu; simp at hu; subst hu; rfl) (by decide) (by unfold maxLen; omega) (by omega) (by simp; omega) (w3.heap.size + 1) (by simp) ?_)
        intro g cap w4 hown hgrow hat hg4
        go_wp2
        go_roundw
        case rel =>
          refine ⟨k + 1, L ++ [k], by omega, by go_num, ?_, ?_, ?_, ?_⟩
          · exact (congrArg (· ++ [k]) hL.out).trans (coverL_add (by rw [hH.out, hF]; rfl)).symm
          · rw [vals_append, List.length_append]; exact hown
          · show _ = _
            rw [hgrow.block w.heap.size (by simp; omega) (fun e => by have := (ho3.lt _ e.symm).1; omega), heap_alloc, if_neg (by omega)]
            exact hA3.out
          · exact (hB.alloc (by omega) _).grown hgrow (by simp; omega) (fun k hk => by have := (ho3.lt k hk).1; omega)
        case measure => simp [intOf]; omega
      · go_wp2
        go_roundw
        case rel => exact ⟨k + 1, L, by omega, by go_num, hL.out.trans (coverL_skip (by rw [hH.out, hF]; rfl)).symm, ho3, hA3, hB⟩
        case measure => simp [intOf]; omega
    · have hk4 : k = 16 := by omega
      subst hk4
      have hC : Hid (isC (16 : Int) = false) := by show _ = _; rfl
      go_wp2_with fail
      go_at_call 10
      refine (cells_rect_no _ _ hC.out).mono ?_
      rintro x w1 ⟨rfl, hb1⟩
      have hb' := below_on hb hb1
      have ho1 := owns_on ho hb1
      clear hb1 hb ho
      go_wp2
      rw [Exit.noGoto_ret]
      go_ret
      exact ⟨_, rfl, by rw [← hL.out]; exact Go.Joins.ownsRow_le (ho1.alloc _) (by omega), hb'.alloc (by have := hb'.size; omega) _⟩

set_option maxHeartbeats 1000000 in
theorem ref_cover (w : World) (a0 a1 a2 a3 : Int) : Calls Tryd.prog 13 #[rc a0 a1 a2 a3] w (RowC w (coverL ⟨a0, a1, a2, a3⟩ 16)) := by
  obtain ⟨i0, hi, hz0, hz1, hz2⟩ := info_parts Tryd.info3
  go_enter Tryd.func13, Tryd.ntmps13
  go_wp2_with fail
  have hB0 : Hid (Below w.heap.size w (w.alloc (ro a0 a1 a2 a3))) := below1 _ _
  go_loopw [3, 4] (fun v i wr => ∃ (k : Nat) (L : List Nat), k ≤ 16 ∧ i = .int .i64 k ∧ Hid (L = coverL ⟨a0, a1, a2, a3⟩ k) ∧ wr.ownsRow (w.heap.size + 1) 3 1 v L.length (vals L) ∧ Hid (wr.heap[w.heap.size]? = some (ro a0 a1 a2 a3)) ∧ Below w.heap.size w wr) (fun _ i _ => 17 - (intOf i).toNat)
  case atStart => exact ⟨0, [], by omega, rfl, rfl, World.ownsRow_nil _ _ _ _, heap_alloc_new _ _, hB0.out⟩
  case round =>
    obtain ⟨k, L, hk, rfl, hL, ho, hA, hb⟩ := hrel
    clear hB0
    have hn : L.length ≤ 16 := by rw [hL.out]; exact Nat.le_trans (coverL_le _ _) hk
    have hw : w.heap.size < wr.heap.size := (Array.getElem?_eq_some_iff.1 hA.out).1
    by_cases hlt : k < 16
    · have hlt' : (k : Int) < 16 := by omega
      have hlt0 : (0 : Int) ≤ (k : Int) := by omega
      obtain ⟨p0, p1, p2, p3, hp⟩ : ∃ p0 p1 p2 p3 : Int, Hid (cellN k = ⟨p0, p1, p2, p3⟩) := ⟨_, _, _, _, rfl⟩
      obtain ⟨m0, m1, m2, m3, hm⟩ : ∃ m0 m1 m2 m3 : Int, Hid (meetR ⟨p0, p1, p2, p3⟩ ⟨a0, a1, a2, a3⟩ = ⟨m0, m1, m2, m3⟩) := ⟨_, _, _, _, rfl⟩
      go_wp2_with fail
      go_at_call 11
      refine (ref_rect_at _ k hlt).mono ?_
      rintro x w1 ⟨rfl, hb1⟩
      rw [hp.out]
      have hb' := below_on hb hb1
      have ho1 := owns_on ho hb1
      have hA1 : Hid (w1.heap[w.heap.size]? = some (ro a0 a1 a2 a3)) := var_on hb1 hA.out hw
      have hw1 : w.heap.size < w1.heap.size := Nat.lt_of_lt_of_le hw hb1.size
      clear hb1 ho hA hb
      have h1 := var4 hA1.out
      go_wp2_with fail
      go_at_call 28
      refine (ref_meet_at hm _).mono ?_
      rintro x w2 ⟨rfl, hb2⟩
      have hb'' := below_on (hb'.alloc (by omega) _) hb2
      have ho2 := owns_on (ho1.alloc _) hb2
      have hA2 : Hid (w2.heap[w.heap.size]? = some (ro a0 a1 a2 a3)) := var_on hb2 (by rw [heap_alloc, if_neg (by omega)]; exact hA1.out) (by simp; omega)
      have hw2 : w.heap.size < w2.heap.size := Nat.lt_of_lt_of_le (by simp; omega) hb2.size
      clear hb2 ho1 hA1 hb' h1
      go_wp2_with fail
      go_at_call 27
      refine (ref_empty _ _ _ _ _).mono ?_
      rintro x w3 ⟨rfl, hb3⟩
      have hB := below_on hb'' hb3
      have ho3 := owns_on ho2 hb3
      have hA3 : Hid (w3.heap[w.heap.size]? = some (ro a0 a1 a2 a3)) := var_on hb3 hA2.out hw2
      have hw3 : w.heap.size < w3.heap.size := Nat.lt_of_lt_of_le hw2 hb3.size
      clear hb3 ho2 hA2 hb'' hw hw1 hw2
      have hH : Hid (hasB ⟨a0, a1, a2, a3⟩ k = !emptyB ⟨m0, m1, m2, m3⟩) := by show _ = _; rw [hasB, hp.out, hm.out]
      cases hF : emptyB ⟨m0, m1, m2, m3⟩
      · go_wp2_with (at_builtin; refine wpList_append_lies _ rfl _ _ 34 rfl (w.heap.size + 1) 3 i0 (.int .i64 0) 1 8 Tryd.underlying34 hi hz0 hz1 hz2 rfl (by decide) _ _ _ rfl (ho3.alloc _) ⟨w3.heap.size, 0, none⟩ 1 1 [.int .i64 (k : Nat)] rfl rfl (World.news_of_block (heap_alloc_new _ _)) (by intro u hu; simp at hu; subst hu; rfl) (by decide) (by unfold maxLen; omega) (by omega) (by simp; omega) (w3.heap.size + 1) (by simp) ?_)
        intro g cap w4 hown hgrow hat hg4
        go_wp2
        go_roundw
        case rel =>
          refine ⟨k + 1, L ++ [k], by omega, by go_num, ?_, ?_, ?_, ?_⟩
          · exact (congrArg (· ++ [k]) hL.out).trans (coverL_add (by rw [hH.out, hF]; rfl)).symm
          · rw [vals_append, List.length_append]; exact hown
          · show _ = _
            rw [hgrow.block w.heap.size (by simp; omega) (fun e => by have := (ho3.lt _ e.symm).1; omega), heap_alloc, if_neg (by omega)]
            exact hA3.out
          · exact (hB.alloc (by omega) _).grown hgrow (by simp; omega) (fun k hk => by have := (ho3.lt k hk).1; omega)
        case measure => simp [intOf]; omega
      · go_wp2
        go_roundw
        case rel => exact ⟨k + 1, L, by omega, by go_num, hL.out.trans (coverL_skip (by rw [hH.out, hF]; rfl)).symm, ho3, hA3, hB⟩
        case measure => simp [intOf]; omega
    · have hk4 : k = 16 := by omega
      subst hk4
      go_wp2
      go_ret
      exact ⟨_, rfl, by rw [← hL.out]; exact Go.Joins.ownsRow_le ho (by omega), hb⟩

theorem ref_beside (w : World) (a b : Int) : Calls Tryd.prog 17 #[.int .i64 a, .int .i64 b] w fun e w' => e = .returned (.bool (besB a b)) ∧ Below w.heap.size w w' := by
  cases h : isC a
  · have H : Hid (besB a b = false) := by show _ = _; simp [besB, h]
    go_enter Tryd.func17, Tryd.ntmps17
    go_wp2_with fail
    go_at_call 15
    refine (ref_is_cell _ _).mono ?_
    rintro z w1 ⟨rfl, rfl⟩
    rw [h]
    go_wp2
    go_ret
    exact ⟨by rw [H.out]; rfl, Below.refl _ _⟩
  cases h' : isC b
  · have H : Hid (besB a b = false) := by show _ = _; simp [besB, h']
    go_enter Tryd.func17, Tryd.ntmps17
    go_wp2_with fail
    go_at_call 15
    refine (ref_is_cell _ _).mono ?_
    rintro z w1 ⟨rfl, rfl⟩
    rw [h]
    go_wp2_with fail
    go_at_call 15
    refine (ref_is_cell _ _).mono ?_
    rintro z w1 ⟨rfl, rfl⟩
    rw [h']
    go_wp2
    go_ret
    exact ⟨by rw [H.out]; rfl, Below.refl _ _⟩
  obtain ⟨m, rfl, hm⟩ := isC_nat h
  obtain ⟨n, rfl, hn⟩ := isC_nat h'
  cases hE : ((m : Int) == (n : Int))
  · have hm1 : (m : Int) % 4294967296 = m := by omega
    have hn1 : (n : Int) % 4294967296 = n := by omega
    obtain ⟨x, hx⟩ : ∃ x, Hid (cx m = x) := ⟨_, rfl⟩
    obtain ⟨y, hy⟩ : ∃ y, Hid (cy m = y) := ⟨_, rfl⟩
    obtain ⟨z, hz⟩ : ∃ z, Hid (cx n = z) := ⟨_, rfl⟩
    obtain ⟨u, hu⟩ : ∃ u, Hid (cy n = u) := ⟨_, rfl⟩
    have lx : x < 4 := by rw [← hx.out]; exact cx_lt _
    have ly : y < 4 := by rw [← hy.out]; exact cy_lt _
    have lz : z < 4 := by rw [← hz.out]; exact cx_lt _
    have lu : u < 4 := by rw [← hu.out]; exact cy_lt _
    have G : Hid ((gat m = x ∧ gat (m / 2) = y) ∧ (gat n = z ∧ gat (n / 2) = u)) := by
      rw [← hx.out, ← hy.out, ← hz.out, ← hu.out]; exact ⟨gat_cx m hm, gat_cx n hn⟩
    have H : Hid (besB m n = (nearB x z && nearB y u)) := by show _ = _; simp only [besB, h, h', hE, besN]; simp; rw [hx.out, hy.out, hz.out, hu.out]
    have hm0 : m < 4294967296 := by omega
    have hn0 : n < 4294967296 := by omega
    go_enter Tryd.func17, Tryd.ntmps17
    go_wp2_with fail
    go_at_call 15
    refine (ref_is_cell _ _).mono ?_
    rintro z w1 ⟨rfl, rfl⟩
    rw [h]
    go_wp2_with fail
    go_at_call 15
    refine (ref_is_cell _ _).mono ?_
    rintro z w1 ⟨rfl, rfl⟩
    rw [h']
    go_wp2_with fail
    go_at_call 24
    refine (ref_split m hm0 _).mono ?_
    rintro z w1 ⟨rfl, rfl⟩
    rw [G.out.1.1, G.out.1.2]
    go_wp2_with fail
    go_at_call 24
    refine (ref_split n hn0 _).mono ?_
    rintro z w1 ⟨rfl, rfl⟩
    rw [G.out.2.1, G.out.2.2]
    clear hm hn hm1 hn1 hm0 hn0 G
    go_wp2 <;> (go_ret; refine ⟨congrArg (fun b => Ending.returned (.bool b)) (?_ : _ = _), Below.refl _ _⟩; rw [H.out, Bool.eq_iff_iff]; simp only [nearB, Bool.and_eq_true, decide_eq_true_eq, Bool.false_eq_true, false_iff]; omega)
  · have H : Hid (besB m n = false) := by show _ = _; simp only [besB, h, h', hE]; rfl
    obtain rfl : m = n := by simp at hE; omega
    go_enter Tryd.func17, Tryd.ntmps17
    go_wp2_with fail
    go_at_call 15
    refine (ref_is_cell _ _).mono ?_
    rintro z w1 ⟨rfl, rfl⟩
    rw [h]
    go_wp2_with fail
    go_at_call 15
    refine (ref_is_cell _ _).mono ?_
    rintro z w1 ⟨rfl, rfl⟩
    rw [h]
    go_wp2
    go_ret
    exact ⟨by rw [H.out]; rfl, Below.refl _ _⟩

end Go.Proofs.YthhloefgncbifaaDoor
