/- Contracts of the package world, first part: a world's block holds what a table's does; New, Copy, All, See, Len. No conditions beyond those typed. -/
import Derived.Test.YtfoncphdbaaedaaGreatDoorWd1
namespace Go.Proofs.YtfoncphdbaaedaaGreatDoor
open Go.RowKit Go.Maps
set_option linter.unusedVariables false
set_option maxRecDepth 100000
/-- a table's cells in a new block -/
theorem tk_box {W0 W : World} {tb bm qb : Nat} {v : Value} {L : List Th} (h : TB0 W0 W tb bm qb v L) (ty : TypeId) : TK W0 (W.alloc (tabO ty bm qb)) W.heap.size L [] := by
  have hlt := h.lt
  refine ⟨_, ⟨bm, qb, v, ⟨⟨ty, new_at _ _ _ rfl⟩, h.map.later (below1 _ _), h.tree.later (below1 _ _), h.good, h.below.size, h.lom, ?_, h.ne2, h.below.alloc h.below.size _, h.masks⟩, rfl⟩, fun k hk => by cases hk⟩
  intro hm
  have := (hlt _ (List.mem_cons_of_mem _ (List.mem_cons_of_mem _ hm))).2
  omega
theorem wd_new {w : World} (hM : Masks w) : Calls Tryz.prog 8 #[] w fun e w' => ∃ wb, e = .returned (.pointer (some ⟨wb, 0, none⟩)) ∧ TK w w' wb [] [] := by
  have C := tb_new hM
  go_enter Tryz.func8, Tryz.ntmps8
  go_wp2_with fail
  refine C.mono ?_
  rintro x W1 ⟨tb, X, rfl, bm, qb, v, H, rfl⟩
  have HH := hid H
  have c := cells_at H.at_
  clear H C
  go_wp2_with fail
  go_ret
  exact ⟨_, rfl, tk_box HH.out _⟩
theorem wd_copy {W0 w : World} {wb : Nat} {L : List Th} {K : List Nat} (h : TK W0 w wb L K) : Calls Tryz.prog 10 #[.pointer (some ⟨wb, 0, none⟩)] w fun e w' => ∃ cb, e = .returned (.pointer (some ⟨cb, 0, none⟩)) ∧ TK w w' cb L [] := by
  obtain ⟨X, h1, h2⟩ := h.has
  have C := tb_copy h1
  clear h h1 h2
  go_enter Tryz.func10, Tryz.ntmps10
  go_wp2_with fail
  refine C.mono ?_
  rintro x W1 ⟨cb, Y, rfl, bm, qb, v, H, rfl⟩
  have HH := hid H
  have c := cells_at H.at_
  clear H C
  go_wp2_with fail
  go_ret
  exact ⟨_, rfl, tk_box HH.out _⟩
theorem wd_all {W0 w : World} {wb : Nat} {L : List Th} {K : List Nat} (h : TK W0 w wb L K) {n : Nat} (hn : Hid (L.length = n)) :
    Calls Tryz.prog 14 #[.pointer (some ⟨wb, 0, none⟩)] w fun e w' => ∃ p cap, e = .returned (.slice p n cap) ∧ RowT w' p L ∧ Below w.heap.size w w' := by
  have C := tk_all h hn
  clear h hn
  go_enter Tryz.func14, Tryz.ntmps14
  go_wp2_with fail
  refine C.mono ?_
  rintro x W1 ⟨p, cap, rfl, hr, hb⟩
  clear C
  go_wp2_with fail
  go_ret
  exact ⟨p, cap, rfl, hr, hb⟩
theorem wd_see {W0 w : World} {wb : Nat} {L : List Th} {K : List Nat} (h : TK W0 w wb L K) (r0 r1 r2 r3 : Int) {M : List Th} (hM : Hid (inT_r ⟨r0, r1, r2, r3⟩ L = M)) {n : Nat} (hn : Hid (M.length = n)) :
    Calls Tryz.prog 15 #[.pointer (some ⟨wb, 0, none⟩), rc r0 r1 r2 r3] w fun e w' => ∃ p cap, e = .returned (.slice p n cap) ∧ RowT w' p M ∧ Below w.heap.size w w' := by
  obtain ⟨W, hW⟩ : ∃ W, w.alloc (.cells #[.int .i64 r0, .int .i64 r1, .int .i64 r2, .int .i64 r3] 25) = W := ⟨_, rfl⟩
  have hB : Below w.heap.size w W := by rw [← hW]; exact below1 _ _
  have K1 : W.heap[w.heap.size]? = some (.cells #[.int .i64 r0, .int .i64 r1, .int .i64 r2, .int .i64 r3] 25 (0, 0)) := by rw [← hW]; exact new_at _ _ _ rfl
  have T := hid (h.later hB)
  clear h
  go_enter Tryz.func15, Tryz.ntmps15
  go_upto_region 1 with fail
  try rw [hW]
  clear hW
  obtain ⟨cr, -⟩ := cells_at K1
  have q0 : W.cell? ⟨w.heap.size, 0, none⟩ = some (.int .i64 r0) := cr 0
  have q1 : W.cell? ⟨w.heap.size, 1, none⟩ = some (.int .i64 r1) := cr 1
  have q2 : W.cell? ⟨w.heap.size, 2, none⟩ = some (.int .i64 r2) := cr 2
  have q3 : W.cell? ⟨w.heap.size, 3, none⟩ = some (.int .i64 r3) := cr 3
  clear cr K1
  go_region_held3 (fun w' => w'.cell? ⟨w.heap.size, 0, none⟩ = some (.int .i64 r0) ∧ w'.cell? ⟨w.heap.size, 1, none⟩ = some (.int .i64 r1) ∧ w'.cell? ⟨w.heap.size, 2, none⟩ = some (.int .i64 r2) ∧ w'.cell? ⟨w.heap.size, 3, none⟩ = some (.int .i64 r3))
    (first | go_keep | (go_split_ands; refine ⟨?_, ?_, ?_, ?_⟩ <;> exact cell_below hbK (by assumption)))
    (first
      | (go_at_call 26; with_reducible refine (tk_in (T.out.later (by first | exact Below.refl _ _ | exact (Below.refl _ _).drew)) r0 r1 r2 r3 hM hn).mono ?_; rintro z W2 ⟨p, cap, rfl, hr, hbK⟩
         have hB2 : Below w.heap.size w W2 := (by first | exact below_on hB hbK | exact below_on hB.drew hbK)))
  all_goals
    go_wp2_with fail
    go_ret
    exact ⟨p, cap, rfl, hr, hB2⟩
theorem wd_len {W0 w : World} {wb : Nat} {L : List Th} {K : List Nat} (h : TK W0 w wb L K) {n : Nat} (hn : Hid (L.length = n)) :
    Calls Tryz.prog 17 #[.pointer (some ⟨wb, 0, none⟩)] w fun e w' => e = .returned (.int .i64 (n : Nat)) ∧ w' = w := by
  have C := tk_len h hn
  clear h hn
  go_enter Tryz.func17, Tryz.ntmps17
  go_wp2_with fail
  refine C.mono ?_
  rintro x W1 ⟨rfl, hw⟩
  rw [hw]
  clear C
  go_wp2_with fail
  go_ret
  exact ⟨rfl, rfl⟩
end Go.Proofs.YtfoncphdbaaedaaGreatDoor
