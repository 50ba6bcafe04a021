/- Contracts of the package cells' functions over this translation. -/
import Derived.Test.YtfoncphdbaaedaaGreatDoorGeom
import Derived.Test.YtfoncphdbaaedaaGreatDoorMorton2
import Derived.Test.YtfoncphdbaaedaaGreatDoorCellsP
namespace Go.Proofs.YtfoncphdbaaedaaGreatDoor
open Go.RowKit
theorem cells_is (w : World) (c : Int) : Calls Tryz.prog 135 #[.int .i64 c] w fun e w' => e = .returned (.bool (isC c)) ∧ w' = w := by
  go_enter Tryz.func135, Tryz.ntmps135
  go_wp2 <;> (go_ret; exact ⟨by simp_all [isC] <;> omega, rfl⟩)
theorem cells_place (w : World) (hM : Masks w) (c : Nat) (hc : c < 16) : Calls Tryz.prog 136 #[.int .i64 c] w fun e w' => e = .returned (.tuple #[.int .i64 (cx c : Nat), .int .i64 (cy c : Nat)]) ∧ Below w.heap.size w w' := by
  have HM : Hid (Masks w) := hM
  clear hM
  obtain ⟨g1, g2⟩ := gat_cx c hc
  have l1 := cx_lt c
  have l2 := cy_lt c
  obtain ⟨x, hx⟩ : ∃ x, cx c = x := ⟨_, rfl⟩
  obtain ⟨y, hy⟩ : ∃ y, cy c = y := ⟨_, rfl⟩
  rw [hx] at l1 g1 ⊢
  rw [hy] at l2 g2 ⊢
  have G : Hid (gat c = x ∧ gat (c / 2) = y) := ⟨g1, g2⟩
  clear g1 g2 hx hy
  have hm : (c : Int) % 4294967296 = c := by omega
  have hx : (x : Int) % 65536 = x := by omega
  have hy : (y : Int) % 65536 = y := by omega
  go_enter Tryz.func136, Tryz.ntmps136
  go_wp2_with fail
  go_at_call 81
  refine (split_at c (by omega) _ HM.out).mono ?_
  rintro z w1 ⟨rfl, hb⟩
  rw [G.out.1, G.out.2]
  go_wp2
  go_ret2
  exact ⟨rfl, hb⟩
theorem cells_rect_at (w : World) (hM : Masks w) (c : Nat) (hc : c < 16) : Calls Tryz.prog 130 #[.int .i64 c] w fun e w' => e = .returned (.tuple #[(cellN c).v, .bool true]) ∧ Below w.heap.size w w' := by
  have HM : Hid (Masks w) := hM
  clear hM
  have hc1 : (c : Int) < 16 := by omega
  have l1 := cx_lt c
  have l2 := cy_lt c
  have hi := isC_of hc
  unfold cellN
  obtain ⟨x, hx⟩ : ∃ x, Hid (cx c = x) := ⟨_, rfl⟩
  obtain ⟨y, hy⟩ : ∃ y, Hid (cy c = y) := ⟨_, rfl⟩
  rw [hx.out] at l1 ⊢
  rw [hy.out] at l2 ⊢
  go_enter Tryz.func130, Tryz.ntmps130
  go_wp2_with fail
  go_at_call 135
  refine (cells_is _ _).mono ?_
  rintro z w1 ⟨rfl, rfl⟩
  rw [hi]
  clear hi
  go_wp2_with fail
  go_at_call 136
  refine (cells_place _ (HM.out.below (below1 _ _)) c hc).mono ?_
  rintro z w1 ⟨rfl, hb⟩
  rw [hx.out, hy.out]
  have h2 := var4 (var_on (g := w.heap.size) hb (by simp only [heap_alloc]; simp; exact ⟨⟨rfl, rfl, rfl, rfl⟩, rfl⟩) (by simp))
  have hB : Below w.heap.size w w1 := below_on (below1 _ _) hb
  clear hb
  go_wp2
  exact bodyPost_ret (v := .tuple #[rc (x * 16) (y * 16) ((x + 1) * 16) ((y + 1) * 16), .bool true]) (by simp [results, go_sem, h2]) rfl ⟨rfl, below_set4 hB (by omega) _ _ _ _⟩
theorem cells_rect_no (w : World) (c : Int) (hc : isC c = false) : Calls Tryz.prog 130 #[.int .i64 c] w fun e w' => e = .returned (.tuple #[rc 0 0 0 0, .bool false]) ∧ Below w.heap.size w w' := by
  go_enter Tryz.func130, Tryz.ntmps130
  go_wp2_with fail
  go_at_call 135
  refine (cells_is _ _).mono ?_
  rintro z w1 ⟨rfl, rfl⟩
  rw [hc]
  go_wp2
  exact bodyPost_ret (v := .tuple #[rc 0 0 0 0, .bool false]) (by simp [results, go_sem]) rfl ⟨rfl, below1 _ _⟩
theorem cells_rect (w : World) (hM : Masks w) (c : Int) : Calls Tryz.prog 130 #[.int .i64 c] w fun e w' => e = .returned (.tuple #[(cellR c).v, .bool (isC c)]) ∧ Below w.heap.size w w' := by
  cases h : isC c
  · rw [cellR, h]; exact cells_rect_no w c h
  · obtain ⟨n, rfl, hn⟩ := isC_nat h
    rw [cellR_of hn]; exact cells_rect_at w hM n hn
theorem cells_of_on (w : World) (hM : Masks w) (x y : Nat) (hx : x < 64) (hy : y < 64) : Calls Tryz.prog 114 #[pt x y] w fun e w' => e = .returned (.tuple #[.int .i64 (wvN (x / 16) (y / 16) : Nat), .int .i64 0]) ∧ Below w.heap.size w w' := by
  have HM : Hid (Masks w) := hM
  clear hM
  have ho : Hid (onB x y = true) := (onB_iff _ _).2 (by omega)
  have e1 : (x : Int).tdiv 16 = ((x / 16 : Nat) : Int) := by rw [Int.tdiv_eq_ediv_of_nonneg (by omega)]; omega
  have e2 : (y : Int).tdiv 16 = ((y / 16 : Nat) : Int) := by rw [Int.tdiv_eq_ediv_of_nonneg (by omega)]; omega
  obtain ⟨a, ha⟩ : ∃ a, x / 16 = a := ⟨_, rfl⟩
  obtain ⟨b, hb⟩ : ∃ b, y / 16 = b := ⟨_, rfl⟩
  have la : a < 4 := by omega
  have lb : b < 4 := by omega
  rw [ha] at e1 ⊢
  rw [hb] at e2 ⊢
  clear ha hb
  have f1 : (a : Int) % 65536 = a := by omega
  have f2 : (b : Int) % 65536 = b := by omega
  go_enter Tryz.func114, Tryz.ntmps114
  go_wp2_with fail
  go_at_call 90
  refine (geom_on _ _ _).mono ?_
  rintro z w1 ⟨rfl, hb1⟩
  rw [ho.out]
  have h2 := var2 (var_on (g := w.heap.size) hb1 (by simp only [heap_alloc]; simp; exact ⟨⟨rfl, rfl⟩, rfl⟩) (by simp))
  have hB : Below w.heap.size w w1 := below_on (below1 _ _) hb1
  clear hb1
  go_wp2_with fail
  go_at_call 120
  refine (weave_at a b (by omega) (by omega) _ (HM.out.below hB)).mono ?_
  rintro z w2 ⟨rfl, rfl⟩
  rw [weave_wvN a la b lb]
  have hw := wvN_lt a la b lb
  obtain ⟨v, hv⟩ : ∃ v, Hid (wvN a b = v) := ⟨_, rfl⟩
  rw [hv.out] at hw ⊢
  go_wp2
  go_ret2
  exact ⟨by rw [hv.out]; rfl, hB⟩
theorem cells_of_off (w : World) (x y : Int) (h : onB x y = false) : Calls Tryz.prog 114 #[pt x y] w fun e w' => e = .returned (.tuple #[.int .i64 0, .int .i64 14]) ∧ Below w.heap.size w w' := by
  have ho : Hid (onB x y = false) := h
  clear h
  go_enter Tryz.func114, Tryz.ntmps114
  go_wp2_with fail
  go_at_call 90
  refine (geom_on _ _ _).mono ?_
  rintro z w1 ⟨rfl, hb1⟩
  rw [ho.out]
  have hB : Below w.heap.size w w1 := below_on (below1 _ _) hb1
  clear hb1
  go_wp2
  go_ret2
  exact ⟨rfl, hB⟩
theorem cells_of (w : World) (hM : Masks w) (x y : Int) : Calls Tryz.prog 114 #[pt x y] w fun e w' => e = .returned (.tuple #[.int .i64 (ofN x y : Nat), .int .i64 (ofE x y)]) ∧ Below w.heap.size w w' := by
  cases h : onB x y
  · simp only [ofN, ofE, h]; exact cells_of_off w x y h
  · have := (onB_iff _ _).1 h
    obtain ⟨a, ha⟩ : ∃ a : Nat, x = a := ⟨x.toNat, by omega⟩
    obtain ⟨b, hb⟩ : ∃ b : Nat, y = b := ⟨y.toNat, by omega⟩
    subst ha hb
    have e1 : ((a : Int) / 16).toNat = a / 16 := by omega
    have e2 : ((b : Int) / 16).toNat = b / 16 := by omega
    simp only [ofN, ofE, h, e1, e2]; exact cells_of_on w hM a b (by omega) (by omega)
end Go.Proofs.YtfoncphdbaaedaaGreatDoor
