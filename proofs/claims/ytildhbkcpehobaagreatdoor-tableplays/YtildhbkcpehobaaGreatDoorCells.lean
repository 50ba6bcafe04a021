/- Contracts of the package cells' functions over this translation. -/
import Derived.Test.YtildhbkcpehobaaGreatDoorGeom
import Derived.Test.YtildhbkcpehobaaGreatDoorMorton2
import Derived.Test.YtildhbkcpehobaaGreatDoorCellsP
namespace Go.Proofs.YtildhbkcpehobaaGreatDoor
open Go.RowKit
theorem cells_is (w : World) (c : Int) : Calls Tryz.prog 55 #[.int .i64 c] w fun e w' => e = .returned (.bool (isC c)) ∧ w' = w := by
  go_enter Tryz.func55, Tryz.ntmps55
  go_wp2 <;> (go_ret; exact ⟨by simp_all [isC] <;> omega, rfl⟩)
theorem ref_is_cell (w : World) (c : Int) : Calls Tryz.prog 49 #[.int .i64 c] w fun e w' => e = .returned (.bool (isC c)) ∧ w' = w := by
  go_enter Tryz.func49, Tryz.ntmps49
  go_wp2 <;> (go_ret; exact ⟨by simp_all [isC] <;> omega, rfl⟩)
theorem cells_place (w : World) (hM : Masks w) (c : Nat) (hc : c < 16) : Calls Tryz.prog 56 #[.int .i64 c] w fun e w' => e = .returned (.tuple #[.int .i64 (cx c : Nat), .int .i64 (cy c : Nat)]) ∧ Below w.heap.size w w' := by
  have HM : Hid (Masks w) := hM
  clear hM
  obtain ⟨g1, g2⟩ := gat_cx c hc
  have l1 := cx_lt c
  have l2 := cy_lt c
  obtain ⟨x, hx⟩ : ∃ x, cx c = x := ⟨_, rfl⟩
  obtain ⟨y, hy⟩ : ∃ y, cy c = y := ⟨_, rfl⟩
  rw [hx] at l1 g1 ⊢
  rw [hy] at l2 g2 ⊢
  have G : Hid (gat c = x ∧ gat (c / 2) = y) := ⟨g1, g2⟩
  clear g1 g2 hx hy
  have hm : (c : Int) % 4294967296 = c := by omega
  have hx : (x : Int) % 65536 = x := by omega
  have hy : (y : Int) % 65536 = y := by omega
  go_enter Tryz.func56, Tryz.ntmps56
  go_wp2_with fail
  go_at_call 71
  refine (split_at c (by omega) _ HM.out).mono ?_
  rintro z w1 ⟨rfl, hb⟩
  rw [G.out.1, G.out.2]
  go_wp2
  go_ret2
  exact ⟨rfl, hb⟩
theorem cells_rect_at (w : World) (hM : Masks w) (c : Nat) (hc : c < 16) : Calls Tryz.prog 39 #[.int .i64 c] w fun e w' => e = .returned (.tuple #[(cellN c).v, .bool true]) ∧ Below w.heap.size w w' := by
  have HM : Hid (Masks w) := hM
  clear hM
  have hc1 : (c : Int) < 16 := by omega
  have l1 := cx_lt c
  have l2 := cy_lt c
  have hi := isC_of hc
  unfold cellN
  obtain ⟨x, hx⟩ : ∃ x, Hid (cx c = x) := ⟨_, rfl⟩
  obtain ⟨y, hy⟩ : ∃ y, Hid (cy c = y) := ⟨_, rfl⟩
  rw [hx.out] at l1 ⊢
  rw [hy.out] at l2 ⊢
  go_enter Tryz.func39, Tryz.ntmps39
  go_wp2_with fail
  go_at_call 55
  refine (cells_is _ _).mono ?_
  rintro z w1 ⟨rfl, rfl⟩
  rw [hi]
  clear hi
  go_wp2_with fail
  go_at_call 56
  refine (cells_place _ (HM.out.below (below1 _ _)) c hc).mono ?_
  rintro z w1 ⟨rfl, hb⟩
  rw [hx.out, hy.out]
  have h2 := var4 (var_on (g := w.heap.size) hb (by simp only [heap_alloc]; simp; exact ⟨⟨rfl, rfl, rfl, rfl⟩, rfl⟩) (by simp))
  have hB : Below w.heap.size w w1 := below_on (below1 _ _) hb
  clear hb
  go_wp2
  exact bodyPost_ret (v := .tuple #[rc (x * 16) (y * 16) ((x + 1) * 16) ((y + 1) * 16), .bool true]) (by simp [results, go_sem, h2]) rfl ⟨rfl, below_set4 hB (by omega) _ _ _ _⟩
theorem cells_rect_no (w : World) (c : Int) (hc : isC c = false) : Calls Tryz.prog 39 #[.int .i64 c] w fun e w' => e = .returned (.tuple #[rc 0 0 0 0, .bool false]) ∧ Below w.heap.size w w' := by
  go_enter Tryz.func39, Tryz.ntmps39
  go_wp2_with fail
  go_at_call 55
  refine (cells_is _ _).mono ?_
  rintro z w1 ⟨rfl, rfl⟩
  rw [hc]
  go_wp2
  exact bodyPost_ret (v := .tuple #[rc 0 0 0 0, .bool false]) (by simp [results, go_sem]) rfl ⟨rfl, below1 _ _⟩
theorem cells_rect (w : World) (hM : Masks w) (c : Int) : Calls Tryz.prog 39 #[.int .i64 c] w fun e w' => e = .returned (.tuple #[(cellR c).v, .bool (isC c)]) ∧ Below w.heap.size w w' := by
  cases h : isC c
  · rw [cellR, h]; exact cells_rect_no w c h
  · obtain ⟨n, rfl, hn⟩ := isC_nat h
    rw [cellR_of hn]; exact cells_rect_at w hM n hn
end Go.Proofs.YtildhbkcpehobaaGreatDoor
