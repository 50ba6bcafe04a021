/- Contracts of cells.Cover and of the grid's references over this translation. -/
import Derived.Test.YtildhbkcpehobaaGreatDoorCells
import Derived.WalkMore
namespace Go.Proofs.YtildhbkcpehobaaGreatDoor
open Go.RowKit
set_option linter.unusedVariables false
set_option linter.unusedSimpArgs false
def RowC (w : World) (l : List Nat) : Ending → World → Prop := fun e w' => ∃ v, e = .returned v ∧ w'.ownsRow w.heap.size 3 1 v l.length (vals l) ∧ Below w.heap.size w w'
theorem Tryz.info3 : (Tryz.prog.info? 3).map (fun i => (i.zero, i.size, i.bytes)) = some (some (.int .i64 0), 1, 8) := by kernel_rfl
theorem owns_on {base : Nat} {e : TypeId} {size : Nat} {v : Value} {n : Nat} {xs : List Value} {W W' : World} (h : W.ownsRow base e size v n xs) (hb : Below W.heap.size W W') : W'.ownsRow base e size v n xs :=
  h.kept (row := none) ⟨hb.os, hb.tape, hb.output, hb.size, fun k hk _ => hb.block k hk⟩ (by cases hv : v.ownBlock <;> simp)
theorem ref_rect_no (w : World) (c : Int) (hc : isC c = false) : Calls Tryz.prog 34 #[.int .i64 c] w fun e w' => e = .returned (.tuple #[rc 0 0 0 0, .bool false]) ∧ Below w.heap.size w w' := by
  go_enter Tryz.func34, Tryz.ntmps34
  go_wp2_with fail
  go_at_call 49
  refine (ref_is_cell _ _).mono ?_
  rintro z w1 ⟨rfl, rfl⟩
  rw [hc]
  go_wp2
  exact bodyPost_ret (v := .tuple #[rc 0 0 0 0, .bool false]) (by simp [results, Tryz.results11, go_sem]) rfl ⟨rfl, below1 _ _⟩
theorem ref_rect_at (w : World) (c : Nat) (hc : c < 16) : Calls Tryz.prog 34 #[.int .i64 c] w fun e w' => e = .returned (.tuple #[(cellN c).v, .bool true]) ∧ Below w.heap.size w w' := by
  have hm : (c : Int) % 4294967296 = c := by omega
  have l1 := cx_lt c
  have l2 := cy_lt c
  have hi := isC_of hc
  obtain ⟨g1, g2⟩ := gat_cx c hc
  unfold cellN
  obtain ⟨x, hx⟩ : ∃ x, Hid (cx c = x) := ⟨_, rfl⟩
  obtain ⟨y, hy⟩ : ∃ y, Hid (cy c = y) := ⟨_, rfl⟩
  rw [hx.out] at l1 g1 ⊢
  rw [hy.out] at l2 g2 ⊢
  have G : Hid (gat c = x ∧ gat (c / 2) = y) := ⟨g1, g2⟩
  clear g1 g2
  have hx1 : (x : Int) * 16 + 16 = (x + 1) * 16 := by omega
  have hy1 : (y : Int) * 16 + 16 = (y + 1) * 16 := by omega
  go_enter Tryz.func34, Tryz.ntmps34
  go_wp2_with fail
  go_at_call 49
  refine (ref_is_cell _ _).mono ?_
  rintro z w1 ⟨rfl, rfl⟩
  rw [hi]
  clear hi
  go_wp2_with fail
  go_at_call 50
  refine (ref_split c (by omega) _).mono ?_
  rintro z w1 ⟨rfl, rfl⟩
  rw [G.out.1, G.out.2]
  go_wp2
  exact bodyPost_ret (v := .tuple #[rc (x * 16) (y * 16) ((x + 1) * 16) ((y + 1) * 16), .bool true]) (by simp [results, Tryz.results11, go_sem]) rfl ⟨rfl, below1 _ _⟩
theorem ref_rect (w : World) (c : Int) : Calls Tryz.prog 34 #[.int .i64 c] w fun e w' => e = .returned (.tuple #[(cellR c).v, .bool (isC c)]) ∧ Below w.heap.size w w' := by
  cases h : isC c
  · rw [cellR, h]; exact ref_rect_no w c h
  · obtain ⟨n, rfl, hn⟩ := isC_nat h
    rw [cellR_of hn]; exact ref_rect_at w n hn
end Go.Proofs.YtildhbkcpehobaaGreatDoor
