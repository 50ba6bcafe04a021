/- Contracts of cells.Cover and of the grid's references over this translation. -/
import Derived.Test.YtfoncphdbaaedaaGreatDoorCells
import Derived.WalkMore
namespace Go.Proofs.YtfoncphdbaaedaaGreatDoor
open Go.RowKit
set_option linter.unusedVariables false
set_option linter.unusedSimpArgs false
def RowC (w : World) (l : List Nat) : Ending → World → Prop := fun e w' => ∃ v, e = .returned v ∧ w'.ownsRow w.heap.size 3 1 v l.length (vals l) ∧ Below w.heap.size w w'
theorem Tryz.info3 : (Tryz.prog.info? 3).map (fun i => (i.zero, i.size, i.bytes)) = some (some (.int .i64 0), 1, 8) := by kernel_rfl
theorem owns_on {base : Nat} {e : TypeId} {size : Nat} {v : Value} {n : Nat} {xs : List Value} {W W' : World} (h : W.ownsRow base e size v n xs) (hb : Below W.heap.size W W') : W'.ownsRow base e size v n xs :=
  h.kept (row := none) ⟨hb.os, hb.tape, hb.output, hb.size, fun k hk _ => hb.block k hk⟩ (by cases hv : v.ownBlock <;> simp)
theorem ref_cell_on (w : World) (x y : Nat) (hx : x < 64) (hy : y < 64) : Calls Tryz.prog 35 #[pt x y] w fun e w' => e = .returned (.tuple #[.int .i64 (wvN (x / 16) (y / 16) : Nat), .int .i64 0]) ∧ Below w.heap.size w w' := by
  have ho : Hid (onB x y = true) := (onB_iff _ _).2 (by omega)
  have e1 : (x : Int).tdiv 16 = ((x / 16 : Nat) : Int) := by rw [Int.tdiv_eq_ediv_of_nonneg (by omega)]; omega
  have e2 : (y : Int).tdiv 16 = ((y / 16 : Nat) : Int) := by rw [Int.tdiv_eq_ediv_of_nonneg (by omega)]; omega
  obtain ⟨a, ha⟩ : ∃ a, x / 16 = a := ⟨_, rfl⟩
  obtain ⟨b, hb⟩ : ∃ b, y / 16 = b := ⟨_, rfl⟩
  have la : a < 4 := by omega
  have lb : b < 4 := by omega
  rw [ha] at e1 ⊢
  rw [hb] at e2 ⊢
  clear ha hb
  have f1 : (a : Int) % 65536 = a := by omega
  have f2 : (b : Int) % 65536 = b := by omega
  go_enter Tryz.func35, Tryz.ntmps35
  go_wp2_with fail
  go_at_call 55
  refine (ref_on _ _ _).mono ?_
  rintro z w1 ⟨rfl, hb1⟩
  rw [ho.out]
  have h2 := var2 (var_on (g := w.heap.size) hb1 (by simp only [heap_alloc]; simp; exact ⟨⟨rfl, rfl⟩, rfl⟩) (by simp))
  have hB : Below w.heap.size w w1 := below_on (below1 _ _) hb1
  clear hb1
  go_wp2_with fail
  go_at_call 56
  refine (ref_weave a b (by omega) (by omega) _).mono ?_
  rintro z w2 ⟨rfl, rfl⟩
  rw [weave_wvN a la b lb]
  have hw := wvN_lt a la b lb
  obtain ⟨v, hv⟩ : ∃ v, Hid (wvN a b = v) := ⟨_, rfl⟩
  rw [hv.out] at hw ⊢
  go_wp2
  go_ret2
  exact ⟨by rw [hv.out]; rfl, hB⟩
theorem ref_cell_off (w : World) (x y : Int) (h : onB x y = false) : Calls Tryz.prog 35 #[pt x y] w fun e w' => e = .returned (.tuple #[.int .i64 0, .int .i64 14]) ∧ Below w.heap.size w w' := by
  have ho : Hid (onB x y = false) := h
  clear h
  go_enter Tryz.func35, Tryz.ntmps35
  go_wp2_with fail
  go_at_call 55
  refine (ref_on _ _ _).mono ?_
  rintro z w1 ⟨rfl, hb1⟩
  rw [ho.out]
  have hB : Below w.heap.size w w1 := below_on (below1 _ _) hb1
  clear hb1
  go_wp2
  go_ret2
  exact ⟨rfl, hB⟩
theorem ref_cell (w : World) (x y : Int) : Calls Tryz.prog 35 #[pt x y] w fun e w' => e = .returned (.tuple #[.int .i64 (ofN x y : Nat), .int .i64 (ofE x y)]) ∧ Below w.heap.size w w' := by
  cases h : onB x y
  · simp only [ofN, ofE, h]; exact ref_cell_off w x y h
  · have := (onB_iff _ _).1 h
    obtain ⟨a, ha⟩ : ∃ a : Nat, x = a := ⟨x.toNat, by omega⟩
    obtain ⟨b, hb⟩ : ∃ b : Nat, y = b := ⟨y.toNat, by omega⟩
    subst ha hb
    have e1 : ((a : Int) / 16).toNat = a / 16 := by omega
    have e2 : ((b : Int) / 16).toNat = b / 16 := by omega
    simp only [ofN, ofE, h, e1, e2]; exact ref_cell_on w a b (by omega) (by omega)

end Go.Proofs.YtfoncphdbaaedaaGreatDoor
