/- Contract of quarters over this translation: it returns the four parts of a square, and changes nothing that was there. -/
import Derived.Test.YtildhbkcpehobaaGreatDoorQd3
import Derived.LoopN
namespace Go.Proofs.YtildhbkcpehobaaGreatDoor
open Go.RowKit
set_option linter.unusedVariables false
/-- how many codes a part has -/
def qN (d : Nat) : Nat := sideN (d + 1) * sideN (d + 1)
def partQ (s : Sq) (i : Nat) : Sq := ⟨s.d + 1, s.b + i * qN s.d⟩
def qC (s : Sq) (k i : Nat) : List Value := if i < k then (partQ s i).cs else [.int .i64 0, .int .u32 0]
def fourK (s : Sq) (k : Nat) : Array Value := (qC s k 0 ++ qC s k 1 ++ qC s k 2 ++ qC s k 3).toArray
def fourV (s : Sq) : Value := .agg #[.int .i64 ((partQ s 0).d : Nat), .int .u32 ((partQ s 0).b : Nat), .int .i64 ((partQ s 1).d : Nat), .int .u32 ((partQ s 1).b : Nat), .int .i64 ((partQ s 2).d : Nat), .int .u32 ((partQ s 2).b : Nat), .int .i64 ((partQ s 3).d : Nat), .int .u32 ((partQ s 3).b : Nat)]
theorem end_part (s : Sq) (i : Nat) : endN (partQ s i) = (partQ s (i + 1)).b := by
  unfold endN partQ qN
  simp only
  rw [Nat.succ_mul]; omega
theorem qN_le (d : Nat) : qN d ≤ 4096 := by
  have : sideN (d + 1) ≤ 64 := Nat.div_le_self _ _
  exact Nat.mul_le_mul this this
abbrev cells8 (a0 a1 a2 a3 a4 a5 a6 a7 : Value) : Array Value := #[a0, a1, a2, a3, a4, a5, a6, a7]
set_option maxHeartbeats 2000000 in
theorem sq_quarters (d b : Nat) (w : World) (hd : d ≤ 3) (hb : b ≤ 4096) : Calls Tryz.prog 76 #[.agg #[.int .i64 (d : Nat), .int .u32 (b : Nat)]] w fun e w' => e = .returned (fourV ⟨d, b⟩) ∧ Below w.heap.size w w' := by
  have hqle := qN_le d
  obtain ⟨D, hD⟩ : ∃ D : Nat, D = d + 1 := ⟨_, rfl⟩
  have hDz : ((d : Int) + 1) = (D : Int) := by omega
  obtain ⟨b1, hb1⟩ : ∃ b1 : Nat, (partQ ⟨d, b⟩ 1).b = b1 := ⟨_, rfl⟩
  obtain ⟨b2, hb2⟩ : ∃ b2 : Nat, (partQ ⟨d, b⟩ 2).b = b2 := ⟨_, rfl⟩
  obtain ⟨b3, hb3⟩ : ∃ b3 : Nat, (partQ ⟨d, b⟩ 3).b = b3 := ⟨_, rfl⟩
  obtain ⟨b4, hb4⟩ : ∃ b4 : Nat, (partQ ⟨d, b⟩ 4).b = b4 := ⟨_, rfl⟩
  have hb0 : (partQ ⟨d, b⟩ 0).b = b := by unfold partQ; simp
  have l1 : b1 ≤ 100000 := by rw [← hb1]; unfold partQ; simp only; omega
  have l2 : b2 ≤ 100000 := by rw [← hb2]; unfold partQ; simp only; omega
  have l3 : b3 ≤ 100000 := by rw [← hb3]; unfold partQ; simp only; omega
  have E0 : ∀ w, Calls Tryz.prog 77 #[.agg #[.int .i64 (D : Nat), .int .u32 (b : Nat)]] w fun e w' => e = .returned (.int .u32 (b1 : Nat)) ∧ Below w.heap.size w w' := fun w => by
    have := sq_end D b w (by omega) (by omega)
    rw [show endN ⟨D, b⟩ = b1 by rw [hD, ← hb1, ← end_part ⟨d, b⟩ 0]; unfold partQ; simp] at this
    exact this
  have E1 : ∀ w, Calls Tryz.prog 77 #[.agg #[.int .i64 (D : Nat), .int .u32 (b1 : Nat)]] w fun e w' => e = .returned (.int .u32 (b2 : Nat)) ∧ Below w.heap.size w w' := fun w => by
    have := sq_end D b1 w (by omega) l1
    rw [show endN ⟨D, b1⟩ = b2 by rw [hD, ← hb2, ← end_part ⟨d, b⟩ 1, ← hb1]; unfold partQ; simp] at this
    exact this
  have E2 : ∀ w, Calls Tryz.prog 77 #[.agg #[.int .i64 (D : Nat), .int .u32 (b2 : Nat)]] w fun e w' => e = .returned (.int .u32 (b3 : Nat)) ∧ Below w.heap.size w w' := fun w => by
    have := sq_end D b2 w (by omega) l2
    rw [show endN ⟨D, b2⟩ = b3 by rw [hD, ← hb3, ← end_part ⟨d, b⟩ 2, ← hb2]; unfold partQ; simp] at this
    exact this
  have E3 : ∀ w, Calls Tryz.prog 77 #[.agg #[.int .i64 (D : Nat), .int .u32 (b3 : Nat)]] w fun e w' => e = .returned (.int .u32 (b4 : Nat)) ∧ Below w.heap.size w w' := fun w => by
    have := sq_end D b3 w (by omega) l3
    rw [show endN ⟨D, b3⟩ = b4 by rw [hD, ← hb4, ← end_part ⟨d, b⟩ 3, ← hb3]; unfold partQ; simp] at this
    exact this
  have hres : fourV ⟨d, b⟩ = .agg #[.int .i64 (D : Nat), .int .u32 (b : Nat), .int .i64 (D : Nat), .int .u32 (b1 : Nat), .int .i64 (D : Nat), .int .u32 (b2 : Nat), .int .i64 (D : Nat), .int .u32 (b3 : Nat)] := by
    unfold fourV
    rw [hb0, hb1, hb2, hb3, hD]; rfl
  rw [hres]
  clear hres hb0 hb1 hb2 hb3 hb4 l1 l2 l3 hqle hD
  obtain ⟨Z, hZ⟩ : ∃ Z : Array Value, Z = cells8 (.int .i64 0) (.int .u32 0) (.int .i64 0) (.int .u32 0) (.int .i64 0) (.int .u32 0) (.int .i64 0) (.int .u32 0) := ⟨_, rfl⟩
  obtain ⟨W0, hW0⟩ : ∃ W0, W0 = (((w.alloc (.cells #[.int .i64 (d : Nat), .int .u32 (b : Nat)] 96)).alloc (.cells Z 113)).alloc (.cells Z 113)).alloc (.cells #[.int .i64 (D : Nat), .int .u32 (b : Nat)] 96) := ⟨_, rfl⟩
  have hB0 : Below w.heap.size w W0 := by rw [hW0]; exact below_on (below_on (below_on (below1 _ _) (below1 _ _)) (below1 _ _)) (below1 _ _)
  have k2 := hid (show W0.heap[w.heap.size + 1]? = some (.cells Z 113 (0, 0)) by rw [hW0]; exact old_at (old_at (new_at _ _ _ (by simp)) _) _)
  have k3 := hid (show W0.heap[w.heap.size + 1 + 1]? = some (.cells Z 113 (0, 0)) by rw [hW0]; exact old_at (new_at _ _ _ (by simp)) _)
  have k4 := hid (show W0.heap[w.heap.size + 1 + 1 + 1]? = some (.cells #[.int .i64 (D : Nat), .int .u32 (b : Nat)] 96 (0, 0)) by rw [hW0]; exact new_at _ _ _ (by simp))
  rw [hZ] at hW0 k2 k3
  clear hZ
  go_enter Tryz.func76, Tryz.ntmps76
  go_wp2_with fail
  rw [← hW0]
  clear hW0
  refine wp_loop_rounds 5 ?_
  rw [rounds_succ]
  have c3 := cells_at k3.out
  have c4 := cells_at k4.out
  go_wp2_with fail
  have k3' := hid (set_at (set_at k3.out (i := 0) (.int .i64 (D : Nat)) (cs' := cells8 (.int .i64 (D : Nat)) (.int .u32 0) (.int .i64 0) (.int .u32 0) (.int .i64 0) (.int .u32 0) (.int .i64 0) (.int .u32 0)) rfl) (i := 1) (.int .u32 (b : Nat)) (cs' := cells8 (.int .i64 (D : Nat)) (.int .u32 (b : Nat)) (.int .i64 0) (.int .u32 0) (.int .i64 0) (.int .u32 0) (.int .i64 0) (.int .u32 0)) rfl)
  have k2' := hid (set_off (set_off k2.out (b := w.heap.size + 1 + 1) (i := 0) (by omega) (.int .i64 (D : Nat))) (b := w.heap.size + 1 + 1) (i := 1) (by omega) (.int .u32 (b : Nat)))
  have k4' := hid (set_off (set_off k4.out (b := w.heap.size + 1 + 1) (i := 0) (by omega) (.int .i64 (D : Nat))) (b := w.heap.size + 1 + 1) (i := 1) (by omega) (.int .u32 (b : Nat)))
  have hBs : Below w.heap.size w _ := (hB0.setCell (p := ⟨w.heap.size + 1 + 1, 0, none⟩) (by simp; omega) (.int .i64 (D : Nat))).setCell (p := ⟨w.heap.size + 1 + 1, 1, none⟩) (by simp; omega) (.int .u32 (b : Nat))
  clear k2 k3 k4 hB0 c3 c4
  refine (E0 _).mono ?_
  rintro x w1 ⟨rfl, hbe⟩
  have k2 := hid (var_on hbe k2'.out (lt_of_at k2'.out))
  have k3 := hid (var_on hbe k3'.out (lt_of_at k3'.out))
  have k4 := hid (var_on hbe k4'.out (lt_of_at k4'.out))
  have hB0 := below_on hBs hbe
  clear k2' k3' k4' hBs hbe
  rename World => W1
  have c4 := cells_at k4.out
  go_wp2_with fail
  have k3' := hid (set_off k3.out (b := w.heap.size + 1 + 1 + 1) (i := 1) (by omega) (.int .u32 (b1 : Nat)))
  have k2' := hid (set_off k2.out (b := w.heap.size + 1 + 1 + 1) (i := 1) (by omega) (.int .u32 (b1 : Nat)))
  have k4' := hid (set_at k4.out (i := 1) (.int .u32 (b1 : Nat)) (cs' := #[.int .i64 (D : Nat), .int .u32 (b1 : Nat)]) rfl)
  replace hB0 : Below w.heap.size w _ := hB0.setCell (p := ⟨w.heap.size + 1 + 1 + 1, 1, none⟩) (by simp; omega) (.int .u32 (b1 : Nat))
  clear k2 k3 k4 c4
  generalize W1.setCell ⟨w.heap.size + 1 + 1 + 1, 1, none⟩ (.int .u32 (b1 : Nat)) = W2 at k2' k3' k4' hB0 ⊢
  have k2 := k2'
  have k3 := k3'
  have k4 := k4'
  clear k2' k3' k4' W1
  rw [rounds_succ]
  have c3 := cells_at k3.out
  have c4 := cells_at k4.out
  go_wp2_with fail
  have k3' := hid (set_at (set_at k3.out (i := 2) (.int .i64 (D : Nat)) (cs' := cells8 (.int .i64 (D : Nat)) (.int .u32 (b : Nat)) (.int .i64 (D : Nat)) (.int .u32 0) (.int .i64 0) (.int .u32 0) (.int .i64 0) (.int .u32 0)) rfl) (i := 3) (.int .u32 (b1 : Nat)) (cs' := cells8 (.int .i64 (D : Nat)) (.int .u32 (b : Nat)) (.int .i64 (D : Nat)) (.int .u32 (b1 : Nat)) (.int .i64 0) (.int .u32 0) (.int .i64 0) (.int .u32 0)) rfl)
  have k2' := hid (set_off (set_off k2.out (b := w.heap.size + 1 + 1) (i := 2) (by omega) (.int .i64 (D : Nat))) (b := w.heap.size + 1 + 1) (i := 3) (by omega) (.int .u32 (b1 : Nat)))
  have k4' := hid (set_off (set_off k4.out (b := w.heap.size + 1 + 1) (i := 2) (by omega) (.int .i64 (D : Nat))) (b := w.heap.size + 1 + 1) (i := 3) (by omega) (.int .u32 (b1 : Nat)))
  have hBs : Below w.heap.size w _ := (hB0.setCell (p := ⟨w.heap.size + 1 + 1, 2, none⟩) (by simp; omega) (.int .i64 (D : Nat))).setCell (p := ⟨w.heap.size + 1 + 1, 3, none⟩) (by simp; omega) (.int .u32 (b1 : Nat))
  clear k2 k3 k4 hB0 c3 c4
  refine (E1 _).mono ?_
  rintro x w1 ⟨rfl, hbe⟩
  have k2 := hid (var_on hbe k2'.out (lt_of_at k2'.out))
  have k3 := hid (var_on hbe k3'.out (lt_of_at k3'.out))
  have k4 := hid (var_on hbe k4'.out (lt_of_at k4'.out))
  have hB0 := below_on hBs hbe
  clear k2' k3' k4' hBs hbe
  rename World => W1
  have c4 := cells_at k4.out
  go_wp2_with fail
  have k3' := hid (set_off k3.out (b := w.heap.size + 1 + 1 + 1) (i := 1) (by omega) (.int .u32 (b2 : Nat)))
  have k2' := hid (set_off k2.out (b := w.heap.size + 1 + 1 + 1) (i := 1) (by omega) (.int .u32 (b2 : Nat)))
  have k4' := hid (set_at k4.out (i := 1) (.int .u32 (b2 : Nat)) (cs' := #[.int .i64 (D : Nat), .int .u32 (b2 : Nat)]) rfl)
  replace hB0 : Below w.heap.size w _ := hB0.setCell (p := ⟨w.heap.size + 1 + 1 + 1, 1, none⟩) (by simp; omega) (.int .u32 (b2 : Nat))
  clear k2 k3 k4 c4
  generalize W1.setCell ⟨w.heap.size + 1 + 1 + 1, 1, none⟩ (.int .u32 (b2 : Nat)) = W2 at k2' k3' k4' hB0 ⊢
  have k2 := k2'
  have k3 := k3'
  have k4 := k4'
  clear k2' k3' k4' W1
  rw [rounds_succ]
  have c3 := cells_at k3.out
  have c4 := cells_at k4.out
  go_wp2_with fail
  have k3' := hid (set_at (set_at k3.out (i := 4) (.int .i64 (D : Nat)) (cs' := cells8 (.int .i64 (D : Nat)) (.int .u32 (b : Nat)) (.int .i64 (D : Nat)) (.int .u32 (b1 : Nat)) (.int .i64 (D : Nat)) (.int .u32 0) (.int .i64 0) (.int .u32 0)) rfl) (i := 5) (.int .u32 (b2 : Nat)) (cs' := cells8 (.int .i64 (D : Nat)) (.int .u32 (b : Nat)) (.int .i64 (D : Nat)) (.int .u32 (b1 : Nat)) (.int .i64 (D : Nat)) (.int .u32 (b2 : Nat)) (.int .i64 0) (.int .u32 0)) rfl)
  have k2' := hid (set_off (set_off k2.out (b := w.heap.size + 1 + 1) (i := 4) (by omega) (.int .i64 (D : Nat))) (b := w.heap.size + 1 + 1) (i := 5) (by omega) (.int .u32 (b2 : Nat)))
  have k4' := hid (set_off (set_off k4.out (b := w.heap.size + 1 + 1) (i := 4) (by omega) (.int .i64 (D : Nat))) (b := w.heap.size + 1 + 1) (i := 5) (by omega) (.int .u32 (b2 : Nat)))
  have hBs : Below w.heap.size w _ := (hB0.setCell (p := ⟨w.heap.size + 1 + 1, 4, none⟩) (by simp; omega) (.int .i64 (D : Nat))).setCell (p := ⟨w.heap.size + 1 + 1, 5, none⟩) (by simp; omega) (.int .u32 (b2 : Nat))
  clear k2 k3 k4 hB0 c3 c4
  refine (E2 _).mono ?_
  rintro x w1 ⟨rfl, hbe⟩
  have k2 := hid (var_on hbe k2'.out (lt_of_at k2'.out))
  have k3 := hid (var_on hbe k3'.out (lt_of_at k3'.out))
  have k4 := hid (var_on hbe k4'.out (lt_of_at k4'.out))
  have hB0 := below_on hBs hbe
  clear k2' k3' k4' hBs hbe
  rename World => W1
  have c4 := cells_at k4.out
  go_wp2_with fail
  have k3' := hid (set_off k3.out (b := w.heap.size + 1 + 1 + 1) (i := 1) (by omega) (.int .u32 (b3 : Nat)))
  have k2' := hid (set_off k2.out (b := w.heap.size + 1 + 1 + 1) (i := 1) (by omega) (.int .u32 (b3 : Nat)))
  have k4' := hid (set_at k4.out (i := 1) (.int .u32 (b3 : Nat)) (cs' := #[.int .i64 (D : Nat), .int .u32 (b3 : Nat)]) rfl)
  replace hB0 : Below w.heap.size w _ := hB0.setCell (p := ⟨w.heap.size + 1 + 1 + 1, 1, none⟩) (by simp; omega) (.int .u32 (b3 : Nat))
  clear k2 k3 k4 c4
  generalize W1.setCell ⟨w.heap.size + 1 + 1 + 1, 1, none⟩ (.int .u32 (b3 : Nat)) = W2 at k2' k3' k4' hB0 ⊢
  have k2 := k2'
  have k3 := k3'
  have k4 := k4'
  clear k2' k3' k4' W1
  rw [rounds_succ]
  have c3 := cells_at k3.out
  have c4 := cells_at k4.out
  go_wp2_with fail
  have k3' := hid (set_at (set_at k3.out (i := 6) (.int .i64 (D : Nat)) (cs' := cells8 (.int .i64 (D : Nat)) (.int .u32 (b : Nat)) (.int .i64 (D : Nat)) (.int .u32 (b1 : Nat)) (.int .i64 (D : Nat)) (.int .u32 (b2 : Nat)) (.int .i64 (D : Nat)) (.int .u32 0)) rfl) (i := 7) (.int .u32 (b3 : Nat)) (cs' := cells8 (.int .i64 (D : Nat)) (.int .u32 (b : Nat)) (.int .i64 (D : Nat)) (.int .u32 (b1 : Nat)) (.int .i64 (D : Nat)) (.int .u32 (b2 : Nat)) (.int .i64 (D : Nat)) (.int .u32 (b3 : Nat))) rfl)
  have k2' := hid (set_off (set_off k2.out (b := w.heap.size + 1 + 1) (i := 6) (by omega) (.int .i64 (D : Nat))) (b := w.heap.size + 1 + 1) (i := 7) (by omega) (.int .u32 (b3 : Nat)))
  have k4' := hid (set_off (set_off k4.out (b := w.heap.size + 1 + 1) (i := 6) (by omega) (.int .i64 (D : Nat))) (b := w.heap.size + 1 + 1) (i := 7) (by omega) (.int .u32 (b3 : Nat)))
  have hBs : Below w.heap.size w _ := (hB0.setCell (p := ⟨w.heap.size + 1 + 1, 6, none⟩) (by simp; omega) (.int .i64 (D : Nat))).setCell (p := ⟨w.heap.size + 1 + 1, 7, none⟩) (by simp; omega) (.int .u32 (b3 : Nat))
  clear k2 k3 k4 hB0 c3 c4
  refine (E3 _).mono ?_
  rintro x w1 ⟨rfl, hbe⟩
  have k2 := hid (var_on hbe k2'.out (lt_of_at k2'.out))
  have k3 := hid (var_on hbe k3'.out (lt_of_at k3'.out))
  have k4 := hid (var_on hbe k4'.out (lt_of_at k4'.out))
  have hB0 := below_on hBs hbe
  clear k2' k3' k4' hBs hbe
  rename World => W1
  have c4 := cells_at k4.out
  go_wp2_with fail
  have k3' := hid (set_off k3.out (b := w.heap.size + 1 + 1 + 1) (i := 1) (by omega) (.int .u32 (b4 : Nat)))
  have k2' := hid (set_off k2.out (b := w.heap.size + 1 + 1 + 1) (i := 1) (by omega) (.int .u32 (b4 : Nat)))
  have k4' := hid (set_at k4.out (i := 1) (.int .u32 (b4 : Nat)) (cs' := #[.int .i64 (D : Nat), .int .u32 (b4 : Nat)]) rfl)
  replace hB0 : Below w.heap.size w _ := hB0.setCell (p := ⟨w.heap.size + 1 + 1 + 1, 1, none⟩) (by simp; omega) (.int .u32 (b4 : Nat))
  clear k2 k3 k4 c4
  generalize W1.setCell ⟨w.heap.size + 1 + 1 + 1, 1, none⟩ (.int .u32 (b4 : Nat)) = W2 at k2' k3' k4' hB0 ⊢
  have k2 := k2'
  have k3 := k3'
  have k4 := k4'
  clear k2' k3' k4' W1
  rw [rounds_succ]
  have c3 := cells_at k3.out
  have c2 := cells_at k2.out
  go_wp2
  exact bodyPost_ret (v := .agg #[.int .i64 (D : Nat), .int .u32 (b : Nat), .int .i64 (D : Nat), .int .u32 (b1 : Nat), .int .i64 (D : Nat), .int .u32 (b2 : Nat), .int .i64 (D : Nat), .int .u32 (b3 : Nat)]) (by simp [results, Tryz.results76, go_sem, c2]) rfl ⟨rfl, ((((((((hB0).setCell (by simp) _).setCell (by simp) _).setCell (by simp) _).setCell (by simp) _).setCell (by simp) _).setCell (by simp) _).setCell (by simp) _).setCell (by simp) _⟩
end Go.Proofs.YtildhbkcpehobaaGreatDoor
