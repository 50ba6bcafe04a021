/- The statements' known(): its fixed examples hold. -/
import Derived.Test.YtaokhgbkghbpmaaFldE
import Derived.Test.YtaokhgbkghbpmaaFldK
namespace Go.Proofs.Ytaokhgbkghbpmaa
open Go.RowKit
set_option linter.unusedVariables false
theorem refIsD_at {D : Dl} {r : Bool} (h : isD D = r) (w : World) (hm : D.m < 256) (hs : ∀ k, (D.f k).s.size ≤ maxLen) : Calls Try.prog 16 #[D.v] w fun e w' => e = .returned (.bool r) ∧ Below w.heap.size w w' := by
  rw [← h]; exact ref_isDelta w D hm hs
theorem diff_at {a b : Th} {x : Dl} {q : Bool} (h : Hid (diff a b = (x, q))) (w : World) : Calls Try.prog 13 #[a.v, b.v] w fun e w' => e = .returned (.tuple #[x.v, .bool q]) ∧ Below w.heap.size w w' := by
  have := fields_diff w a b
  rw [h.out] at this
  exact this
theorem bytes_at {d : Dl} {S : ByteArray} (hD : Hid (isD d = true)) (hf : ∀ k, fitF (d.f k)) (h : Hid (⟨(bytesK d 4).toArray⟩ = S)) (w : World) : Calls Try.prog 15 #[d.v] w fun e w' => e = .returned (.tuple #[.string S, .int .i64 0]) ∧ Below w.heap.size w w' := by
  rw [← h.out]; exact fields_bytes w d hD.out hf
theorem read_at {s : ByteArray} {d : Dl} {n e : Nat} (h : Hid (read s.data.toList = (d, n, e))) (hs : s.size ≤ 1000000) (w : World) : Calls Try.prog 24 #[.string s] w fun x w' => x = .returned (.tuple #[d.v, .int .i64 n, .int .i64 e]) ∧ Below w.heap.size w w' := by
  have := fields_read w s hs
  rw [h.out] at this
  exact this
theorem apply_at {t y : Th} {d : Dl} (h : Hid (apply t d = y)) (hm : d.m < 256) (w : World) : Calls Try.prog 18 #[t.v, d.v] w fun e w' => e = .returned y.v ∧ Below w.heap.size w w' := by
  rw [← h.out]; exact fields_apply w t d hm
theorem isD_at {d : Dl} {r : Bool} (h : Hid (isD d = r)) (hm : d.m < 256) (hs : ∀ k, (d.f k).s.size ≤ maxLen) (w : World) : Calls Try.prog 20 #[d.v] w fun e w' => e = .returned (.bool r) ∧ Below w.heap.size w w' := by
  rw [← h.out]; exact fields_isDelta w d hm hs
theorem same_at {a b : Dl} {r : Bool} (h : Hid (eqD a b = r)) (w : World) : Calls Try.prog 23 #[a.v, b.v] w fun e w' => e = .returned (.bool r) ∧ Below w.heap.size w w' := by
  rw [← h.out]; exact fields_same w a b
def kA : Th := ⟨3, 0, 0, zF, zF, zF, zF⟩
def kB : Th := ⟨3, 1, 0, ⟨5, ⟨#[]⟩⟩, zF, zF, zF⟩
def kD : Dl := ⟨3, 3, 1, 0, ⟨5, ⟨#[]⟩⟩, zF, zF, zF⟩
def kS : ByteArray := ⟨#[3, 3, 1, 0, 0, 10]⟩
theorem k_diff : diff kA kB = (kD, true) := by kernel_rfl
theorem k_diff0 : diff kA kA = (zD, false) := by kernel_rfl
theorem k_isD : isD kD = true := by decide +kernel
theorem k_isD0 : isD zD = false := by decide +kernel
theorem k_bytes : (⟨(bytesK kD 4).toArray⟩ : ByteArray) = kS := by decide +kernel
theorem k_read : read kS.data.toList = (kD, 6, 0) := by kernel_rfl
theorem k_apply : apply kA kD = kB := by kernel_rfl
theorem k_f1 : isF ⟨0, ⟨#[97]⟩⟩ = true := by decide +kernel
theorem k_f2 : isF ⟨1, ⟨#[97]⟩⟩ = false := by decide +kernel
theorem k_same : eqD kD kD = true := by decide +kernel
theorem kD_fit : ∀ k, fitF (kD.f k) := by
  intro k
  match k with
  | 0 => exact ⟨by decide, by decide, by decide⟩
  | 1 => exact ⟨by decide, by decide, by decide⟩
  | 2 => exact ⟨by decide, by decide, by decide⟩
  | k + 3 => exact (⟨by decide, by decide, by decide⟩ : fitF zF)
theorem zD_size : ∀ k, (zD.f k).s.size ≤ maxLen := fun k => by have := (zD_f k).1; unfold maxLen; omega
theorem kD_size : ∀ k, (kD.f k).s.size ≤ maxLen := fun k => by have := (kD_fit k).1; unfold maxLen; omega
set_option maxRecDepth 100000 in
set_option maxHeartbeats 4000000 in
theorem known_holds (w : World) : Calls Try.prog 9 #[] w fun e w' => e = .returned (.bool true) ∧ Below w.heap.size w w' := by
  have hsz : kS.size = 6 := by decide +kernel
  have hm3 : ((kD.m : Int) == 3) = true := by decide +kernel
  have q1 := equal_th_at (a := kB) (b := kB) (eqT_self kB)
  have q2 := equal_dl_at k_same
  go_enter Try.func9, Try.ntmps9
  go_wp2_with fail
  refine (diff_at (a := kA) (b := kB) (hid k_diff) _).mono ?_
  rintro x w1 ⟨rfl, hb⟩
  have K1 := hid (var_on (o := kA.o) (g := w.heap.size) hb (old_at (new_at _ _ _ rfl) _) (by simp; omega))
  have K2 := hid (var_on (o := kB.o) (g := w.heap.size + 1) hb (new_at _ _ _ (by simp)) (by simp))
  have hB := below_on (Go.Joins.below_alloc2 w _ _) hb
  have c1 := cells_at K1.out
  have c2 := cells_at K2.out
  have l1 := at_lt K1.out
  have l2 := at_lt K2.out
  clear hb
  go_wp2_with fail
  refine (diff_at (a := kA) (b := kA) (hid k_diff0) _).mono ?_
  rintro x w2 ⟨rfl, hb⟩
  replace K1 := hid (var_on hb (old_at K1.out _) (at_lt (old_at K1.out _)))
  replace K2 := hid (var_on hb (old_at K2.out _) (at_lt (old_at K2.out _)))
  have K3 := hid (var_on (o := kD.o) (g := w1.heap.size) hb (new_at _ _ _ rfl) (by simp))
  replace hB := below_on (hB.alloc (by omega) _) hb
  clear hb c1 c2
  have c1 := cells_at K1.out
  have c3 := cells_at K3.out
  have l3 := at_lt K3.out
  replace l1 := at_lt K1.out
  replace l2 := at_lt K2.out
  go_wp2_with fail
  refine (bytes_at (d := kD) (hid k_isD) kD_fit (hid k_bytes) _).mono ?_
  rintro x w3 ⟨rfl, hb⟩
  replace K1 := hid (var_on hb (old_at K1.out _) (at_lt (old_at K1.out _)))
  replace K2 := hid (var_on hb (old_at K2.out _) (at_lt (old_at K2.out _)))
  replace K3 := hid (var_on hb (old_at K3.out _) (at_lt (old_at K3.out _)))
  replace hB := below_on (hB.alloc (by omega) _) hb
  clear hb c1 c3
  replace l1 := at_lt K1.out
  replace l2 := at_lt K2.out
  replace l3 := at_lt K3.out
  go_wp2_with fail
  refine (read_at (hid k_read) (by omega) _).mono ?_
  rintro x w4 ⟨rfl, hb⟩
  replace K1 := hid (var_on hb K1.out l1)
  replace K2 := hid (var_on hb K2.out l2)
  replace K3 := hid (var_on hb K3.out l3)
  replace hB := below_on hB hb
  clear hb
  replace l1 := at_lt K1.out
  replace l2 := at_lt K2.out
  replace l3 := at_lt K3.out
  go_wp2_with fail
  refine (fields_bytes_no _ zD k_isD0 (by decide) zD_size).mono ?_
  rintro x w5 ⟨rfl, hb⟩
  have K4 := hid (var_on (o := kD.o) (g := w4.heap.size) hb (new_at _ _ _ rfl) (by simp))
  replace K1 := hid (var_on hb (old_at K1.out _) (at_lt (old_at K1.out _)))
  replace K2 := hid (var_on hb (old_at K2.out _) (at_lt (old_at K2.out _)))
  replace K3 := hid (var_on hb (old_at K3.out _) (at_lt (old_at K3.out _)))
  replace hB := below_on (hB.alloc (by omega) _) hb
  clear hb
  have g1 := grown_cells K1.out
  have g2 := grown_cells K2.out
  have g3 := grown_cells K3.out
  have g4 := grown_cells K4.out
  go_wp2_with fail
  refine wp_region_quiet_below (by kernel_rfl) (by kernel_rfl) ?_
  repeat (first | go_big_quiet_skip | (go_big_quiet_want; go_big_quiet_op; first | go_big_quiet_on | go_big_quiet_call (first
    | (go_at_call 18; exact Calls.regrown_of (apply_at (t := kA) (d := kD) (hid k_apply) (by decide) _))
    | (go_at_call 20; exact Calls.regrown_of (isD_at (d := kD) (hid k_isD) (by decide) kD_size _))
    | (go_at_call 23; exact Calls.regrown_of (same_at (a := kD) (b := kD) (hid k_same) _))
    | (go_at_call 21; exact Calls.regrown_of (calls_val (fields_isField _ ⟨_, _⟩ (by decide)) (by first | rw [k_f1] | rw [k_f2]))))))
  refine wpQuiet_nil ?_
  intro _ hw'
  obtain ⟨⟨dq, osq⟩, hw''⟩ := hw'
  subst hw''
  go_wp2
  go_ret
  exact ⟨rfl, below_on hB (below_regrown _ _ _)⟩
end Go.Proofs.Ytaokhgbkghbpmaa
