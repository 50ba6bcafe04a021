/- FieldsTell where d isn't a delta and a and b don't differ. -/
import Derived.Test.YtaokhgbkghbpmaaTellH
namespace Go.Proofs.Ytaokhgbkghbpmaa
open Go.RowKit
set_option linter.unusedVariables false
set_option maxRecDepth 100000 in
set_option maxHeartbeats 8000000 in
theorem fieldsTell_walk00 (w : World) (a0 : Th) (w0 : inT a0) (a1 : Th) (w1 : inT a1) (a2 : Dl) (w2 : inD a2) (a3 : Fl) (w3 : inF a3) (hv0 : isD a2 = false) (hok0 : (diff a0 a1).2 = false) : Calls Try.prog 3 #[a0.v, a1.v, a2.v, a3.v] w fun e w' => e = .returned (.bool true) ∧ Below w.heap.size w w' := by
  have V0 := hid hv0
  have O0 := hid hok0
  clear hv0 hok0
  have W0 := hid w0
  have W1 := hid w1
  have W2 := hid w2
  have im := w2.1
  have sF := w3.1
  clear w0 w1 w2 w3
  have K0 : Hid (((((w.alloc a0.o).alloc a1.o).alloc a2.o).alloc a3.o).heap[w.heap.size]? = some a0.o) := hid (old_at (old_at (old_at (new_at _ _ _ rfl) _) _) _)
  have K1 : Hid (((((w.alloc a0.o).alloc a1.o).alloc a2.o).alloc a3.o).heap[w.heap.size + 1]? = some a1.o) := hid (old_at (old_at (new_at _ _ _ (by simp)) _) _)
  have K2 : Hid (((((w.alloc a0.o).alloc a1.o).alloc a2.o).alloc a3.o).heap[w.heap.size + 1 + 1]? = some a2.o) := hid (old_at (new_at _ _ _ (by simp)) _)
  have K3 : Hid (((((w.alloc a0.o).alloc a1.o).alloc a2.o).alloc a3.o).heap[w.heap.size + 1 + 1 + 1]? = some a3.o) := hid (new_at _ _ _ (by simp))
  obtain ⟨f0, h0⟩ : ∃ f, Hid (few4 a0.f = f) := ⟨_, rfl⟩
  obtain ⟨f1, h1⟩ : ∃ f, Hid (few4 a1.f = f) := ⟨_, rfl⟩
  obtain ⟨f2, h2⟩ : ∃ f, Hid (few4 a2.f = f) := ⟨_, rfl⟩
  obtain ⟨f3, h3⟩ : ∃ f, Hid (fewF a3 = f) := ⟨_, rfl⟩
  go_enter Try.func3, Try.ntmps3
  go_wp2_with fail
  refine (known_holds _).mono ?_
  rintro x w3 ⟨rfl, hb⟩
  have hB := below_on ((Go.Joins.below_alloc3 w a0.o a1.o a2.o).alloc (by simp; omega) a3.o) hb
  replace K0 := hid (var_on hb K0.out (at_lt K0.out))
  replace K1 := hid (var_on hb K1.out (at_lt K1.out))
  replace K2 := hid (var_on hb K2.out (at_lt K2.out))
  replace K3 := hid (var_on hb K3.out (at_lt K3.out))
  clear hb
  have c0 := cells_at K0.out
  have c1 := cells_at K1.out
  have c2 := cells_at K2.out
  have c3 := cells_at K3.out
  have l0 := at_lt K0.out
  have l1 := at_lt K1.out
  have l2 := at_lt K2.out
  have l3 := at_lt K3.out
  go_wp2_with fail
  refine (few_thing_at h0.out _ W0.out).mono ?_
  rintro x w4 ⟨rfl, hb⟩
  replace hB := below_on hB hb
  replace K0 := hid (var_on hb K0.out (at_lt K0.out))
  replace K1 := hid (var_on hb K1.out (at_lt K1.out))
  replace K2 := hid (var_on hb K2.out (at_lt K2.out))
  replace K3 := hid (var_on hb K3.out (at_lt K3.out))
  clear hb c0 c1 c2 c3
  have c0 := cells_at K0.out
  have c1 := cells_at K1.out
  have c2 := cells_at K2.out
  have c3 := cells_at K3.out
  replace l0 := at_lt K0.out
  replace l1 := at_lt K1.out
  replace l2 := at_lt K2.out
  replace l3 := at_lt K3.out
  cases f0
  · go_wp2_with fail
    go_ret
    exact ⟨rfl, hB⟩
  go_wp2_with fail
  refine (few_thing_at h1.out _ W1.out).mono ?_
  rintro x w4 ⟨rfl, hb⟩
  replace hB := below_on hB hb
  replace K0 := hid (var_on hb K0.out (at_lt K0.out))
  replace K1 := hid (var_on hb K1.out (at_lt K1.out))
  replace K2 := hid (var_on hb K2.out (at_lt K2.out))
  replace K3 := hid (var_on hb K3.out (at_lt K3.out))
  clear hb c0 c1 c2 c3
  have c0 := cells_at K0.out
  have c1 := cells_at K1.out
  have c2 := cells_at K2.out
  have c3 := cells_at K3.out
  replace l0 := at_lt K0.out
  replace l1 := at_lt K1.out
  replace l2 := at_lt K2.out
  replace l3 := at_lt K3.out
  cases f1
  · go_wp2_with fail
    go_ret
    exact ⟨rfl, hB⟩
  go_wp2_with fail
  refine (few_delta_at h2.out _ W2.out).mono ?_
  rintro x w4 ⟨rfl, hb⟩
  replace hB := below_on hB hb
  replace K0 := hid (var_on hb K0.out (at_lt K0.out))
  replace K1 := hid (var_on hb K1.out (at_lt K1.out))
  replace K2 := hid (var_on hb K2.out (at_lt K2.out))
  replace K3 := hid (var_on hb K3.out (at_lt K3.out))
  clear hb c0 c1 c2 c3
  have c0 := cells_at K0.out
  have c1 := cells_at K1.out
  have c2 := cells_at K2.out
  have c3 := cells_at K3.out
  replace l0 := at_lt K0.out
  replace l1 := at_lt K1.out
  replace l2 := at_lt K2.out
  replace l3 := at_lt K3.out
  cases f2
  · go_wp2_with fail
    go_ret
    exact ⟨rfl, hB⟩
  go_wp2_with fail
  refine (fewF_at h3.out _ sF).mono ?_
  rintro x w4 ⟨rfl, hb⟩
  replace hB := below_on hB hb
  replace K0 := hid (var_on hb K0.out (at_lt K0.out))
  replace K1 := hid (var_on hb K1.out (at_lt K1.out))
  replace K2 := hid (var_on hb K2.out (at_lt K2.out))
  replace K3 := hid (var_on hb K3.out (at_lt K3.out))
  clear hb c0 c1 c2 c3
  have c0 := cells_at K0.out
  have c1 := cells_at K1.out
  have c2 := cells_at K2.out
  have c3 := cells_at K3.out
  replace l0 := at_lt K0.out
  replace l1 := at_lt K1.out
  replace l2 := at_lt K2.out
  replace l3 := at_lt K3.out
  cases f3
  · go_wp2_with fail
    go_ret
    exact ⟨rfl, hB⟩
  have hfit := hid (few_fit h2.out W2.out)
  have hsz : Hid (∀ k, (a2.f k).s.size ≤ maxLen) := hid (fun k => by have := (hfit.out k).1; unfold maxLen; omega)
  rcases e1 : diff a0 a1 with ⟨x, ok⟩
  obtain rfl : ok = false := by have := O0.out; rw [e1] at this; exact this
  have E1 := hid e1
  have mx := diff_m e1
  clear e1
  obtain ⟨y, hy⟩ : ∃ y, Hid (dK a0 a1 4 = y) := ⟨_, rfl⟩
  have hok : Hid (decide (¬ y.m = 0) = false) := hid (by
    have e := E1.out
    unfold diff at e
    rw [hy.out] at e
    by_cases h : y.m = 0
    · simp [h]
    · rw [if_neg h] at e; simp at e)
  obtain ⟨A, hA⟩ : ∃ A, Hid (apply a0 a2 = A) := ⟨_, rfl⟩
  have qA := equal_th_at (a := A) (b := A) (eqT_self A)
  obtain ⟨q, hq⟩ : ∃ q, Hid (eqD a2 x = q) := ⟨_, rfl⟩
  have qX := equal_dl_at hq.out
  have hv : Hid (isD a2 = false) := V0
  obtain ⟨u, hu⟩ : ∃ u, Hid (isF a3 = u) := ⟨_, rfl⟩
  obtain ⟨S, hS⟩ : ∃ S, Hid ((⟨(bytesK a2 4).toArray⟩ : ByteArray) = S) := ⟨_, rfl⟩
  go_wp2_with fail
  refine (diff_at E1 _).mono ?_
  rintro z w5 ⟨rfl, hb⟩
  replace hB := below_on hB hb
  replace K0 := hid (var_on hb K0.out (at_lt K0.out))
  replace K1 := hid (var_on hb K1.out (at_lt K1.out))
  replace K2 := hid (var_on hb K2.out (at_lt K2.out))
  replace K3 := hid (var_on hb K3.out (at_lt K3.out))
  clear hb c0 c1 c2 c3
  have c0 := cells_at K0.out
  have c1 := cells_at K1.out
  have c2 := cells_at K2.out
  have c3 := cells_at K3.out
  replace l0 := at_lt K0.out
  replace l1 := at_lt K1.out
  replace l2 := at_lt K2.out
  replace l3 := at_lt K3.out
  go_wp2_with fail
  refine (refdiff_at hy hok _).mono ?_
  rintro z w6 ⟨rfl, hb⟩
  have K4 := hid (var_on (o := x.o) (g := w5.heap.size) hb (new_at _ _ _ rfl) (by simp))
  replace hB := below_on (hB.alloc hB.size _) hb
  replace K0 := hid (var_on hb (old_at K0.out _) (at_lt (old_at K0.out _)))
  replace K1 := hid (var_on hb (old_at K1.out _) (at_lt (old_at K1.out _)))
  replace K2 := hid (var_on hb (old_at K2.out _) (at_lt (old_at K2.out _)))
  replace K3 := hid (var_on hb (old_at K3.out _) (at_lt (old_at K3.out _)))
  clear hb c0 c1 c2 c3
  have c0 := cells_at K0.out
  have c1 := cells_at K1.out
  have c2 := cells_at K2.out
  have c3 := cells_at K3.out
  replace l0 := at_lt K0.out
  replace l1 := at_lt K1.out
  replace l2 := at_lt K2.out
  replace l3 := at_lt K3.out
  have c4 := cells_at K4.out
  have l4 := at_lt K4.out
  go_wp2_with fail
  refine (fields_bytes_no _ a2 hv.out im hsz.out).mono ?_
  rintro z w7 ⟨rfl, hb⟩
  have K5 := hid (var_on (o := y.o) (g := w6.heap.size) hb (new_at _ _ _ rfl) (by simp))
  replace hB := below_on (hB.alloc hB.size _) hb
  replace K0 := hid (var_on hb (old_at K0.out _) (at_lt (old_at K0.out _)))
  replace K1 := hid (var_on hb (old_at K1.out _) (at_lt (old_at K1.out _)))
  replace K2 := hid (var_on hb (old_at K2.out _) (at_lt (old_at K2.out _)))
  replace K3 := hid (var_on hb (old_at K3.out _) (at_lt (old_at K3.out _)))
  replace K4 := hid (var_on hb (old_at K4.out _) (at_lt (old_at K4.out _)))
  clear hb c0 c1 c2 c3 c4
  have c0 := cells_at K0.out
  have c1 := cells_at K1.out
  have c2 := cells_at K2.out
  have c3 := cells_at K3.out
  have c4 := cells_at K4.out
  replace l0 := at_lt K0.out
  replace l1 := at_lt K1.out
  replace l2 := at_lt K2.out
  replace l3 := at_lt K3.out
  replace l4 := at_lt K4.out
  have c5 := cells_at K5.out
  have l5 := at_lt K5.out
  go_wp2_with fail
  refine (refIsD_at hv.out _ im hsz.out).mono ?_
  rintro z w8 ⟨rfl, hb⟩
  replace hB := below_on hB hb
  replace K0 := hid (var_on hb K0.out (at_lt K0.out))
  replace K1 := hid (var_on hb K1.out (at_lt K1.out))
  replace K2 := hid (var_on hb K2.out (at_lt K2.out))
  replace K3 := hid (var_on hb K3.out (at_lt K3.out))
  replace K4 := hid (var_on hb K4.out (at_lt K4.out))
  replace K5 := hid (var_on hb K5.out (at_lt K5.out))
  clear hb c0 c1 c2 c3 c4 c5
  have c0 := cells_at K0.out
  have c1 := cells_at K1.out
  have c2 := cells_at K2.out
  have c3 := cells_at K3.out
  have c4 := cells_at K4.out
  have c5 := cells_at K5.out
  replace l0 := at_lt K0.out
  replace l1 := at_lt K1.out
  replace l2 := at_lt K2.out
  replace l3 := at_lt K3.out
  replace l4 := at_lt K4.out
  replace l5 := at_lt K5.out
  clear c0 c1 c3 c4 c5
  go_upto_if 54 with fail
  go_cut [15] from 16 (fun s wx => s = .string ⟨#[]⟩ ∧ wx.heap[w.heap.size]? = some a0.o ∧ wx.heap[w.heap.size + 1]? = some a1.o ∧ wx.heap[w.heap.size + 1 + 1]? = some a2.o ∧ wx.heap[w.heap.size + 1 + 1 + 1]? = some a3.o ∧ wx.heap[w5.heap.size]? = some x.o ∧ wx.heap[w6.heap.size]? = some y.o ∧ Below w.heap.size w wx)
  case first =>
    · skip
      go_wp2_with fail
      go_meet
      exact ⟨rfl, K0.out, K1.out, K2.out, K3.out, K4.out, K5.out, hB⟩
  case rest =>
    clear hB K0 K1 K2 K3 K4 K5 l0 l1 l2 l3 c2
    obtain ⟨rfl, k0, k1, k2, k3, k4, k5, hB⟩ := hcut
    have g0 := grown_cells k0
    have g2 := grown_cells k2
    have g3 := grown_cells k3
    have g4 := grown_cells k4
    have g5 := grown_cells k5
    clear k0 k1 k2 k3 k4 k5 l4 l5
    go_wp2_with fail
    refine wp_region_quiet_below (by kernel_rfl) (by kernel_rfl) ?_
    try dsimp only [List.append]
    · skip
      · skip
        repeat (first | go_big_quiet_skip | (go_big_quiet_want; go_big_quiet_op; first | go_big_quiet_on | go_big_quiet_call (first
          | (go_at_call 18; exact Calls.regrown_of (apply_at hA im _))
          | (go_at_call 19; exact Calls.regrown_of (refapply_at hA im _))
          | (go_at_call 20; exact Calls.regrown_of (isD_at hv im hsz.out _))
          | (go_at_call 16; exact Calls.regrown_of (refIsD_at hv.out _ im hsz.out))
          | (go_at_call 21; exact Calls.regrown_of (isF_at hu.out _ sF))
          | (go_at_call 22; exact Calls.regrown_of (refF_at hu.out _ sF))
          | (go_at_call 23; exact Calls.regrown_of (same_at hq _)))))
        refine wpQuiet_nil ?_
        intro _ hw'
        obtain ⟨⟨dq, osq⟩, hw''⟩ := hw'
        subst hw''
        go_wp2_with fail
        go_ret
        exact ⟨by simp, below_on hB (below_regrown _ _ _)⟩
end Go.Proofs.Ytaokhgbkghbpmaa
