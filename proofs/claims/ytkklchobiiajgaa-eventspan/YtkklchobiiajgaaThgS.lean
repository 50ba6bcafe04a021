/- Contracts of Read of the package thing and of the reference's ReadThing: the thing at the beginning of bytes, how many they are, or what is wrong. -/
import Derived.Test.YtkklchobiiajgaaThgC
import Derived.Test.YtkklchobiiajgaaFldG
namespace Go.Proofs.Ytkklchobiiajgaa
open Go.RowKit
set_option linter.unusedVariables false
theorem read_at {s : ByteArray} {d : Dl} {n e : Nat} (h : Hid (read s.data.toList = (d, n, e))) (hs : s.size ≤ 1000000) (w : World) : Calls Try.prog 67 #[.string s] w fun x w' => x = .returned (.tuple #[d.v, .int .i64 n, .int .i64 e]) ∧ Below w.heap.size w w' := by
  have := fields_read w s hs
  rw [h.out] at this
  exact this
theorem refread_at {s : ByteArray} {d : Dl} {n e : Nat} (h : Hid (read s.data.toList = (d, n, e))) (hs : s.size ≤ 1000000) (w : World) : Calls Try.prog 69 #[.string s] w fun x w' => x = .returned (.tuple #[d.v, .int .i64 n, .int .i64 e]) ∧ Below w.heap.size w w' := by
  have := ref_read w s hs
  rw [h.out] at this
  exact this
theorem whole_at {t : Th} {E : Dl} (h : Hid (wholeD t = E)) (w : World) : Calls Try.prog 70 #[t.v] w fun e w' => e = .returned E.v ∧ Below w.heap.size w w' := by
  rw [← h.out]; exact thing_whole w t
theorem fin3t {T : Th} {z e : Nat} {r : Th × Nat × Nat} (h : r = (T, z, e)) : Ending.returned (.tuple #[T.v, .int .i64 z, .int .i64 e]) = .returned (.tuple #[r.1.v, .int .i64 r.2.1, .int .i64 r.2.2]) := by rw [h]
set_option maxHeartbeats 2000000 in
theorem thing_read {s : ByteArray} {t : Th} {n e : Nat} (h : Hid (readT s.data.toList = (t, n, e))) (hs : s.size ≤ 1000000) (w : World) :
    Calls Try.prog 66 #[.string s] w fun x w' => x = .returned (.tuple #[t.v, .int .i64 n, .int .i64 e]) ∧ Below w.heap.size w w' := by
  rcases hR : read s.data.toList with ⟨D, k, x⟩
  have HR := hid hR
  clear hR
  have K0 : Hid ((w.alloc zT.o).heap[w.heap.size]? = some zT.o) := new_at _ _ _ rfl
  by_cases hx : x = 0
  · subst hx
    obtain ⟨E, hE⟩ : ∃ E, Hid (wholeD (toT D) = E) := ⟨_, rfl⟩
    obtain ⟨q, hq⟩ : ∃ q, Hid (eqD D E = q) := ⟨_, rfl⟩
    have hqm : Hid ((D.m == 31) = q) := by show (D.m == 31) = q; rw [← whole_eq, hE.out]; exact hq.out
    have hQ := equal_dl_at hq.out
    obtain ⟨T, hT⟩ : ∃ T, Hid (toT D = T) := ⟨_, rfl⟩
    have hE' : Hid (wholeD T = E) := by show wholeD T = E; rw [← hT.out]; exact hE.out
    go_enter Try.func66, Try.ntmps66
    obtain ⟨Q, hQ0⟩ : ∃ Q, bodyPost Try.prog Try.f66 (fun y w' => y = .returned (.tuple #[t.v, .int .i64 n, .int .i64 e]) ∧ Below w.heap.size w w') = Q := ⟨_, rfl⟩
    rw [hQ0]
    have HQ := hid hQ0
    clear hQ0
    go_wp2_with fail
    refine (read_at HR hs _).mono ?_
    rintro y w1 ⟨rfl, hb1⟩
    have K1 := hid (var_on hb1 K0.out (at_lt K0.out))
    have hB := below_on (below1 w zT.o) hb1
    have l1 := at_lt K1.out
    clear hb1 K0
    go_wp2_with fail
    have hB2 : Hid (Below w.heap.size w ((w1.alloc D.o).alloc (toT D).o)) := (hB.alloc (by omega) _).alloc (by simp; omega) _
    have J0 : Hid (((w1.alloc D.o).alloc (toT D).o).heap[w.heap.size]? = some zT.o) := old_at (old_at K1.out _) _
    have J1 : Hid (((w1.alloc D.o).alloc (toT D).o).heap[w1.heap.size]? = some D.o) := old_at (new_at _ _ _ rfl) _
    have J2 : Hid (((w1.alloc D.o).alloc (toT D).o).heap[w1.heap.size + 1]? = some (toT D).o) := new_at _ _ _ (by simp)
    obtain ⟨W2, hW2⟩ : ∃ W2, (w1.alloc D.o).alloc (toT D).o = W2 := ⟨_, rfl⟩
    rw [hW2] at hB2 J0 J1 J2
    unfold Dl.o Th.o toT at hW2
    simp only at hW2
    rw [hW2]
    rw [hT.out] at J2
    clear hW2 hB K1 l1
    have g1 := grown_cells J1.out
    have g2 := grown_cells J2.out
    have hfin : ∀ d os, Hid (Below w.heap.size w (Sort.grow (redrawn W2 d) os)) := fun d os => below_on hB2.out (below_regrown W2 d os)
    have M0 : ∀ d os, Hid ((Sort.grow (redrawn W2 d) os).heap[w.heap.size]? = some zT.o) := fun d os => var_on (below_regrown W2 d os) J0.out (at_lt J0.out)
    have M2 : ∀ d os, Hid ((Sort.grow (redrawn W2 d) os).heap[w1.heap.size + 1]? = some T.o) := fun d os => var_on (below_regrown W2 d os) J2.out (at_lt J2.out)
    refine wp_region_quiet_below (by kernel_rfl) (by kernel_rfl) ?_
    repeat (first | go_big_quiet_skip | (go_big_quiet_want; go_big_quiet_op; first | go_big_quiet_on | go_big_quiet_call (exact Calls.regrown_of (whole_at hE' _))))
    refine wpQuiet_nil ?_
    intro _ hw'
    obtain ⟨⟨dq, osq⟩, hw''⟩ := hw'
    subst hw''
    have hB := (hfin dq osq).out
    have N0 := M0 dq osq
    have N2 := M2 dq osq
    obtain ⟨W8, hW8⟩ : ∃ W8, Sort.grow (redrawn W2 dq) osq = W8 := ⟨_, rfl⟩
    rw [hW8] at hB N0 N2 ⊢
    clear hW8 g1 g2 hfin M0 M2 J0 J1 J2 hB2
    have c0 := cells_at N0.out
    have c2 := cells_at N2.out
    have l0 := at_lt N0.out
    have e1 := h.out
    clear h
    cases q
    · rw [readT_form HR.out (by simpa using hqm.out)] at e1
      simp only [Prod.mk.injEq] at e1
      obtain ⟨rfl, rfl, rfl⟩ := e1
      go_wp2_with fail
      have hq0 := HQ.out
      subst hq0
      exact bodyPost_ret (v := .tuple #[zT.v, .int .i64 0, .int .i64 11]) (by simp [results, Try.results66, go_sem, c0, zT, zF]) rfl ⟨rfl, below_set11 hB (by omega) _ _ _ _ _ _ _ _ _ _ _⟩
    · rw [readT_ok HR.out (by simpa using hqm.out)] at e1
      simp only [Prod.mk.injEq] at e1
      obtain ⟨e2, rfl, rfl⟩ := e1
      have eT : T = t := by rw [← hT.out]; exact e2
      subst eT
      clear e2
      go_wp2_with fail
      have hq0 := HQ.out
      subst hq0
      exact bodyPost_ret (v := .tuple #[T.v, .int .i64 k, .int .i64 0]) (by simp [results, Try.results66, go_sem, c0]) rfl ⟨rfl, below_set11 hB (by omega) _ _ _ _ _ _ _ _ _ _ _⟩
  · have q1 : ((x : Int) != 0) = true := by simpa using hx
    have e1 := h.out
    clear h
    rw [readT_err HR.out hx] at e1
    simp only [Prod.mk.injEq] at e1
    obtain ⟨rfl, rfl, rfl⟩ := e1
    clear hx
    go_enter Try.func66, Try.ntmps66
    obtain ⟨Q, hQ0⟩ : ∃ Q, bodyPost Try.prog Try.f66 (fun y w' => y = .returned (.tuple #[zT.v, .int .i64 ((0 : Nat) : Int), .int .i64 x]) ∧ Below w.heap.size w w') = Q := ⟨_, rfl⟩
    rw [hQ0]
    have HQ := hid hQ0
    clear hQ0
    go_wp2_with fail
    refine (read_at HR hs _).mono ?_
    rintro y w1 ⟨rfl, hb1⟩
    have K1 := hid (var_on hb1 K0.out (at_lt K0.out))
    have hB := below_on (below1 w zT.o) hb1
    have l1 := at_lt K1.out
    have c0 := cells_at K1.out
    clear hb1 K0
    go_wp2_with fail
    have hq0 := HQ.out
    subst hq0
    exact bodyPost_ret (v := .tuple #[zT.v, .int .i64 0, .int .i64 x]) (by simp [results, Try.results66, go_sem, c0, zT, zF, l1]) rfl ⟨rfl, (below_set11 hB (by omega) _ _ _ _ _ _ _ _ _ _ _).alloc (by simp; omega) _⟩
set_option maxHeartbeats 2000000 in
theorem ref_readThing {s : ByteArray} {t : Th} {n e : Nat} (h : Hid (readT s.data.toList = (t, n, e))) (hs : s.size ≤ 1000000) (w : World) :
    Calls Try.prog 68 #[.string s] w fun x w' => x = .returned (.tuple #[t.v, .int .i64 n, .int .i64 e]) ∧ Below w.heap.size w w' := by
  rcases hR : read s.data.toList with ⟨D, k, x⟩
  have HR := hid hR
  clear hR
  have K0 : Hid ((w.alloc zT.o).heap[w.heap.size]? = some zT.o) := new_at _ _ _ rfl
  have e1 := h.out
  clear h
  by_cases hx : x = 0
  · subst hx
    by_cases hm : D.m = 31
    · have q1 : ((D.m : Int) != 31) = false := by simp; omega
      rw [readT_ok HR.out hm] at e1
      simp only [Prod.mk.injEq] at e1
      obtain ⟨rfl, rfl, rfl⟩ := e1
      clear hm
      go_enter Try.func68, Try.ntmps68
      obtain ⟨Q, hQ0⟩ : ∃ Q, bodyPost Try.prog Try.f68 (fun y w' => y = .returned (.tuple #[(toT D).v, .int .i64 k, .int .i64 ((0 : Nat) : Int)]) ∧ Below w.heap.size w w') = Q := ⟨_, rfl⟩
      rw [hQ0]
      have HQ := hid hQ0
      clear hQ0
      go_wp2_with fail
      refine (refread_at HR hs _).mono ?_
      rintro y w1 ⟨rfl, hb1⟩
      have K1 := hid (var_on hb1 K0.out (at_lt K0.out))
      have hB := below_on (below1 w zT.o) hb1
      have l1 := at_lt K1.out
      have c0 := cells_at K1.out
      clear hb1 K0
      go_wp2_with fail
      have hq0 := HQ.out
      subst hq0
      exact bodyPost_ret (v := .tuple #[(toT D).v, .int .i64 k, .int .i64 0]) (by simp [results, Try.results68, go_sem, c0, toT, l1]) rfl ⟨rfl, (below_set11 hB (by omega) _ _ _ _ _ _ _ _ _ _ _).alloc (by simp; omega) _⟩
    · have q1 : ((D.m : Int) != 31) = true := by simp; omega
      rw [readT_form HR.out hm] at e1
      simp only [Prod.mk.injEq] at e1
      obtain ⟨rfl, rfl, rfl⟩ := e1
      clear hm
      go_enter Try.func68, Try.ntmps68
      obtain ⟨Q, hQ0⟩ : ∃ Q, bodyPost Try.prog Try.f68 (fun y w' => y = .returned (.tuple #[zT.v, .int .i64 ((0 : Nat) : Int), .int .i64 ((11 : Nat) : Int)]) ∧ Below w.heap.size w w') = Q := ⟨_, rfl⟩
      rw [hQ0]
      have HQ := hid hQ0
      clear hQ0
      go_wp2_with fail
      refine (refread_at HR hs _).mono ?_
      rintro y w1 ⟨rfl, hb1⟩
      have K1 := hid (var_on hb1 K0.out (at_lt K0.out))
      have hB := below_on (below1 w zT.o) hb1
      have l1 := at_lt K1.out
      have c0 := cells_at K1.out
      clear hb1 K0
      go_wp2_with fail
      have hq0 := HQ.out
      subst hq0
      exact bodyPost_ret (v := .tuple #[zT.v, .int .i64 0, .int .i64 11]) (by simp [results, Try.results68, go_sem, c0, zT, zF, l1]) rfl ⟨rfl, (below_set11 hB (by omega) _ _ _ _ _ _ _ _ _ _ _).alloc (by simp; omega) _⟩
  · have q1 : ((x : Int) != 0) = true := by simpa using hx
    rw [readT_err HR.out hx] at e1
    simp only [Prod.mk.injEq] at e1
    obtain ⟨rfl, rfl, rfl⟩ := e1
    clear hx
    go_enter Try.func68, Try.ntmps68
    obtain ⟨Q, hQ0⟩ : ∃ Q, bodyPost Try.prog Try.f68 (fun y w' => y = .returned (.tuple #[zT.v, .int .i64 ((0 : Nat) : Int), .int .i64 x]) ∧ Below w.heap.size w w') = Q := ⟨_, rfl⟩
    rw [hQ0]
    have HQ := hid hQ0
    clear hQ0
    go_wp2_with fail
    refine (refread_at HR hs _).mono ?_
    rintro y w1 ⟨rfl, hb1⟩
    have K1 := hid (var_on hb1 K0.out (at_lt K0.out))
    have hB := below_on (below1 w zT.o) hb1
    have l1 := at_lt K1.out
    have c0 := cells_at K1.out
    clear hb1 K0
    go_wp2_with fail
    have hq0 := HQ.out
    subst hq0
    exact bodyPost_ret (v := .tuple #[zT.v, .int .i64 0, .int .i64 x]) (by simp [results, Try.results68, go_sem, c0, zT, zF, l1]) rfl ⟨rfl, (below_set11 hB (by omega) _ _ _ _ _ _ _ _ _ _ _).alloc (by simp; omega) _⟩
end Go.Proofs.Ytkklchobiiajgaa
