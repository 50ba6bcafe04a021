/- WatchTurns holds for every client, every two sessions and every two rectangles (of those that no command may ask for it answers true by itself). -/
import Derived.Test.YthgnmpgdlemdlaaWaT
import Derived.ProofKit
import Derived.OpenShut
import Derived.ShutString
import Derived.ChangeOld
import Derived.Below
import Derived.SizedLaws
namespace Go.Proofs.Ythgnmpgdlemdlaa
open Go.ChangeShapes Go.WideShapes Go.ChangeAt Go.RowKit
open Go.ChangeMaps (open_string shut_string)
set_option linter.unusedVariables false

theorem turns_guard {a b c d : Int} {P : Program} {m : Int} (h : Hid (min (min (min a b) c) d = m)) (ts : Array TypeId) (t : TypeId) (w : World) : (Builtin.min_ ts t #[.int .i64 a, .int .i64 b, .int .i64 c, .int .i64 d]).run P w = .ok (.int .i64 m) w := by rw [run_min4, h.out]
theorem turns_guard' {a b c d : Int} {P : Program} {m : Int} (h : Hid (max (max (max a b) c) d = m)) (ts : Array TypeId) (t : TypeId) (w : World) : (Builtin.max_ ts t #[.int .i64 a, .int .i64 b, .int .i64 c, .int .i64 d]).run P w = .ok (.int .i64 m) w := by rw [run_max4, h.out]
set_option maxRecDepth 100000 in
set_option maxHeartbeats 8000000 in
theorem watchTurns_walk (w : World) (a0 : Int) (w0 : (Lit.int .u8 a0).wf = true) (a1 : Int) (w1 : (Lit.int .u8 a1).wf = true) (a2 : Int) (w2 : (Lit.int .u8 a2).wf = true) (a30 a31 a32 a33 : Int) (a40 a41 a42 a43 : Int) :
    Calls Try.prog 5 #[.int .u8 a0, .int .u8 a1, .int .u8 a2, rc a30 a31 a32 a33, rc a40 a41 a42 a43] w fun e w' => e = .returned (.bool true) ∧ Below w.heap.size w w' := by
  obtain ⟨b0, b0'⟩ := bounds_u8 w0
  obtain ⟨b1, b1'⟩ := bounds_u8 w1
  obtain ⟨b2, b2'⟩ := bounds_u8 w2
  obtain ⟨W, hW⟩ : ∃ W, (w.alloc (ro a30 a31 a32 a33)).alloc (ro a40 a41 a42 a43) = W := ⟨_, rfl⟩
  have hB : Below w.heap.size w W := by rw [← hW]; exact (below1 _ _).alloc (by simp) _
  have KR := hid (show W.heap[w.heap.size]? = some (ro a30 a31 a32 a33) by rw [← hW]; exact old_at (new_at _ _ _ rfl) _)
  have KQ := hid (show W.heap[w.heap.size + 1]? = some (ro a40 a41 a42 a43) by rw [← hW]; exact new_at _ _ _ (by simp))
  have C0 := known14 W
  clear w0 w1 w2
  go_enter Try.func5, Try.ntmps5
  go_upto_region 1 with fail
  try rw [hW]
  clear hW
  obtain ⟨rb, hrb⟩ : ∃ rb, Hid (w.heap.size = rb) := ⟨_, rfl⟩
  obtain ⟨qb, hqb⟩ : ∃ qb, Hid (w.heap.size + 1 = qb) := ⟨_, rfl⟩
  try rw [hqb.out]
  try rw [hrb.out]
  rw [hqb.out] at KQ
  rw [hrb.out] at KR
  go_wp2_with fail
  refine C0.mono ?_
  rintro z W0 ⟨rfl, hb0⟩
  have KR0 := hid (var_on hb0 KR.out (at_lt KR.out))
  have KQ0 := hid (var_on hb0 KQ.out (at_lt KQ.out))
  have hB0 := below_on hB hb0
  clear C0 KR KQ hB hb0
  have cr := (cells_at KR0.out).1
  have cq := (cells_at KQ0.out).1
  obtain ⟨p1, hp1⟩ : ∃ m, Hid (min (min (min a30 a31) a40) a41 = m) := ⟨_, rfl⟩
  obtain ⟨p2, hp2⟩ : ∃ m, Hid (max (max (max a30 a31) a40) a41 = m) := ⟨_, rfl⟩
  obtain ⟨p3, hp3⟩ : ∃ m, Hid (min (min (min a32 a33) a42) a43 = m) := ⟨_, rfl⟩
  obtain ⟨p4, hp4⟩ : ∃ m, Hid (max (max (max a32 a33) a42) a43 = m) := ⟨_, rfl⟩
  have g1 := turns_guard (P := Try.prog) hp1
  have g2 := turns_guard' (P := Try.prog) hp2
  have g3 := turns_guard (P := Try.prog) hp3
  have g4 := turns_guard' (P := Try.prog) hp4
  by_cases d1 : p1 < -1000
  · have d1' : decide (p1 < -1000) = true := by simpa using d1
    clear d1
    go_wp2_with fail
    go_ret
    exact ⟨rfl, hB0⟩
  have d1' : decide (p1 < -1000) = false := by simpa using d1
  by_cases d2 : 1000 < p2
  · have d2' : decide (1000 < p2) = true := by simpa using d2
    clear d1 d2
    go_wp2_with fail
    go_ret
    exact ⟨rfl, hB0⟩
  have d2' : decide (1000 < p2) = false := by simpa using d2
  by_cases d3 : p3 < -1000
  · have d3' : decide (p3 < -1000) = true := by simpa using d3
    clear d1 d2 d3
    go_wp2_with fail
    go_ret
    exact ⟨rfl, hB0⟩
  have d3' : decide (p3 < -1000) = false := by simpa using d3
  by_cases d4 : 1000 < p4
  · have d4' : decide (1000 < p4) = true := by simpa using d4
    clear d1 d2 d3 d4
    go_wp2_with fail
    go_ret
    exact ⟨rfl, hB0⟩
  have d4' : decide (1000 < p4) = false := by simpa using d4
  have hr : Hid (okR a30 a31 a32 a33) := by
    have h1 := hp1.out; have h2 := hp2.out; have h3 := hp3.out; have h4 := hp4.out
    refine ⟨⟨⟨?_, ?_⟩, ⟨?_, ?_⟩⟩, ⟨⟨?_, ?_⟩, ⟨?_, ?_⟩⟩⟩ <;> omega
  have hq : Hid (okR a40 a41 a42 a43) := by
    have h1 := hp1.out; have h2 := hp2.out; have h3 := hp3.out; have h4 := hp4.out
    refine ⟨⟨⟨?_, ?_⟩, ⟨?_, ?_⟩⟩, ⟨⟨?_, ?_⟩, ⟨?_, ?_⟩⟩⟩ <;> omega
  obtain ⟨K, hK⟩ : ∃ K, a0 % 4 = K := ⟨_, rfl⟩
  obtain ⟨A, hA⟩ : ∃ A, a1 + 1 = A := ⟨_, rfl⟩
  obtain ⟨B, hBB⟩ : ∃ B, A + a2 + 1 = B := ⟨_, rfl⟩
  have hK' : 0 ≤ K ∧ K < 4 := by omega
  have hA' : 1 ≤ A ∧ A ≤ 256 := by omega
  have hB' : A < B ∧ B ≤ 600 := by omega
  clear d1 d2 d3 d4 hp1 hp2 hp3 hp4
  go_upto_region 6 with fail
  clear g1 g2 g3 g4 d1' d2' d3' d4' cr cq hK hA hBB b0 b0' b1 b1' b2 b2'
  obtain ⟨k, rfl⟩ : ∃ k : Nat, K = (k : Int) := ⟨K.toNat, by omega⟩
  have hk4 : k < 4 := by omega
  obtain ⟨m0, m1, m2, m3, hm⟩ : ∃ m0 m1 m2 m3 : Int, Hid (meetR ⟨a30, a31, a32, a33⟩ ⟨0, 0, 64, 64⟩ = ⟨m0, m1, m2, m3⟩) := ⟨_, _, _, _, rfl⟩
  obtain ⟨n0, n1, n2, n3, hn⟩ : ∃ n0 n1 n2 n3 : Int, Hid (meetR ⟨a40, a41, a42, a43⟩ ⟨0, 0, 64, 64⟩ = ⟨n0, n1, n2, n3⟩) := ⟨_, _, _, _, rfl⟩
  have z4 : okR 0 0 0 0 := ⟨⟨⟨by decide, by decide⟩, ⟨by decide, by decide⟩⟩, ⟨⟨by decide, by decide⟩, ⟨by decide, by decide⟩⟩⟩
  have kb : 0 ≤ (k : Int) ∧ (k : Int) ≤ 3 := by omega
  have F1 := form_cmW (kd := 6) (.inl rfl) kb (se := A) (by omega) hr.out
  have F2 := form_cmW (kd := 7) (.inr (.inl rfl)) kb (se := A) (by omega) hq.out
  have F3 := form_cmW (kd := 6) (.inl rfl) kb (se := B) (by omega) hr.out
  have F4 := form_cmW (kd := 8) (.inr (.inr ⟨rfl, rfl, rfl, rfl, rfl⟩)) kb (se := A) (by omega) z4
  have F5 := form_cmW (kd := 8) (.inr (.inr ⟨rfl, rfl, rfl, rfl, rfl⟩)) kb (se := B) (by omega) z4
  obtain ⟨x1, y1⟩ := oneL_yes hk4 (o := noW) (p := ⟨true, A, 3, ⟨m0, m1, m2, m3⟩⟩) (c := cmW 6 k A a30 a31 a32 a33) (b := 3) rfl F1 (by unfold mayB; rw [if_pos rfl]; exact decide_eq_true (show (0 : Int) < A by omega)) (by rw [next_join rfl]; exact congrArg (fun r => (⟨true, A, 3, r⟩ : Wt)) hm.out)
  obtain ⟨x2, y2⟩ := oneL_yes hk4 (o := ⟨true, A, 3, ⟨m0, m1, m2, m3⟩⟩) (p := ⟨true, A, 3, ⟨n0, n1, n2, n3⟩⟩) (c := cmW 7 k A a40 a41 a42 a43) (b := 4) rfl F2 (by simp [mayB]) (by rw [next_turn rfl]; exact congrArg (fun r => (⟨true, A, 3, r⟩ : Wt)) hn.out)
  obtain ⟨x3, y3⟩ := oneL_yes hk4 (o := ⟨true, A, 3, ⟨n0, n1, n2, n3⟩⟩) (p := ⟨true, B, 9, ⟨m0, m1, m2, m3⟩⟩) (c := cmW 6 k B a30 a31 a32 a33) (b := 9) rfl F3 (by simp [mayB]; omega) (by rw [next_join rfl]; exact congrArg (fun r => (⟨true, B, 9, r⟩ : Wt)) hm.out)
  obtain ⟨x4, y4⟩ := oneL_no_may hk4 (o := ⟨true, B, 9, ⟨m0, m1, m2, m3⟩⟩) (c := cmW 7 k A a40 a41 a42 a43) (b := 10) rfl F2 (by simp [mayB]; omega)
  obtain ⟨x5, y5⟩ := oneL_no_may hk4 (o := ⟨true, B, 9, ⟨m0, m1, m2, m3⟩⟩) (c := cmW 8 k A 0 0 0 0) (b := 10) rfl F4 (by simp [mayB]; omega)
  obtain ⟨x6, y6⟩ := oneL_yes hk4 (o := ⟨true, B, 9, ⟨m0, m1, m2, m3⟩⟩) (p := ⟨false, B, 9, ⟨0, 0, 0, 0⟩⟩) (c := cmW 8 k B 0 0 0 0) (b := 11) rfl F5 (by simp [mayB]) (by rw [next_quit rfl])
  obtain ⟨x7, y7⟩ := oneL_no_may hk4 (o := ⟨false, B, 9, ⟨0, 0, 0, 0⟩⟩) (c := cmW 6 k B a30 a31 a32 a33) (b := 12) rfl F3 (by simp [mayB])
  rw [oneL_no hk4] at x1 y1
  have E1 := hid x1
  have Y1 := hid y1
  have E2 := hid x2
  have Y2 := hid y2
  have E3 := hid x3
  have Y3 := hid y3
  have E4 := hid x4
  have Y4 := hid y4
  have E5 := hid x5
  have Y5 := hid y5
  have E6 := hid x6
  have Y6 := hid y6
  have E7 := hid x7
  have Y7 := hid y7
  have V1 := hid (oneL_of hk4 ⟨true, A, 3, ⟨n0, n1, n2, n3⟩⟩)
  have V2 := hid (oneL_of hk4 ⟨true, B, 9, ⟨m0, m1, m2, m3⟩⟩)
  have V3 := hid (oneL_of hk4 ⟨false, B, 9, ⟨0, 0, 0, 0⟩⟩)
  clear x1 y1 x2 y2 x3 y3 x4 y4 x5 y5 x6 y6 x7 y7 F1 F2 F3 F4 F5 hr hq z4 kb hK' hA' hB'
  go_wp2_with fail
  refine (watch_new W0).mono ?_
  rintro z W1 ⟨rfl, hm1, hb1⟩
  obtain ⟨g, hg⟩ : ∃ g, W0.heap.size = g := ⟨_, rfl⟩
  have l1 : rb < g := by rw [← hg]; exact at_lt KR0.out
  have l2 : qb < g := by rw [← hg]; exact at_lt KQ0.out
  have l3 : w.heap.size ≤ g := by rw [← hg]; exact hB0.size
  rw [hg] at hm1
  try rw [hg]
  have M1 := hid hm1
  have R1 := hid (var_on hb1 KR0.out (at_lt KR0.out))
  have Q1 := hid (var_on hb1 KQ0.out (at_lt KQ0.out))
  have B1 := below_on hB0 hb1
  clear hm1 hb1 KR0 KQ0 hB0 hg
  have cr := (cells_at R1.out).1
  have cq := (cells_at Q1.out).1
  go_wp2_with fail
  with_reducible refine (do_at (c := cmW 6 k A a30 a31 a32 a33) (b := 3) M1.out (cmW_sz _ _ _ _ _ _ _) E1 Y1).mono ?_
  rintro z W2 ⟨rfl, hm2, hb2⟩
  have M2 := hid hm2
  have R2 := hid (hb2.at R1.out (by omega))
  have Q2 := hid (hb2.at Q1.out (by omega))
  have B2 := But.below B1 hb2 l3
  clear hm2 hb2 M1 R1 Q1 B1 cr cq
  have cr := (cells_at R2.out).1
  have cq := (cells_at Q2.out).1
  go_wp2_with fail
  with_reducible refine (do_at (c := cmW 7 k A a40 a41 a42 a43) (b := 4) M2.out (cmW_sz _ _ _ _ _ _ _) E2 Y2).mono ?_
  rintro z W3 ⟨rfl, hm3, hb3⟩
  have M3 := hid hm3
  have R3 := hid (hb3.at R2.out (by omega))
  have Q3 := hid (hb3.at Q2.out (by omega))
  have B3 := But.below B2 hb3 l3
  clear hm3 hb3 M2 R2 Q2 B2 cr cq
  go_wp2_with fail
  refine (watch_of_at M3.out V1).mono ?_
  rintro z W4 ⟨rfl, hb4⟩
  go_upto_region 10 with fail
  obtain ⟨X4, hX4⟩ : ∃ X, W4.alloc (wtO true A 3 n0 n1 n2 n3) = X := ⟨_, rfl⟩
  have hc4 : Below W3.heap.size W3 X4 := by rw [← hX4]; exact hb4.alloc hb4.size _
  have T4 := hid (show X4.heap[W4.heap.size]? = some (wtO true A 3 n0 n1 n2 n3) by rw [← hX4]; exact new_at _ _ _ rfl)
  have M4 := hid (M3.out.later hc4)
  have R4 := hid (var_on hc4 R3.out (at_lt R3.out))
  have Q4 := hid (var_on hc4 Q3.out (at_lt Q3.out))
  have B4 := below_on B3 hc4
  have v1 : g < W4.heap.size := Nat.lt_of_lt_of_le M3.out.lt hb4.size
  obtain ⟨s1, hs1⟩ : ∃ s, W4.heap.size = s := ⟨_, rfl⟩
  rw [hs1] at v1
  have S1_4 := hid (show X4.heap[s1]? = some (wtO true A 3 n0 n1 n2 n3) by rw [← hs1]; exact T4.out)
  try rw [hX4]
  try rw [hs1]
  clear hX4 hs1 hb4 hc4 T4 M3 R3 Q3 B3
  have cr := (cells_at R4.out).1
  have cq := (cells_at Q4.out).1
  go_wp2_with fail
  with_reducible refine (do_at (c := cmW 6 k B a30 a31 a32 a33) (b := 9) M4.out (cmW_sz _ _ _ _ _ _ _) E3 Y3).mono ?_
  rintro z W5 ⟨rfl, hm5, hb5⟩
  have M5 := hid hm5
  have R5 := hid (hb5.at R4.out (by omega))
  have Q5 := hid (hb5.at Q4.out (by omega))
  have S1_5 := hid (hb5.at S1_4.out (by omega))
  have B5 := But.below B4 hb5 l3
  clear hm5 hb5 M4 R4 Q4 B4 cr cq S1_4
  have cr := (cells_at R5.out).1
  have cq := (cells_at Q5.out).1
  go_wp2_with fail
  with_reducible refine (do_at (c := cmW 7 k A a40 a41 a42 a43) (b := 10) M5.out (cmW_sz _ _ _ _ _ _ _) E4 Y4).mono ?_
  rintro z W6 ⟨rfl, hm6, hb6⟩
  have M6 := hid hm6
  have R6 := hid (hb6.at R5.out (by omega))
  have Q6 := hid (hb6.at Q5.out (by omega))
  have S1_6 := hid (hb6.at S1_5.out (by omega))
  have B6 := But.below B5 hb6 l3
  clear hm6 hb6 M5 R5 Q5 B5 cr cq S1_5
  have cr := (cells_at R6.out).1
  have cq := (cells_at Q6.out).1
  go_wp2_with fail
  with_reducible refine (do_at (c := cmW 8 k A 0 0 0 0) (b := 10) M6.out (cmW_sz _ _ _ _ _ _ _) E5 Y5).mono ?_
  rintro z W7 ⟨rfl, hm7, hb7⟩
  have M7 := hid hm7
  have R7 := hid (hb7.at R6.out (by omega))
  have Q7 := hid (hb7.at Q6.out (by omega))
  have S1_7 := hid (hb7.at S1_6.out (by omega))
  have B7 := But.below B6 hb7 l3
  clear hm7 hb7 M6 R6 Q6 B6 cr cq S1_6
  go_wp2_with fail
  refine (watch_of_at M7.out V2).mono ?_
  rintro z W8 ⟨rfl, hb8⟩
  go_upto_region 14 with fail
  obtain ⟨X8, hX8⟩ : ∃ X, W8.alloc (wtO true B 9 m0 m1 m2 m3) = X := ⟨_, rfl⟩
  have hc8 : Below W7.heap.size W7 X8 := by rw [← hX8]; exact hb8.alloc hb8.size _
  have T8 := hid (show X8.heap[W8.heap.size]? = some (wtO true B 9 m0 m1 m2 m3) by rw [← hX8]; exact new_at _ _ _ rfl)
  have M8 := hid (M7.out.later hc8)
  have R8 := hid (var_on hc8 R7.out (at_lt R7.out))
  have Q8 := hid (var_on hc8 Q7.out (at_lt Q7.out))
  have S1_8 := hid (var_on hc8 S1_7.out (at_lt S1_7.out))
  have B8 := below_on B7 hc8
  have v2 : g < W8.heap.size := Nat.lt_of_lt_of_le M7.out.lt hb8.size
  obtain ⟨s2, hs2⟩ : ∃ s, W8.heap.size = s := ⟨_, rfl⟩
  rw [hs2] at v2
  have S2_8 := hid (show X8.heap[s2]? = some (wtO true B 9 m0 m1 m2 m3) by rw [← hs2]; exact T8.out)
  try rw [hX8]
  try rw [hs2]
  clear hX8 hs2 hb8 hc8 T8 M7 R7 Q7 B7 S1_7
  have cr := (cells_at R8.out).1
  have cq := (cells_at Q8.out).1
  go_wp2_with fail
  with_reducible refine (do_at (c := cmW 8 k B 0 0 0 0) (b := 11) M8.out (cmW_sz _ _ _ _ _ _ _) E6 Y6).mono ?_
  rintro z W9 ⟨rfl, hm9, hb9⟩
  have M9 := hid hm9
  have R9 := hid (hb9.at R8.out (by omega))
  have Q9 := hid (hb9.at Q8.out (by omega))
  have S1_9 := hid (hb9.at S1_8.out (by omega))
  have S2_9 := hid (hb9.at S2_8.out (by omega))
  have B9 := But.below B8 hb9 l3
  clear hm9 hb9 M8 R8 Q8 B8 cr cq S1_8 S2_8
  have cr := (cells_at R9.out).1
  have cq := (cells_at Q9.out).1
  go_wp2_with fail
  with_reducible refine (do_at (c := cmW 6 k B a30 a31 a32 a33) (b := 12) M9.out (cmW_sz _ _ _ _ _ _ _) E7 Y7).mono ?_
  rintro z W10 ⟨rfl, hm10, hb10⟩
  have M10 := hid hm10
  have R10 := hid (hb10.at R9.out (by omega))
  have Q10 := hid (hb10.at Q9.out (by omega))
  have S1_10 := hid (hb10.at S1_9.out (by omega))
  have S2_10 := hid (hb10.at S2_9.out (by omega))
  have B10 := But.below B9 hb10 l3
  clear hm10 hb10 M9 R9 Q9 B9 cr cq S1_9 S2_9
  go_wp2_with fail
  refine (watch_of_at M10.out V3).mono ?_
  rintro z W11 ⟨rfl, hb11⟩
  go_upto_region 17 with fail
  obtain ⟨X11, hX11⟩ : ∃ X, W11.alloc (wtO false B 9 0 0 0 0) = X := ⟨_, rfl⟩
  have hc11 : Below W10.heap.size W10 X11 := by rw [← hX11]; exact hb11.alloc hb11.size _
  have T11 := hid (show X11.heap[W11.heap.size]? = some (wtO false B 9 0 0 0 0) by rw [← hX11]; exact new_at _ _ _ rfl)
  have M11 := hid (M10.out.later hc11)
  have R11 := hid (var_on hc11 R10.out (at_lt R10.out))
  have Q11 := hid (var_on hc11 Q10.out (at_lt Q10.out))
  have S1_11 := hid (var_on hc11 S1_10.out (at_lt S1_10.out))
  have S2_11 := hid (var_on hc11 S2_10.out (at_lt S2_10.out))
  have B11 := below_on B10 hc11
  have v3 : g < W11.heap.size := Nat.lt_of_lt_of_le M10.out.lt hb11.size
  obtain ⟨s3, hs3⟩ : ∃ s, W11.heap.size = s := ⟨_, rfl⟩
  rw [hs3] at v3
  have S3_11 := hid (show X11.heap[s3]? = some (wtO false B 9 0 0 0 0) by rw [← hs3]; exact T11.out)
  try rw [hX11]
  try rw [hs3]
  clear hX11 hs3 hb11 hc11 T11 M10 R10 Q10 B10 S1_10 S2_10
  have q1 := equal_wt_at (a := ⟨true, A, 3, ⟨n0, n1, n2, n3⟩⟩) (b := ⟨true, A, 3, ⟨n0, n1, n2, n3⟩⟩) (q := true) (eqW_self _)
  have q2 := equal_wt_at (a := ⟨true, B, 9, ⟨m0, m1, m2, m3⟩⟩) (b := ⟨true, B, 9, ⟨m0, m1, m2, m3⟩⟩) (q := true) (eqW_self _)
  have q3 := equal_wt_at (a := ⟨false, B, 9, ⟨0, 0, 0, 0⟩⟩) (b := ⟨false, B, 9, ⟨0, 0, 0, 0⟩⟩) (q := true) (eqW_self _)
  have g1 := grown_cells S1_11.out
  have g2 := grown_cells S2_11.out
  have g3 := grown_cells S3_11.out
  have gr := grown_cells R11.out
  have gq := grown_cells Q11.out
  have D1 := fun W => watch_clip_at hm W
  have D2 := fun W => watch_clip_at hn W
  refine wp_region_quiet_below (by kernel_rfl) (by kernel_rfl) ?_
  repeat (first | go_big_quiet_skip | (go_big_quiet_want; go_big_quiet_op; first | go_big_quiet_on | go_big_quiet_call (first | with_reducible exact Calls.regrown_of (D1 _) | with_reducible exact Calls.regrown_of (D2 _))))
  refine wpQuiet_nil ?_
  intro W4 hw'
  obtain ⟨⟨dq, osq⟩, hw''⟩ := hw'
  have hb4 : Below X11.heap.size X11 W4 := by rw [hw'']; exact below_regrown _ _ _
  clear hw'' g1 g2 g3 gr gq D1 D2
  go_wp2_with fail
  go_ret
  exact ⟨rfl, below_on B11 hb4⟩

theorem watchTurns_own : ownKnob Try.prog.godebug = none := by kernel_rfl
theorem watchTurns_laidOut : laidOutB Try.prog = true := by kernel_rfl
set_option maxRecDepth 100000 in
theorem watchTurns_lifted (os : Os) (started : os.Started) (H : Type) (enc : TypeId × Value → H) :
    ReturnsInHanded {} Try.checked os 5 .any (Rows.watchTurnsSpec.pre6 enc Try.prog Try.f5 Rows.watchTurnsRow.domain false) (Rows.watchTurnsSpec.post enc Try.prog Try.f5 false true false false) := by
  refine returnsInHanded_of_change (C := Try.checked) watchTurns_own started (by kernel_rfl) Try.func5
    (ChangeSpec.witness6 (enc := enc) (C := Try.checked) false ⟨#[], #[.int .u8 0, .int .u8 0, .int .u8 0, .agg #[.int .i64 0, .int .i64 0, .int .i64 0, .int .i64 0], .agg #[.int .i64 0, .int .i64 0, .int .i64 0, .int .i64 0]], []⟩ 8 (by kernel_rfl) (by kernel_rfl) (by kernel_rfl) (by kernel_rfl)) ?_
  intro W base args ds gs before hval0 hW hcnd _
  have hval : ∀ (j : Nat) t v, Try.f5.params[j]? = some t → args[j]? = some v → Value.okWide Try.prog W .any base t v := hval0
  have hW' := hW
  obtain ⟨p, q, hA0, hV, rfl, hfz, hnd⟩ := hW
  have hA : DataW.TrodAll enc Try.prog W 0 (fun _ => true) true Try.f5.params.toList args.toList ds p := hA0
  rw [Try.params5] at hA hval
  obtain ⟨v0, vs0, d0, ds0, p0, q0, hargs, rfl, rfl, h0, r0⟩ := trodAll_cons hA
  obtain ⟨v1, vs1, d1, ds1, p1, q1, rfl, rfl, rfl, h1, r1⟩ := trodAll_cons r0
  obtain ⟨v2, vs2, d2, ds2, p2, q2, rfl, rfl, rfl, h2, r2⟩ := trodAll_cons r1
  obtain ⟨v3, vs3, d3, ds3, p3, q3, rfl, rfl, rfl, h3, r3⟩ := trodAll_cons r2
  obtain ⟨v4, vs4, d4, ds4, p4, q4, rfl, rfl, rfl, h4, r4⟩ := trodAll_cons r3
  obtain ⟨rfl, rfl, rfl⟩ := trodAll_nil r4
  obtain rfl : args = #[v0, v1, v2, v3, v4] := by cases args; simp_all
  obtain ⟨rfl, rfl⟩ := trodVars_none hV
  have k0 := h0
  have lt0 : ∀ x ∈ p0, x.block < W.heap.size := by obtain ⟨m, hm⟩ := k0; exact DataW.trod_lt m _ _ _ hm
  have k1 := h1
  have lt1 : ∀ x ∈ p1, x.block < W.heap.size := by obtain ⟨m, hm⟩ := k1; exact DataW.trod_lt m _ _ _ hm
  have k2 := h2
  have lt2 : ∀ x ∈ p2, x.block < W.heap.size := by obtain ⟨m, hm⟩ := k2; exact DataW.trod_lt m _ _ _ hm
  have k3 := h3
  have lt3 : ∀ x ∈ p3, x.block < W.heap.size := by obtain ⟨m, hm⟩ := k3; exact DataW.trod_lt m _ _ _ hm
  have k4 := h4
  have lt4 : ∀ x ∈ p4, x.block < W.heap.size := by obtain ⟨m, hm⟩ := k4; exact DataW.trod_lt m _ _ _ hm
  obtain ⟨a0, rfl, rfl, rfl, w0⟩ := open_int Try.underlying5 (hval 0 5 v0 rfl rfl) h0
  obtain ⟨a1, rfl, rfl, rfl, w1⟩ := open_int Try.underlying5 (hval 1 5 v1 rfl rfl) h1
  obtain ⟨a2, rfl, rfl, rfl, w2⟩ := open_int Try.underlying5 (hval 2 5 v2 rfl rfl) h2
  obtain ⟨c30, c31, c32, c33, y30, y31, y32, y33, n3, rfl, rfl, rfl, t30, t31, t32, t33⟩ := Go.Joins.open_agg4 Try.underlying26 (by kernel_rfl) (by kernel_rfl) (hval 3 26 v3 rfl rfl) h3
  obtain ⟨a30, e30, -, w30⟩ := DataW.trod_int Try.underlying3 t30
  obtain rfl : c30 = .int .i64 a30 := by simpa using e30
  obtain ⟨a31, e31, -, w31⟩ := DataW.trod_int Try.underlying3 t31
  obtain rfl : c31 = .int .i64 a31 := by simpa using e31
  obtain ⟨a32, e32, -, w32⟩ := DataW.trod_int Try.underlying3 t32
  obtain rfl : c32 = .int .i64 a32 := by simpa using e32
  obtain ⟨a33, e33, -, w33⟩ := DataW.trod_int Try.underlying3 t33
  obtain rfl : c33 = .int .i64 a33 := by simpa using e33
  obtain ⟨c40, c41, c42, c43, y40, y41, y42, y43, n4, rfl, rfl, rfl, t40, t41, t42, t43⟩ := Go.Joins.open_agg4 Try.underlying26 (by kernel_rfl) (by kernel_rfl) (hval 4 26 v4 rfl rfl) h4
  obtain ⟨a40, e40, -, w40⟩ := DataW.trod_int Try.underlying3 t40
  obtain rfl : c40 = .int .i64 a40 := by simpa using e40
  obtain ⟨a41, e41, -, w41⟩ := DataW.trod_int Try.underlying3 t41
  obtain rfl : c41 = .int .i64 a41 := by simpa using e41
  obtain ⟨a42, e42, -, w42⟩ := DataW.trod_int Try.underlying3 t42
  obtain rfl : c42 = .int .i64 a42 := by simpa using e42
  obtain ⟨a43, e43, -, w43⟩ := DataW.trod_int Try.underlying3 t43
  obtain rfl : c43 = .int .i64 a43 := by simpa using e43
  clear hA0 hval0
  refine (watchTurns_walk W a0 w0 a1 w1 a2 w2 a30 a31 a32 a33 a40 a41 a42 a43).mono fun e W' ⟨he, bel⟩ => ?_
  subst he
  exact ⟨_, rfl, _, _, _, [], _, [], hW', trodAll_mk1 (shut_bool Try.underlying4 _), (trodAll_cons_mk (Below.trod watchTurns_laidOut (by kernel_rfl) (of_decide_eq_true (by kernel_rfl)) k0 bel lt0) (trodAll_cons_mk (Below.trod watchTurns_laidOut (by kernel_rfl) (of_decide_eq_true (by kernel_rfl)) k1 bel lt1) (trodAll_cons_mk (Below.trod watchTurns_laidOut (by kernel_rfl) (of_decide_eq_true (by kernel_rfl)) k2 bel lt2) (trodAll_cons_mk (Below.trod watchTurns_laidOut (by kernel_rfl) (of_decide_eq_true (by kernel_rfl)) k3 bel lt3) (trodAll_cons_mk (Below.trod watchTurns_laidOut (by kernel_rfl) (of_decide_eq_true (by kernel_rfl)) k4 bel lt4) trodAll_mk0))))), rfl, bel.frame _, fun h => by cases h⟩

theorem watchTurns_over : Rows.watchTurnsRow.holds Try.pinned (OpenSpec.ofChange Rows.watchTurnsSpec) :=
  OpenClaim.holds_of_wide 5 Try.f5 rfl rfl rfl rfl rfl rfl rfl ⟨rfl, rfl, rfl, rfl, rfl⟩ rfl rfl rfl rfl rfl (by kernel_rfl) Try.func5 (by kernel_rfl)
    (of_decide_eq_true (by kernel_rfl)) (by unfold Func.isWrapper; first | (rw [if_pos (by decide +kernel)]; kernel_rfl) | (rw [if_neg (by decide +kernel)]; exact ⟨rfl, rfl⟩))
    (fun os started H enc _ => watchTurns_lifted os started H enc)

theorem watchTurns_holds : Rows.WatchTurnsSaid := watchTurns_over
#print axioms watchTurns_holds
end Go.Proofs.Ythgnmpgdlemdlaa
