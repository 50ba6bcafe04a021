/- Contract of the reference's Is. -/
import Derived.Test.YtfcofhlcainanaaCmT
import Derived.Deep.Cut
namespace Go.Proofs.Ytfcofhlcainanaa
open Go.RowKit
set_option linter.unusedVariables false
def isX0 (c : Cm) : Bool := inI c.kd 1 8 && (inI c.cl 0 3 && (inI c.se 0 1000000 && (eqC c (shapeC c) && (ptI c.x c.y && (rcI c.r0 c.r1 c.r2 c.r3 && (inI c.id 0 1000000 && (inI c.wh (-1) 100 && (inI c.tt (-1) 100 && isF c.va))))))))
def isXk (c : Cm) : Nat → Bool
  | 0 => isX0 c
  | k + 1 => isXk c k && isF (nth4 c k)
def isX (c : Cm) : Bool := isXk c 4
theorem within_b {n lo hi : Int} {q : Bool} (h : Hid (inI n lo hi = q)) (w : World) : Calls Try.prog 19 #[.int .i64 n, .int .i64 lo, .int .i64 hi] w fun e w' => e = .returned (.bool q) ∧ Below w.heap.size w w' :=
  (within_at h w).mono fun _ _ ⟨he, hw⟩ => ⟨he, by rw [hw]; exact Below.refl _ _⟩
theorem refF_at {f : Fl} {q : Bool} (h : Hid (isF f = q)) (hs : f.s.size ≤ maxLen) (w : World) : Calls Try.prog 23 #[f.v] w fun e w' => e = .returned (.bool q) ∧ Below w.heap.size w w' := by
  rw [← h.out]; exact ref_isField w f hs
set_option maxRecDepth 100000 in
set_option maxHeartbeats 8000000 in
theorem ref_is (w : World) (c : Cm) (hs : sizedC c) : Calls Try.prog 12 #[c.v] w fun e w' => e = .returned (.bool (isX c)) ∧ Below w.heap.size w w' := by
  obtain ⟨W, hW⟩ : ∃ W, W = w.alloc c.o := ⟨_, rfl⟩
  have hE : Below w.heap.size w W := by rw [hW]; exact below1 _ _
  have K1 := hid (show W.heap[w.heap.size]? = some c.o by rw [hW]; exact new_at _ _ _ rfl)
  obtain ⟨B0, hB0⟩ : ∃ B, Hid (isX0 c = B) := ⟨_, rfl⟩
  have s0 : c.f0.s.size ≤ maxLen := hs 6
  have s1 : c.f1.s.size ≤ maxLen := hs 8
  have s2 : c.f2.s.size ≤ maxLen := hs 10
  have s3 : c.f3.s.size ≤ maxLen := hs 12
  have s4 : c.va.s.size ≤ maxLen := hs 14
  obtain ⟨R, hR⟩ : ∃ R, Hid (isX c = R) := ⟨_, rfl⟩
  rw [hR.out]
  go_enter Try.func12, Try.ntmps12
  go_upto_region 1 with fail
  rw [← hW]
  clear hW
  go_cut [3] from 5 to 54 (fun s3 wx => s3 = .bool B0 ∧ wx.heap[w.heap.size]? = some c.o ∧ Below w.heap.size w wx)
  case first =>
    obtain ⟨S, hS⟩ : ∃ S, Hid (shapeC c = S) := ⟨_, rfl⟩
    have CS := fun w => ref_shape w c
    rw [hS.out] at CS
    obtain ⟨x0, h0⟩ : ∃ x, Hid (inI c.kd 1 8 = x) := ⟨_, rfl⟩
    obtain ⟨x1, h1⟩ : ∃ x, Hid (inI c.cl 0 3 = x) := ⟨_, rfl⟩
    obtain ⟨x2, h2⟩ : ∃ x, Hid (inI c.se 0 1000000 = x) := ⟨_, rfl⟩
    obtain ⟨x3, h3⟩ : ∃ x, Hid (eqC c S = x) := ⟨_, rfl⟩
    obtain ⟨x4, h4⟩ : ∃ x, Hid (ptI c.x c.y = x) := ⟨_, rfl⟩
    obtain ⟨x5, h5⟩ : ∃ x, Hid (rcI c.r0 c.r1 c.r2 c.r3 = x) := ⟨_, rfl⟩
    obtain ⟨x6, h6⟩ : ∃ x, Hid (inI c.id 0 1000000 = x) := ⟨_, rfl⟩
    obtain ⟨x7, h7⟩ : ∃ x, Hid (inI c.wh (-1) 100 = x) := ⟨_, rfl⟩
    obtain ⟨x8, h8⟩ : ∃ x, Hid (inI c.tt (-1) 100 = x) := ⟨_, rfl⟩
    obtain ⟨x9, h9⟩ : ∃ x, Hid (isF c.va = x) := ⟨_, rfl⟩
    have hB : isX0 c = (x0 && (x1 && (x2 && (x3 && (x4 && (x5 && (x6 && (x7 && (x8 && x9))))))))) := by
      unfold isX0
      rw [hS.out, h0.out, h1.out, h2.out, h3.out, h4.out, h5.out, h6.out, h7.out, h8.out, h9.out]
    have HB := hid (hB0.out.symm.trans hB)
    clear hB
    have hQ := equal_cm_at h3.out
    have D0 := fun w => within_b h0 w
    have D1 := fun w => within_b h1 w
    have D2 := fun w => within_b h2 w
    have D4 := fun w => point_at h4 w
    have D5 := fun w => rect_at h5 w
    have D6 := fun w => within_b h6 w
    have D7 := fun w => within_b h7 w
    have D8 := fun w => within_b h8 w
    have D9 := fun w => refF_at h9 s4 w
    have g1 := grown_cells K1.out
    have hG : ∀ W', (∃ p : Regrown, W' = Sort.grow (redrawn W p.d) p.os) → W'.heap[w.heap.size]? = some c.o := fun W' ⟨p, e⟩ => by rw [e]; exact var_on (below_regrown W p.d p.os) K1.out (at_lt K1.out)
    refine wp_region_quiet_below (by kernel_rfl) (by kernel_rfl) ?_
    repeat (first | go_big_quiet_skip | ((with_reducible refine quiet_load_cm ?_ (.tmp 1) rfl rfl hG ?_); (· rfl); simp only [Act.put, List.setIfInBounds_toArray, List.set_cons_zero, List.set_cons_succ]) | (go_big_quiet_want; go_big_quiet_op; first | go_big_quiet_on | go_big_quiet_call (first | with_reducible exact Calls.regrown_of (D0 _) | with_reducible exact Calls.regrown_of (D1 _) | with_reducible exact Calls.regrown_of (D2 _) | with_reducible exact Calls.regrown_of (CS _) | with_reducible exact Calls.regrown_of (D4 _) | with_reducible exact Calls.regrown_of (D5 _) | with_reducible exact Calls.regrown_of (D6 _) | with_reducible exact Calls.regrown_of (D7 _) | with_reducible exact Calls.regrown_of (D8 _) | with_reducible exact Calls.regrown_of (D9 _))))
    cases x0
    · repeat (first | go_big_quiet_skip | (go_big_quiet_want; go_big_quiet_op; go_big_quiet_on))
      refine wpQuiet_nil ?_
      intro _ hw'
      obtain ⟨⟨dq, osq⟩, hw''⟩ := hw'
      subst hw''
      go_wp2_with fail
      go_meet
      case rel => exact ⟨by rw [HB.out]; rfl, var_on (below_regrown W dq osq) K1.out (at_lt K1.out), below_on hE (below_regrown _ _ _)⟩
    repeat (first | go_big_quiet_skip | ((with_reducible refine quiet_load_cm ?_ (.tmp 1) rfl rfl hG ?_); (· rfl); simp only [Act.put, List.setIfInBounds_toArray, List.set_cons_zero, List.set_cons_succ]) | (go_big_quiet_want; go_big_quiet_op; first | go_big_quiet_on | go_big_quiet_call (first | with_reducible exact Calls.regrown_of (D0 _) | with_reducible exact Calls.regrown_of (D1 _) | with_reducible exact Calls.regrown_of (D2 _) | with_reducible exact Calls.regrown_of (CS _) | with_reducible exact Calls.regrown_of (D4 _) | with_reducible exact Calls.regrown_of (D5 _) | with_reducible exact Calls.regrown_of (D6 _) | with_reducible exact Calls.regrown_of (D7 _) | with_reducible exact Calls.regrown_of (D8 _) | with_reducible exact Calls.regrown_of (D9 _))))
    cases x1
    · repeat (first | go_big_quiet_skip | (go_big_quiet_want; go_big_quiet_op; go_big_quiet_on))
      refine wpQuiet_nil ?_
      intro _ hw'
      obtain ⟨⟨dq, osq⟩, hw''⟩ := hw'
      subst hw''
      go_wp2_with fail
      go_meet
      case rel => exact ⟨by rw [HB.out]; rfl, var_on (below_regrown W dq osq) K1.out (at_lt K1.out), below_on hE (below_regrown _ _ _)⟩
    repeat (first | go_big_quiet_skip | ((with_reducible refine quiet_load_cm ?_ (.tmp 1) rfl rfl hG ?_); (· rfl); simp only [Act.put, List.setIfInBounds_toArray, List.set_cons_zero, List.set_cons_succ]) | (go_big_quiet_want; go_big_quiet_op; first | go_big_quiet_on | go_big_quiet_call (first | with_reducible exact Calls.regrown_of (D0 _) | with_reducible exact Calls.regrown_of (D1 _) | with_reducible exact Calls.regrown_of (D2 _) | with_reducible exact Calls.regrown_of (CS _) | with_reducible exact Calls.regrown_of (D4 _) | with_reducible exact Calls.regrown_of (D5 _) | with_reducible exact Calls.regrown_of (D6 _) | with_reducible exact Calls.regrown_of (D7 _) | with_reducible exact Calls.regrown_of (D8 _) | with_reducible exact Calls.regrown_of (D9 _))))
    cases x2
    · repeat (first | go_big_quiet_skip | (go_big_quiet_want; go_big_quiet_op; go_big_quiet_on))
      refine wpQuiet_nil ?_
      intro _ hw'
      obtain ⟨⟨dq, osq⟩, hw''⟩ := hw'
      subst hw''
      go_wp2_with fail
      go_meet
      case rel => exact ⟨by rw [HB.out]; rfl, var_on (below_regrown W dq osq) K1.out (at_lt K1.out), below_on hE (below_regrown _ _ _)⟩
    repeat (first | go_big_quiet_skip | ((with_reducible refine quiet_load_cm ?_ (.tmp 1) rfl rfl hG ?_); (· rfl); simp only [Act.put, List.setIfInBounds_toArray, List.set_cons_zero, List.set_cons_succ]) | (go_big_quiet_want; go_big_quiet_op; first | go_big_quiet_on | go_big_quiet_call (first | with_reducible exact Calls.regrown_of (D0 _) | with_reducible exact Calls.regrown_of (D1 _) | with_reducible exact Calls.regrown_of (D2 _) | with_reducible exact Calls.regrown_of (CS _) | with_reducible exact Calls.regrown_of (D4 _) | with_reducible exact Calls.regrown_of (D5 _) | with_reducible exact Calls.regrown_of (D6 _) | with_reducible exact Calls.regrown_of (D7 _) | with_reducible exact Calls.regrown_of (D8 _) | with_reducible exact Calls.regrown_of (D9 _))))
    cases x3
    · repeat (first | go_big_quiet_skip | (go_big_quiet_want; go_big_quiet_op; go_big_quiet_on))
      refine wpQuiet_nil ?_
      intro _ hw'
      obtain ⟨⟨dq, osq⟩, hw''⟩ := hw'
      subst hw''
      go_wp2_with fail
      go_meet
      case rel => exact ⟨by rw [HB.out]; rfl, var_on (below_regrown W dq osq) K1.out (at_lt K1.out), below_on hE (below_regrown _ _ _)⟩
    repeat (first | go_big_quiet_skip | ((with_reducible refine quiet_load_cm ?_ (.tmp 1) rfl rfl hG ?_); (· rfl); simp only [Act.put, List.setIfInBounds_toArray, List.set_cons_zero, List.set_cons_succ]) | (go_big_quiet_want; go_big_quiet_op; first | go_big_quiet_on | go_big_quiet_call (first | with_reducible exact Calls.regrown_of (D0 _) | with_reducible exact Calls.regrown_of (D1 _) | with_reducible exact Calls.regrown_of (D2 _) | with_reducible exact Calls.regrown_of (CS _) | with_reducible exact Calls.regrown_of (D4 _) | with_reducible exact Calls.regrown_of (D5 _) | with_reducible exact Calls.regrown_of (D6 _) | with_reducible exact Calls.regrown_of (D7 _) | with_reducible exact Calls.regrown_of (D8 _) | with_reducible exact Calls.regrown_of (D9 _))))
    cases x4
    · repeat (first | go_big_quiet_skip | (go_big_quiet_want; go_big_quiet_op; go_big_quiet_on))
      refine wpQuiet_nil ?_
      intro _ hw'
      obtain ⟨⟨dq, osq⟩, hw''⟩ := hw'
      subst hw''
      go_wp2_with fail
      go_meet
      case rel => exact ⟨by rw [HB.out]; rfl, var_on (below_regrown W dq osq) K1.out (at_lt K1.out), below_on hE (below_regrown _ _ _)⟩
    repeat (first | go_big_quiet_skip | ((with_reducible refine quiet_load_cm ?_ (.tmp 1) rfl rfl hG ?_); (· rfl); simp only [Act.put, List.setIfInBounds_toArray, List.set_cons_zero, List.set_cons_succ]) | (go_big_quiet_want; go_big_quiet_op; first | go_big_quiet_on | go_big_quiet_call (first | with_reducible exact Calls.regrown_of (D0 _) | with_reducible exact Calls.regrown_of (D1 _) | with_reducible exact Calls.regrown_of (D2 _) | with_reducible exact Calls.regrown_of (CS _) | with_reducible exact Calls.regrown_of (D4 _) | with_reducible exact Calls.regrown_of (D5 _) | with_reducible exact Calls.regrown_of (D6 _) | with_reducible exact Calls.regrown_of (D7 _) | with_reducible exact Calls.regrown_of (D8 _) | with_reducible exact Calls.regrown_of (D9 _))))
    cases x5
    · repeat (first | go_big_quiet_skip | (go_big_quiet_want; go_big_quiet_op; go_big_quiet_on))
      refine wpQuiet_nil ?_
      intro _ hw'
      obtain ⟨⟨dq, osq⟩, hw''⟩ := hw'
      subst hw''
      go_wp2_with fail
      go_meet
      case rel => exact ⟨by rw [HB.out]; rfl, var_on (below_regrown W dq osq) K1.out (at_lt K1.out), below_on hE (below_regrown _ _ _)⟩
    repeat (first | go_big_quiet_skip | ((with_reducible refine quiet_load_cm ?_ (.tmp 1) rfl rfl hG ?_); (· rfl); simp only [Act.put, List.setIfInBounds_toArray, List.set_cons_zero, List.set_cons_succ]) | (go_big_quiet_want; go_big_quiet_op; first | go_big_quiet_on | go_big_quiet_call (first | with_reducible exact Calls.regrown_of (D0 _) | with_reducible exact Calls.regrown_of (D1 _) | with_reducible exact Calls.regrown_of (D2 _) | with_reducible exact Calls.regrown_of (CS _) | with_reducible exact Calls.regrown_of (D4 _) | with_reducible exact Calls.regrown_of (D5 _) | with_reducible exact Calls.regrown_of (D6 _) | with_reducible exact Calls.regrown_of (D7 _) | with_reducible exact Calls.regrown_of (D8 _) | with_reducible exact Calls.regrown_of (D9 _))))
    cases x6
    · repeat (first | go_big_quiet_skip | (go_big_quiet_want; go_big_quiet_op; go_big_quiet_on))
      refine wpQuiet_nil ?_
      intro _ hw'
      obtain ⟨⟨dq, osq⟩, hw''⟩ := hw'
      subst hw''
      go_wp2_with fail
      go_meet
      case rel => exact ⟨by rw [HB.out]; rfl, var_on (below_regrown W dq osq) K1.out (at_lt K1.out), below_on hE (below_regrown _ _ _)⟩
    repeat (first | go_big_quiet_skip | ((with_reducible refine quiet_load_cm ?_ (.tmp 1) rfl rfl hG ?_); (· rfl); simp only [Act.put, List.setIfInBounds_toArray, List.set_cons_zero, List.set_cons_succ]) | (go_big_quiet_want; go_big_quiet_op; first | go_big_quiet_on | go_big_quiet_call (first | with_reducible exact Calls.regrown_of (D0 _) | with_reducible exact Calls.regrown_of (D1 _) | with_reducible exact Calls.regrown_of (D2 _) | with_reducible exact Calls.regrown_of (CS _) | with_reducible exact Calls.regrown_of (D4 _) | with_reducible exact Calls.regrown_of (D5 _) | with_reducible exact Calls.regrown_of (D6 _) | with_reducible exact Calls.regrown_of (D7 _) | with_reducible exact Calls.regrown_of (D8 _) | with_reducible exact Calls.regrown_of (D9 _))))
    cases x7
    · repeat (first | go_big_quiet_skip | (go_big_quiet_want; go_big_quiet_op; go_big_quiet_on))
      refine wpQuiet_nil ?_
      intro _ hw'
      obtain ⟨⟨dq, osq⟩, hw''⟩ := hw'
      subst hw''
      go_wp2_with fail
      go_meet
      case rel => exact ⟨by rw [HB.out]; rfl, var_on (below_regrown W dq osq) K1.out (at_lt K1.out), below_on hE (below_regrown _ _ _)⟩
    repeat (first | go_big_quiet_skip | ((with_reducible refine quiet_load_cm ?_ (.tmp 1) rfl rfl hG ?_); (· rfl); simp only [Act.put, List.setIfInBounds_toArray, List.set_cons_zero, List.set_cons_succ]) | (go_big_quiet_want; go_big_quiet_op; first | go_big_quiet_on | go_big_quiet_call (first | with_reducible exact Calls.regrown_of (D0 _) | with_reducible exact Calls.regrown_of (D1 _) | with_reducible exact Calls.regrown_of (D2 _) | with_reducible exact Calls.regrown_of (CS _) | with_reducible exact Calls.regrown_of (D4 _) | with_reducible exact Calls.regrown_of (D5 _) | with_reducible exact Calls.regrown_of (D6 _) | with_reducible exact Calls.regrown_of (D7 _) | with_reducible exact Calls.regrown_of (D8 _) | with_reducible exact Calls.regrown_of (D9 _))))
    cases x8
    · repeat (first | go_big_quiet_skip | (go_big_quiet_want; go_big_quiet_op; go_big_quiet_on))
      refine wpQuiet_nil ?_
      intro _ hw'
      obtain ⟨⟨dq, osq⟩, hw''⟩ := hw'
      subst hw''
      go_wp2_with fail
      go_meet
      case rel => exact ⟨by rw [HB.out]; rfl, var_on (below_regrown W dq osq) K1.out (at_lt K1.out), below_on hE (below_regrown _ _ _)⟩
    repeat (first | go_big_quiet_skip | ((with_reducible refine quiet_load_cm ?_ (.tmp 1) rfl rfl hG ?_); (· rfl); simp only [Act.put, List.setIfInBounds_toArray, List.set_cons_zero, List.set_cons_succ]) | (go_big_quiet_want; go_big_quiet_op; first | go_big_quiet_on | go_big_quiet_call (first | with_reducible exact Calls.regrown_of (D0 _) | with_reducible exact Calls.regrown_of (D1 _) | with_reducible exact Calls.regrown_of (D2 _) | with_reducible exact Calls.regrown_of (CS _) | with_reducible exact Calls.regrown_of (D4 _) | with_reducible exact Calls.regrown_of (D5 _) | with_reducible exact Calls.regrown_of (D6 _) | with_reducible exact Calls.regrown_of (D7 _) | with_reducible exact Calls.regrown_of (D8 _) | with_reducible exact Calls.regrown_of (D9 _))))
    refine wpQuiet_nil ?_
    intro _ hw'
    obtain ⟨⟨dq, osq⟩, hw''⟩ := hw'
    subst hw''
    go_wp2_with fail
    go_meet
    case rel => exact ⟨by rw [HB.out]; rfl, var_on (below_regrown W dq osq) K1.out (at_lt K1.out), below_on hE (below_regrown _ _ _)⟩
  case rest =>
    obtain ⟨rfl, hd0, hb0⟩ := hcut
    have H0 := hid hd0
    clear hd0 K1 hE
    go_wp2_with fail
    go_loopw [3, 4] (fun s3 i wr => ∃ (k : Nat) (b : Bool), k ≤ 4 ∧ i = .int .i64 k ∧ s3 = .bool b ∧ isXk c k = b ∧ wr.heap[w.heap.size]? = some c.o ∧ Below w.heap.size w wr) (fun _ i _ => 4 - (intOf i).toNat)
    case atStart => exact ⟨0, B0, by omega, rfl, rfl, hB0.out, H0.out, hb0⟩
    case round =>
      obtain ⟨k, b, hk, rfl, rfl, hx, hd, hb⟩ := hrel
      have HD := hid hd
      have HX := hid hx
      have lD := at_lt hd
      clear hd hx H0 hb0
      obtain rfl | rfl | rfl | rfl | rfl : k = 0 ∨ k = 1 ∨ k = 2 ∨ k = 3 ∨ k = 4 := by omega
      · cases b
        · go_wp2_with fail
          first | go_roundw | refine ⟨?rel, ?measure⟩
          case rel => exact ⟨1, false, by omega, rfl, rfl, by rw [isXk, HX.out]; rfl, HD.out, hb⟩
          case measure => simp [intOf]
        · obtain ⟨p, hp⟩ : ∃ p, Hid (isF c.f0 = p) := ⟨_, rfl⟩
          have cs := cells_at HD.out
          go_wp2_with fail
          refine (refF_at hp s0 _).mono ?_
          rintro x w2 ⟨rfl, hb2⟩
          have hd2 := hid (var_on hb2 HD.out lD)
          have hB2 := below_on hb hb2
          clear hb2 hb HD lD cs
          go_wp2_with fail
          first | go_roundw | refine ⟨?rel, ?measure⟩
          case rel => exact ⟨1, p, by omega, rfl, by cases p <;> rfl, by rw [isXk, HX.out, show isF (nth4 c 0) = p from hp.out, Bool.true_and], hd2.out, hB2⟩
          case measure => simp [intOf]
      · cases b
        · go_wp2_with fail
          first | go_roundw | refine ⟨?rel, ?measure⟩
          case rel => exact ⟨2, false, by omega, rfl, rfl, by rw [isXk, HX.out]; rfl, HD.out, hb⟩
          case measure => simp [intOf]
        · obtain ⟨p, hp⟩ : ∃ p, Hid (isF c.f1 = p) := ⟨_, rfl⟩
          have cs := cells_at HD.out
          go_wp2_with fail
          refine (refF_at hp s1 _).mono ?_
          rintro x w2 ⟨rfl, hb2⟩
          have hd2 := hid (var_on hb2 HD.out lD)
          have hB2 := below_on hb hb2
          clear hb2 hb HD lD cs
          go_wp2_with fail
          first | go_roundw | refine ⟨?rel, ?measure⟩
          case rel => exact ⟨2, p, by omega, rfl, by cases p <;> rfl, by rw [isXk, HX.out, show isF (nth4 c 1) = p from hp.out, Bool.true_and], hd2.out, hB2⟩
          case measure => simp [intOf]
      · cases b
        · go_wp2_with fail
          first | go_roundw | refine ⟨?rel, ?measure⟩
          case rel => exact ⟨3, false, by omega, rfl, rfl, by rw [isXk, HX.out]; rfl, HD.out, hb⟩
          case measure => simp [intOf]
        · obtain ⟨p, hp⟩ : ∃ p, Hid (isF c.f2 = p) := ⟨_, rfl⟩
          have cs := cells_at HD.out
          go_wp2_with fail
          refine (refF_at hp s2 _).mono ?_
          rintro x w2 ⟨rfl, hb2⟩
          have hd2 := hid (var_on hb2 HD.out lD)
          have hB2 := below_on hb hb2
          clear hb2 hb HD lD cs
          go_wp2_with fail
          first | go_roundw | refine ⟨?rel, ?measure⟩
          case rel => exact ⟨3, p, by omega, rfl, by cases p <;> rfl, by rw [isXk, HX.out, show isF (nth4 c 2) = p from hp.out, Bool.true_and], hd2.out, hB2⟩
          case measure => simp [intOf]
      · cases b
        · go_wp2_with fail
          first | go_roundw | refine ⟨?rel, ?measure⟩
          case rel => exact ⟨4, false, by omega, rfl, rfl, by rw [isXk, HX.out]; rfl, HD.out, hb⟩
          case measure => simp [intOf]
        · obtain ⟨p, hp⟩ : ∃ p, Hid (isF c.f3 = p) := ⟨_, rfl⟩
          have cs := cells_at HD.out
          go_wp2_with fail
          refine (refF_at hp s3 _).mono ?_
          rintro x w2 ⟨rfl, hb2⟩
          have hd2 := hid (var_on hb2 HD.out lD)
          have hB2 := below_on hb hb2
          clear hb2 hb HD lD cs
          go_wp2_with fail
          first | go_roundw | refine ⟨?rel, ?measure⟩
          case rel => exact ⟨4, p, by omega, rfl, by cases p <;> rfl, by rw [isXk, HX.out, show isF (nth4 c 3) = p from hp.out, Bool.true_and], hd2.out, hB2⟩
          case measure => simp [intOf]
      · have hRb : b = R := by rw [← HX.out, ← hR.out]; rfl
        subst hRb
        go_wp2_with fail
        go_ret
        exact ⟨rfl, hb⟩
end Go.Proofs.Ytfcofhlcainanaa
