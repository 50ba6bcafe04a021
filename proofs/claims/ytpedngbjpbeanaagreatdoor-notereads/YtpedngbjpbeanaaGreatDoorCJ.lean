/- Contract of the reference Is; it says what the parts say. -/
import Derived.Test.YtpedngbjpbeanaaGreatDoorCI
import Derived.Deep.Cut
namespace Go.Proofs.YtpedngbjpbeanaaGreatDoor
section
open Go.RowKit
set_option linter.unusedVariables false
def isX0 (c : Cm) : Bool := inJ c.kd 1 8 && (inJ c.cl 0 3 && (inJ c.se 0 1000000 && (eqC c (shapeC c) && (ptI c.x c.y && (rcI c.r0 c.r1 c.r2 c.r3 && (inJ c.id 0 1000000 && (inJ c.wh (-1) 100 && (inJ c.tt (-1) 100 && isF c.va))))))))
def isXk (c : Cm) : Nat → Bool
  | 0 => isX0 c
  | k + 1 => isXk c k && isF (nth4 c k)
def isX (c : Cm) : Bool := isXk c 4
theorem within_b {n lo hi : Int} {q : Bool} (h : Hid (inJ n lo hi = q)) (w : World) : Calls Tryz.prog 52 #[.int .i64 n, .int .i64 lo, .int .i64 hi] w fun e w' => e = .returned (.bool q) ∧ Below w.heap.size w w' :=
  (within_at h w).mono fun _ _ ⟨he, hw⟩ => ⟨he, by rw [hw]; exact Below.refl _ _⟩
theorem refFl_at {f : Fl} {q : Bool} (h : Hid (isF f = q)) (hs : f.s.size ≤ maxLen) (w : World) : Calls Tryz.prog 56 #[f.v] w fun e w' => e = .returned (.bool q) ∧ Below w.heap.size w w' := by
  rw [← h.out]; exact ref_isField w f hs
set_option maxRecDepth 100000 in
set_option maxHeartbeats 8000000 in
theorem refcm_is (w : World) (c : Cm) (hs : sizedC c) : Calls Tryz.prog 23 #[c.v] w fun e w' => e = .returned (.bool (isX c)) ∧ Below w.heap.size w w' := by
  obtain ⟨W, hW⟩ : ∃ W, W = w.alloc c.o := ⟨_, rfl⟩
  have hE : Below w.heap.size w W := by rw [hW]; exact below1 _ _
  have K1 := hid (show W.heap[w.heap.size]? = some c.o by rw [hW]; exact new_at _ _ _ rfl)
  obtain ⟨B0, hB0⟩ : ∃ B, Hid (isX0 c = B) := ⟨_, rfl⟩
  have s0 : c.f0.s.size ≤ maxLen := hs 6
  have s1 : c.f1.s.size ≤ maxLen := hs 8
  have s2 : c.f2.s.size ≤ maxLen := hs 10
  have s3 : c.f3.s.size ≤ maxLen := hs 12
  have s4 : c.va.s.size ≤ maxLen := hs 14
  obtain ⟨R, hR⟩ : ∃ R, Hid (isX c = R) := ⟨_, rfl⟩
  rw [hR.out]
  go_enter Tryz.func23, Tryz.ntmps23
  go_upto_region 1 with fail
  rw [← hW]
  clear hW
  go_cut [3] from 5 to 54 (fun s3 wx => s3 = .bool B0 ∧ wx.heap[w.heap.size]? = some c.o ∧ Below w.heap.size w wx)
  case first =>
    obtain ⟨S, hS⟩ : ∃ S, Hid (shapeC c = S) := ⟨_, rfl⟩
    have CS := fun w => ref_shape w c
    rw [hS.out] at CS
    obtain ⟨x0, h0⟩ : ∃ x, Hid (inJ c.kd 1 8 = x) := ⟨_, rfl⟩
    obtain ⟨x1, h1⟩ : ∃ x, Hid (inJ c.cl 0 3 = x) := ⟨_, rfl⟩
    obtain ⟨x2, h2⟩ : ∃ x, Hid (inJ c.se 0 1000000 = x) := ⟨_, rfl⟩
    obtain ⟨x3, h3⟩ : ∃ x, Hid (eqC c S = x) := ⟨_, rfl⟩
    obtain ⟨x4, h4⟩ : ∃ x, Hid (ptI c.x c.y = x) := ⟨_, rfl⟩
    obtain ⟨x5, h5⟩ : ∃ x, Hid (rcI c.r0 c.r1 c.r2 c.r3 = x) := ⟨_, rfl⟩
    obtain ⟨x6, h6⟩ : ∃ x, Hid (inJ c.id 0 1000000 = x) := ⟨_, rfl⟩
    obtain ⟨x7, h7⟩ : ∃ x, Hid (inJ c.wh (-1) 100 = x) := ⟨_, rfl⟩
    obtain ⟨x8, h8⟩ : ∃ x, Hid (inJ c.tt (-1) 100 = x) := ⟨_, rfl⟩
    obtain ⟨x9, h9⟩ : ∃ x, Hid (isF c.va = x) := ⟨_, rfl⟩
    have hB : isX0 c = (x0 && (x1 && (x2 && (x3 && (x4 && (x5 && (x6 && (x7 && (x8 && x9))))))))) := by
      unfold isX0
      rw [hS.out, h0.out, h1.out, h2.out, h3.out, h4.out, h5.out, h6.out, h7.out, h8.out, h9.out]
    have HB := hid (hB0.out.symm.trans hB)
    clear hB
    have hQ := equal_cm_at h3.out
    have D0 := fun w => within_b h0 w
    have D1 := fun w => within_b h1 w
    have D2 := fun w => within_b h2 w
    have D4 := fun w => point_at h4 w
    have D5 := fun w => refrc_at h5 w
    have D6 := fun w => within_b h6 w
    have D7 := fun w => within_b h7 w
    have D8 := fun w => within_b h8 w
    have D9 := fun w => refFl_at h9 s4 w
    have g1 := grown_cells K1.out
    have hG : ∀ W', (∃ p : Regrown, W' = Sort.grow (redrawn W p.d) p.os) → W'.heap[w.heap.size]? = some c.o := fun W' ⟨p, e⟩ => by rw [e]; exact var_on (below_regrown W p.d p.os) K1.out (at_lt K1.out)
    refine wp_region_quiet_below (by kernel_rfl) (by kernel_rfl) ?_
    repeat (first | go_big_quiet_skip | ((with_reducible refine quiet_load_cm ?_ (.tmp 1) rfl rfl hG ?_); (· rfl); simp only [Act.put, List.setIfInBounds_toArray, List.set_cons_zero, List.set_cons_succ]) | (go_big_quiet_want; go_big_quiet_op; first | go_big_quiet_on | go_big_quiet_call (first | with_reducible exact Calls.regrown_of (D0 _) | with_reducible exact Calls.regrown_of (D1 _) | with_reducible exact Calls.regrown_of (D2 _) | with_reducible exact Calls.regrown_of (CS _) | with_reducible exact Calls.regrown_of (D4 _) | with_reducible exact Calls.regrown_of (D5 _) | with_reducible exact Calls.regrown_of (D6 _) | with_reducible exact Calls.regrown_of (D7 _) | with_reducible exact Calls.regrown_of (D8 _) | with_reducible exact Calls.regrown_of (D9 _))))
    cases x0
    · repeat (first | go_big_quiet_skip | (go_big_quiet_want; go_big_quiet_op; go_big_quiet_on))
      refine wpQuiet_nil ?_
      intro _ hw'
      obtain ⟨⟨dq, osq⟩, hw''⟩ := hw'
      subst hw''
      go_wp2_with fail
      go_meet
      case rel => exact ⟨by rw [HB.out]; rfl, var_on (below_regrown W dq osq) K1.out (at_lt K1.out), below_on hE (below_regrown _ _ _)⟩
    repeat (first | go_big_quiet_skip | ((with_reducible refine quiet_load_cm ?_ (.tmp 1) rfl rfl hG ?_); (· rfl); simp only [Act.put, List.setIfInBounds_toArray, List.set_cons_zero, List.set_cons_succ]) | (go_big_quiet_want; go_big_quiet_op; first | go_big_quiet_on | go_big_quiet_call (first | with_reducible exact Calls.regrown_of (D0 _) | with_reducible exact Calls.regrown_of (D1 _) | with_reducible exact Calls.regrown_of (D2 _) | with_reducible exact Calls.regrown_of (CS _) | with_reducible exact Calls.regrown_of (D4 _) | with_reducible exact Calls.regrown_of (D5 _) | with_reducible exact Calls.regrown_of (D6 _) | with_reducible exact Calls.regrown_of (D7 _) | with_reducible exact Calls.regrown_of (D8 _) | with_reducible exact Calls.regrown_of (D9 _))))
    cases x1
    · repeat (first | go_big_quiet_skip | (go_big_quiet_want; go_big_quiet_op; go_big_quiet_on))
      refine wpQuiet_nil ?_
      intro _ hw'
      obtain ⟨⟨dq, osq⟩, hw''⟩ := hw'
      subst hw''
      go_wp2_with fail
      go_meet
      case rel => exact ⟨by rw [HB.out]; rfl, var_on (below_regrown W dq osq) K1.out (at_lt K1.out), below_on hE (below_regrown _ _ _)⟩
    repeat (first | go_big_quiet_skip | ((with_reducible refine quiet_load_cm ?_ (.tmp 1) rfl rfl hG ?_); (· rfl); simp only [Act.put, List.setIfInBounds_toArray, List.set_cons_zero, List.set_cons_succ]) | (go_big_quiet_want; go_big_quiet_op; first | go_big_quiet_on | go_big_quiet_call (first | with_reducible exact Calls.regrown_of (D0 _) | with_reducible exact Calls.regrown_of (D1 _) | with_reducible exact Calls.regrown_of (D2 _) | with_reducible exact Calls.regrown_of (CS _) | with_reducible exact Calls.regrown_of (D4 _) | with_reducible exact Calls.regrown_of (D5 _) | with_reducible exact Calls.regrown_of (D6 _) | with_reducible exact Calls.regrown_of (D7 _) | with_reducible exact Calls.regrown_of (D8 _) | with_reducible exact Calls.regrown_of (D9 _))))
    cases x2
    · repeat (first | go_big_quiet_skip | (go_big_quiet_want; go_big_quiet_op; go_big_quiet_on))
      refine wpQuiet_nil ?_
      intro _ hw'
      obtain ⟨⟨dq, osq⟩, hw''⟩ := hw'
      subst hw''
      go_wp2_with fail
      go_meet
      case rel => exact ⟨by rw [HB.out]; rfl, var_on (below_regrown W dq osq) K1.out (at_lt K1.out), below_on hE (below_regrown _ _ _)⟩
    repeat (first | go_big_quiet_skip | ((with_reducible refine quiet_load_cm ?_ (.tmp 1) rfl rfl hG ?_); (· rfl); simp only [Act.put, List.setIfInBounds_toArray, List.set_cons_zero, List.set_cons_succ]) | (go_big_quiet_want; go_big_quiet_op; first | go_big_quiet_on | go_big_quiet_call (first | with_reducible exact Calls.regrown_of (D0 _) | with_reducible exact Calls.regrown_of (D1 _) | with_reducible exact Calls.regrown_of (D2 _) | with_reducible exact Calls.regrown_of (CS _) | with_reducible exact Calls.regrown_of (D4 _) | with_reducible exact Calls.regrown_of (D5 _) | with_reducible exact Calls.regrown_of (D6 _) | with_reducible exact Calls.regrown_of (D7 _) | with_reducible exact Calls.regrown_of (D8 _) | with_reducible exact Calls.regrown_of (D9 _))))
    cases x3
    · repeat (first | go_big_quiet_skip | (go_big_quiet_want; go_big_quiet_op; go_big_quiet_on))
      refine wpQuiet_nil ?_
      intro _ hw'
      obtain ⟨⟨dq, osq⟩, hw''⟩ := hw'
      subst hw''
      go_wp2_with fail
      go_meet
      case rel => exact ⟨by rw [HB.out]; rfl, var_on (below_regrown W dq osq) K1.out (at_lt K1.out), below_on hE (below_regrown _ _ _)⟩
    repeat (first | go_big_quiet_skip | ((with_reducible refine quiet_load_cm ?_ (.tmp 1) rfl rfl hG ?_); (· rfl); simp only [Act.put, List.setIfInBounds_toArray, List.set_cons_zero, List.set_cons_succ]) | (go_big_quiet_want; go_big_quiet_op; first | go_big_quiet_on | go_big_quiet_call (first | with_reducible exact Calls.regrown_of (D0 _) | with_reducible exact Calls.regrown_of (D1 _) | with_reducible exact Calls.regrown_of (D2 _) | with_reducible exact Calls.regrown_of (CS _) | with_reducible exact Calls.regrown_of (D4 _) | with_reducible exact Calls.regrown_of (D5 _) | with_reducible exact Calls.regrown_of (D6 _) | with_reducible exact Calls.regrown_of (D7 _) | with_reducible exact Calls.regrown_of (D8 _) | with_reducible exact Calls.regrown_of (D9 _))))
    cases x4
    · repeat (first | go_big_quiet_skip | (go_big_quiet_want; go_big_quiet_op; go_big_quiet_on))
      refine wpQuiet_nil ?_
      intro _ hw'
      obtain ⟨⟨dq, osq⟩, hw''⟩ := hw'
      subst hw''
      go_wp2_with fail
      go_meet
      case rel => exact ⟨by rw [HB.out]; rfl, var_on (below_regrown W dq osq) K1.out (at_lt K1.out), below_on hE (below_regrown _ _ _)⟩
    repeat (first | go_big_quiet_skip | ((with_reducible refine quiet_load_cm ?_ (.tmp 1) rfl rfl hG ?_); (· rfl); simp only [Act.put, List.setIfInBounds_toArray, List.set_cons_zero, List.set_cons_succ]) | (go_big_quiet_want; go_big_quiet_op; first | go_big_quiet_on | go_big_quiet_call (first | with_reducible exact Calls.regrown_of (D0 _) | with_reducible exact Calls.regrown_of (D1 _) | with_reducible exact Calls.regrown_of (D2 _) | with_reducible exact Calls.regrown_of (CS _) | with_reducible exact Calls.regrown_of (D4 _) | with_reducible exact Calls.regrown_of (D5 _) | with_reducible exact Calls.regrown_of (D6 _) | with_reducible exact Calls.regrown_of (D7 _) | with_reducible exact Calls.regrown_of (D8 _) | with_reducible exact Calls.regrown_of (D9 _))))
    cases x5
    · repeat (first | go_big_quiet_skip | (go_big_quiet_want; go_big_quiet_op; go_big_quiet_on))
      refine wpQuiet_nil ?_
      intro _ hw'
      obtain ⟨⟨dq, osq⟩, hw''⟩ := hw'
      subst hw''
      go_wp2_with fail
      go_meet
      case rel => exact ⟨by rw [HB.out]; rfl, var_on (below_regrown W dq osq) K1.out (at_lt K1.out), below_on hE (below_regrown _ _ _)⟩
    repeat (first | go_big_quiet_skip | ((with_reducible refine quiet_load_cm ?_ (.tmp 1) rfl rfl hG ?_); (· rfl); simp only [Act.put, List.setIfInBounds_toArray, List.set_cons_zero, List.set_cons_succ]) | (go_big_quiet_want; go_big_quiet_op; first | go_big_quiet_on | go_big_quiet_call (first | with_reducible exact Calls.regrown_of (D0 _) | with_reducible exact Calls.regrown_of (D1 _) | with_reducible exact Calls.regrown_of (D2 _) | with_reducible exact Calls.regrown_of (CS _) | with_reducible exact Calls.regrown_of (D4 _) | with_reducible exact Calls.regrown_of (D5 _) | with_reducible exact Calls.regrown_of (D6 _) | with_reducible exact Calls.regrown_of (D7 _) | with_reducible exact Calls.regrown_of (D8 _) | with_reducible exact Calls.regrown_of (D9 _))))
    cases x6
    · repeat (first | go_big_quiet_skip | (go_big_quiet_want; go_big_quiet_op; go_big_quiet_on))
      refine wpQuiet_nil ?_
      intro _ hw'
      obtain ⟨⟨dq, osq⟩, hw''⟩ := hw'
      subst hw''
      go_wp2_with fail
      go_meet
      case rel => exact ⟨by rw [HB.out]; rfl, var_on (below_regrown W dq osq) K1.out (at_lt K1.out), below_on hE (below_regrown _ _ _)⟩
    repeat (first | go_big_quiet_skip | ((with_reducible refine quiet_load_cm ?_ (.tmp 1) rfl rfl hG ?_); (· rfl); simp only [Act.put, List.setIfInBounds_toArray, List.set_cons_zero, List.set_cons_succ]) | (go_big_quiet_want; go_big_quiet_op; first | go_big_quiet_on | go_big_quiet_call (first | with_reducible exact Calls.regrown_of (D0 _) | with_reducible exact Calls.regrown_of (D1 _) | with_reducible exact Calls.regrown_of (D2 _) | with_reducible exact Calls.regrown_of (CS _) | with_reducible exact Calls.regrown_of (D4 _) | with_reducible exact Calls.regrown_of (D5 _) | with_reducible exact Calls.regrown_of (D6 _) | with_reducible exact Calls.regrown_of (D7 _) | with_reducible exact Calls.regrown_of (D8 _) | with_reducible exact Calls.regrown_of (D9 _))))
    cases x7
    · repeat (first | go_big_quiet_skip | (go_big_quiet_want; go_big_quiet_op; go_big_quiet_on))
      refine wpQuiet_nil ?_
      intro _ hw'
      obtain ⟨⟨dq, osq⟩, hw''⟩ := hw'
      subst hw''
      go_wp2_with fail
      go_meet
      case rel => exact ⟨by rw [HB.out]; rfl, var_on (below_regrown W dq osq) K1.out (at_lt K1.out), below_on hE (below_regrown _ _ _)⟩
    repeat (first | go_big_quiet_skip | ((with_reducible refine quiet_load_cm ?_ (.tmp 1) rfl rfl hG ?_); (· rfl); simp only [Act.put, List.setIfInBounds_toArray, List.set_cons_zero, List.set_cons_succ]) | (go_big_quiet_want; go_big_quiet_op; first | go_big_quiet_on | go_big_quiet_call (first | with_reducible exact Calls.regrown_of (D0 _) | with_reducible exact Calls.regrown_of (D1 _) | with_reducible exact Calls.regrown_of (D2 _) | with_reducible exact Calls.regrown_of (CS _) | with_reducible exact Calls.regrown_of (D4 _) | with_reducible exact Calls.regrown_of (D5 _) | with_reducible exact Calls.regrown_of (D6 _) | with_reducible exact Calls.regrown_of (D7 _) | with_reducible exact Calls.regrown_of (D8 _) | with_reducible exact Calls.regrown_of (D9 _))))
    cases x8
    · repeat (first | go_big_quiet_skip | (go_big_quiet_want; go_big_quiet_op; go_big_quiet_on))
      refine wpQuiet_nil ?_
      intro _ hw'
      obtain ⟨⟨dq, osq⟩, hw''⟩ := hw'
      subst hw''
      go_wp2_with fail
      go_meet
      case rel => exact ⟨by rw [HB.out]; rfl, var_on (below_regrown W dq osq) K1.out (at_lt K1.out), below_on hE (below_regrown _ _ _)⟩
    repeat (first | go_big_quiet_skip | ((with_reducible refine quiet_load_cm ?_ (.tmp 1) rfl rfl hG ?_); (· rfl); simp only [Act.put, List.setIfInBounds_toArray, List.set_cons_zero, List.set_cons_succ]) | (go_big_quiet_want; go_big_quiet_op; first | go_big_quiet_on | go_big_quiet_call (first | with_reducible exact Calls.regrown_of (D0 _) | with_reducible exact Calls.regrown_of (D1 _) | with_reducible exact Calls.regrown_of (D2 _) | with_reducible exact Calls.regrown_of (CS _) | with_reducible exact Calls.regrown_of (D4 _) | with_reducible exact Calls.regrown_of (D5 _) | with_reducible exact Calls.regrown_of (D6 _) | with_reducible exact Calls.regrown_of (D7 _) | with_reducible exact Calls.regrown_of (D8 _) | with_reducible exact Calls.regrown_of (D9 _))))
    refine wpQuiet_nil ?_
    intro _ hw'
    obtain ⟨⟨dq, osq⟩, hw''⟩ := hw'
    subst hw''
    go_wp2_with fail
    go_meet
    case rel => exact ⟨by rw [HB.out]; rfl, var_on (below_regrown W dq osq) K1.out (at_lt K1.out), below_on hE (below_regrown _ _ _)⟩
  case rest =>
    obtain ⟨rfl, hd0, hb0⟩ := hcut
    have H0 := hid hd0
    clear hd0 K1 hE
    go_wp2_with fail
    go_loopw [3, 4] (fun s3 i wr => ∃ (k : Nat) (b : Bool), k ≤ 4 ∧ i = .int .i64 k ∧ s3 = .bool b ∧ isXk c k = b ∧ wr.heap[w.heap.size]? = some c.o ∧ Below w.heap.size w wr) (fun _ i _ => 4 - (intOf i).toNat)
    case atStart => exact ⟨0, B0, by omega, rfl, rfl, hB0.out, H0.out, hb0⟩
    case round =>
      obtain ⟨k, b, hk, rfl, rfl, hx, hd, hb⟩ := hrel
      have HD := hid hd
      have HX := hid hx
      have lD := at_lt hd
      clear hd hx H0 hb0
      obtain rfl | rfl | rfl | rfl | rfl : k = 0 ∨ k = 1 ∨ k = 2 ∨ k = 3 ∨ k = 4 := by omega
      · cases b
        · go_wp2_with fail
          first | go_roundw | refine ⟨?rel, ?measure⟩
          case rel => exact ⟨1, false, by omega, rfl, rfl, by rw [isXk, HX.out]; rfl, HD.out, hb⟩
          case measure => simp [intOf]
        · obtain ⟨p, hp⟩ : ∃ p, Hid (isF c.f0 = p) := ⟨_, rfl⟩
          have cs := cells_at HD.out
          go_wp2_with fail
          refine (refFl_at hp s0 _).mono ?_
          rintro x w2 ⟨rfl, hb2⟩
          have hd2 := hid (var_on hb2 HD.out lD)
          have hB2 := below_on hb hb2
          clear hb2 hb HD lD cs
          go_wp2_with fail
          first | go_roundw | refine ⟨?rel, ?measure⟩
          case rel => exact ⟨1, p, by omega, rfl, by cases p <;> rfl, by rw [isXk, HX.out, show isF (nth4 c 0) = p from hp.out, Bool.true_and], hd2.out, hB2⟩
          case measure => simp [intOf]
      · cases b
        · go_wp2_with fail
          first | go_roundw | refine ⟨?rel, ?measure⟩
          case rel => exact ⟨2, false, by omega, rfl, rfl, by rw [isXk, HX.out]; rfl, HD.out, hb⟩
          case measure => simp [intOf]
        · obtain ⟨p, hp⟩ : ∃ p, Hid (isF c.f1 = p) := ⟨_, rfl⟩
          have cs := cells_at HD.out
          go_wp2_with fail
          refine (refFl_at hp s1 _).mono ?_
          rintro x w2 ⟨rfl, hb2⟩
          have hd2 := hid (var_on hb2 HD.out lD)
          have hB2 := below_on hb hb2
          clear hb2 hb HD lD cs
          go_wp2_with fail
          first | go_roundw | refine ⟨?rel, ?measure⟩
          case rel => exact ⟨2, p, by omega, rfl, by cases p <;> rfl, by rw [isXk, HX.out, show isF (nth4 c 1) = p from hp.out, Bool.true_and], hd2.out, hB2⟩
          case measure => simp [intOf]
      · cases b
        · go_wp2_with fail
          first | go_roundw | refine ⟨?rel, ?measure⟩
          case rel => exact ⟨3, false, by omega, rfl, rfl, by rw [isXk, HX.out]; rfl, HD.out, hb⟩
          case measure => simp [intOf]
        · obtain ⟨p, hp⟩ : ∃ p, Hid (isF c.f2 = p) := ⟨_, rfl⟩
          have cs := cells_at HD.out
          go_wp2_with fail
          refine (refFl_at hp s2 _).mono ?_
          rintro x w2 ⟨rfl, hb2⟩
          have hd2 := hid (var_on hb2 HD.out lD)
          have hB2 := below_on hb hb2
          clear hb2 hb HD lD cs
          go_wp2_with fail
          first | go_roundw | refine ⟨?rel, ?measure⟩
          case rel => exact ⟨3, p, by omega, rfl, by cases p <;> rfl, by rw [isXk, HX.out, show isF (nth4 c 2) = p from hp.out, Bool.true_and], hd2.out, hB2⟩
          case measure => simp [intOf]
      · cases b
        · go_wp2_with fail
          first | go_roundw | refine ⟨?rel, ?measure⟩
          case rel => exact ⟨4, false, by omega, rfl, rfl, by rw [isXk, HX.out]; rfl, HD.out, hb⟩
          case measure => simp [intOf]
        · obtain ⟨p, hp⟩ : ∃ p, Hid (isF c.f3 = p) := ⟨_, rfl⟩
          have cs := cells_at HD.out
          go_wp2_with fail
          refine (refFl_at hp s3 _).mono ?_
          rintro x w2 ⟨rfl, hb2⟩
          have hd2 := hid (var_on hb2 HD.out lD)
          have hB2 := below_on hb hb2
          clear hb2 hb HD lD cs
          go_wp2_with fail
          first | go_roundw | refine ⟨?rel, ?measure⟩
          case rel => exact ⟨4, p, by omega, rfl, by cases p <;> rfl, by rw [isXk, HX.out, show isF (nth4 c 3) = p from hp.out, Bool.true_and], hd2.out, hB2⟩
          case measure => simp [intOf]
      · have hRb : b = R := by rw [← HX.out, ← hR.out]; rfl
        subst hRb
        go_wp2_with fail
        go_ret
        exact ⟨rfl, hb⟩
end
section
open Go.RowKit
set_option linter.unusedVariables false
theorem isF_zero : isF zF = true := by decide
theorem inI_iff {n lo hi : Int} : inJ n lo hi = true ↔ lo ≤ n ∧ n ≤ hi := by simp [inJ]
theorem isX_iff {c : Cm} : isX c = true ↔ (1 ≤ c.kd ∧ c.kd ≤ 8) ∧ (0 ≤ c.cl ∧ c.cl ≤ 3) ∧ (0 ≤ c.se ∧ c.se ≤ 1000000) ∧ c = shapeC c ∧ ((-1000 ≤ c.x ∧ c.x ≤ 1000) ∧ (-1000 ≤ c.y ∧ c.y ≤ 1000)) ∧ (((-1000 ≤ c.r0 ∧ c.r0 ≤ 1000) ∧ (-1000 ≤ c.r1 ∧ c.r1 ≤ 1000)) ∧ ((-1000 ≤ c.r2 ∧ c.r2 ≤ 1000) ∧ (-1000 ≤ c.r3 ∧ c.r3 ≤ 1000))) ∧ (0 ≤ c.id ∧ c.id ≤ 1000000) ∧ (-1 ≤ c.wh ∧ c.wh ≤ 100) ∧ (-1 ≤ c.tt ∧ c.tt ≤ 100) ∧ isF c.va = true ∧ isF c.f0 = true ∧ isF c.f1 = true ∧ isF c.f2 = true ∧ isF c.f3 = true := by
  unfold isX isXk isXk isXk isXk isXk isX0 rcI ptI
  simp only [Bool.and_eq_true, inI_iff, eqC_iff, nth4]
  constructor
  · rintro ⟨⟨⟨⟨⟨h1, h2, h3, h4, h5, h6, h7, h8, h9, h10⟩, h11⟩, h12⟩, h13⟩, h14⟩
    exact ⟨h1, h2, h3, h4, h5, h6, h7, h8, h9, h10, h11, h12, h13, h14⟩
  · rintro ⟨h1, h2, h3, h4, h5, h6, h7, h8, h9, h10, h11, h12, h13, h14⟩
    exact ⟨⟨⟨⟨⟨h1, h2, h3, h4, h5, h6, h7, h8, h9, h10⟩, h11⟩, h12⟩, h13⟩, h14⟩
theorem kd_cases {k : Int} (h1 : 1 ≤ k) (h2 : k ≤ 8) : k = 1 ∨ k = 2 ∨ k = 3 ∨ k = 4 ∨ k = 5 ∨ k = 6 ∨ k = 7 ∨ k = 8 := by omega
theorem isX_isC (c : Cm) : isX c = isCm c := by
  rw [Bool.eq_iff_iff, isX_iff, isC_iff]
  obtain ⟨a0, a1, a2, a3, a4, a5, a6, a7, a8, a9, a10, a11, a12, a13, a14, a15, a16⟩ := c
  simp only
  have zF1 := isF_zero
  constructor
  · rintro ⟨⟨k1, k2⟩, h2, h3, h4, h5, h6, h7, h8, h9, h10, h11, h12, h13, h14⟩
    rcases kd_cases k1 k2 with rfl | rfl | rfl | rfl | rfl | rfl | rfl | rfl
    all_goals
      simp [shapeC] at h4
      simp_all [partsP, headP, restP, Pa.is, Cm.i, Cm.f, clrL, Pa.clr, Cm.setI, Cm.setF, zC]
  · rintro ⟨h1, h2⟩
    have k0 := is_num.1 (h1 (.num 0 1 8) (by unfold partsP; simp [headP]))
    rcases kd_cases (k := a0) k0.1 k0.2 with rfl | rfl | rfl | rfl | rfl | rfl | rfl | rfl
    all_goals
      simp [partsP, headP, restP, clrL, Pa.clr, Cm.setI, Cm.setF, zC] at h2
      simp [partsP, headP, restP, Pa.is, Cm.i, Cm.f] at h1
      simp_all [shapeC]
end
end Go.Proofs.YtpedngbjpbeanaaGreatDoor
