/- GeomMoves holds: what a rectangle that moves gains and loses are its areas' difference, and the function returns true. -/
import Derived.Test.YtkbfcmlchmgmnaaGeomR
import Derived.Test.YtkbfcmlchmgmnaaGeomT
import Derived.Test.YtkbfcmlchmgmnaaKnown3
import Derived.ProofKit
import Derived.OpenShut
import Derived.ShutString
import Derived.ChangeOld
import Derived.Below
import Derived.SizedLaws
namespace Go.Proofs.Ytkbfcmlchmgmnaa
open Go.ChangeShapes Go.WideShapes Go.ChangeAt Go.RowKit
open Go.ChangeMaps (open_string shut_string)
set_option linter.unusedVariables false

set_option linter.unusedVariables false in
theorem move_vals (x u d : Int) (hx0 : 0 ≤ x) (hx1 : x ≤ 255) (hu0 : 0 ≤ u) (hu1 : u ≤ 255) (hd0 : -128 ≤ d) (hd1 : d ≤ 127) :
    0 ≤ wrap64 (x.tmod 64) ∧ wrap64 (x.tmod 64) < min (wrap64 (wrap64 (wrap64 (x.tmod 64) + wrap64 (u.tmod 30)) + 1)) 64 ∧ min (wrap64 (wrap64 (wrap64 (x.tmod 64) + wrap64 (u.tmod 30)) + 1)) 64 ≤ 64 ∧
    wrap64 (wrap64 (x.tmod 64) + wrap64 d) = wrap64 (x.tmod 64) + d ∧ wrap64 (min (wrap64 (wrap64 (wrap64 (x.tmod 64) + wrap64 (u.tmod 30)) + 1)) 64 + wrap64 d) = min (wrap64 (wrap64 (wrap64 (x.tmod 64) + wrap64 (u.tmod 30)) + 1)) 64 + d := by
  rw [Int.tmod_eq_emod_of_nonneg hx0, Int.tmod_eq_emod_of_nonneg hu0]
  obtain ⟨p, hp⟩ : ∃ p, x % 64 = p := ⟨_, rfl⟩
  obtain ⟨q, hq⟩ : ∃ q, u % 30 = q := ⟨_, rfl⟩
  have hpb : 0 ≤ p ∧ p < 64 := by omega
  have hqb : 0 ≤ q ∧ q < 30 := by omega
  rw [hp, hq]
  have e1 : wrap64 p = p := by unfold wrap64; omega
  have e2 : wrap64 q = q := by unfold wrap64; omega
  have e3 : wrap64 d = d := by unfold wrap64; omega
  rw [e1, e2, e3]
  have e4 : wrap64 (p + q) = p + q := by unfold wrap64; omega
  rw [e4]
  have e5 : wrap64 (p + q + 1) = p + q + 1 := by unfold wrap64; omega
  rw [e5]
  obtain ⟨t, ht⟩ : ∃ t, min (p + q + 1) 64 = t := ⟨_, rfl⟩
  have htb : p < t ∧ t ≤ 64 := by omega
  rw [ht]
  refine ⟨by omega, by omega, by omega, ?_, ?_⟩ <;> unfold wrap64 <;> omega
theorem isB_iff (r : Rc) : isB r = true ↔ (0 ≤ r.x0 ∧ r.x0 ≤ r.x1 ∧ r.x1 ≤ 64 ∧ 0 ≤ r.y0 ∧ r.y0 ≤ r.y1 ∧ r.y1 ≤ 64) := by
  simp [isB]; omega
set_option maxHeartbeats 4000000 in
set_option maxRecDepth 100000 in
theorem geomMoves_walk (w : World) (x : Int) (v0 : (Lit.int .u8 x).wf = true) (y : Int) (v1 : (Lit.int .u8 y).wf = true) (u : Int) (v2 : (Lit.int .u8 u).wf = true) (h : Int) (v3 : (Lit.int .u8 h).wf = true) (dx : Int) (v4 : (Lit.int .i8 dx).wf = true) (dy : Int) (v5 : (Lit.int .i8 dy).wf = true) :
    Calls Try.prog 7 #[.int .u8 x, .int .u8 y, .int .u8 u, .int .u8 h, .int .i8 dx, .int .i8 dy] w fun e w' => e = .returned (.bool true) ∧ Below w.heap.size w w' := by
  have vx := bounds_u8 v0
  have vy := bounds_u8 v1
  have vu := bounds_u8 v2
  have vh := bounds_u8 v3
  have vdx := bounds_i8 v4
  have vdy := bounds_i8 v5
  have MX : Hid (_ ∧ _) := move_vals x u dx vx.1 (by omega) vu.1 (by omega) vdx.1 (by omega)
  have MY : Hid (_ ∧ _) := move_vals y h dy vy.1 (by omega) vh.1 (by omega) vdy.1 (by omega)
  clear v0 v1 v2 v3 v4 v5 vx vy vu vh vdx vdy
  go_enter Try.func7, Try.ntmps7
  go_wp2_with fail
  go_at_call 8
  refine (known_true _).mono ?_
  rintro z w1 ⟨rfl, hE⟩
  go_wp2_with fail
  have mx := MX.out
  have my := MY.out
  clear MX MY
  rw [mx.2.2.2.1, mx.2.2.2.2, my.2.2.2.1, my.2.2.2.2]
  obtain ⟨a0, h0⟩ : ∃ a, wrap64 (x.tmod 64) = a := ⟨_, rfl⟩
  obtain ⟨a1, h1⟩ : ∃ a, wrap64 (y.tmod 64) = a := ⟨_, rfl⟩
  rw [h0] at mx
  rw [h1] at my
  simp only [h0, h1]
  obtain ⟨a2, h2⟩ : ∃ a, min (wrap64 (wrap64 (a0 + wrap64 (u.tmod 30)) + 1)) 64 = a := ⟨_, rfl⟩
  obtain ⟨a3, h3⟩ : ∃ a, min (wrap64 (wrap64 (a1 + wrap64 (h.tmod 30)) + 1)) 64 = a := ⟨_, rfl⟩
  rw [h2] at mx
  rw [h3] at my
  simp only [h2, h3]
  obtain ⟨b0, k0⟩ : ∃ b, a0 + dx = b := ⟨_, rfl⟩
  obtain ⟨b1, k1⟩ : ∃ b, a1 + dy = b := ⟨_, rfl⟩
  obtain ⟨b2, k2⟩ : ∃ b, a2 + dx = b := ⟨_, rfl⟩
  obtain ⟨b3, k3⟩ : ∃ b, a3 + dy = b := ⟨_, rfl⟩
  have hx : Hid (0 ≤ a0 ∧ a0 < a2 ∧ a2 ≤ 64 ∧ b0 < b2) := ⟨by omega, by omega, by omega, by omega⟩
  have hy : Hid (0 ≤ a1 ∧ a1 < a3 ∧ a3 ≤ 64 ∧ b1 < b3) := ⟨by omega, by omega, by omega, by omega⟩
  simp only [k0, k1, k2, k3]
  clear mx my h0 h1 h2 h3 k0 k1 k2 k3
  obtain ⟨L, hL⟩ : ∃ L, Hid (minusL ⟨b0, b1, b2, b3⟩ ⟨a0, a1, a2, a3⟩ = L) := ⟨_, rfl⟩
  have hL4 : L.length ≤ 4 := by rw [← hL.out]; exact minus_le _ _
  obtain ⟨M, hM⟩ : ∃ M, Hid (minusL ⟨a0, a1, a2, a3⟩ ⟨b0, b1, b2, b3⟩ = M) := ⟨_, rfl⟩
  have hM4 : M.length ≤ 4 := by rw [← hM.out]; exact minus_le _ _
  have hB0 := (hE.alloc hE.size (ro a0 a1 a2 a3)).alloc (by have := hE.size; simp; omega) (ro b0 b1 b2 b3)
  have ca := cells4 (old_at (new_at w1 (ro a0 a1 a2 a3) _ rfl) (ro b0 b1 b2 b3))
  have cb := cells4 (new_at (w1.alloc (ro a0 a1 a2 a3)) (ro b0 b1 b2 b3) (w1.heap.size + 1) (by simp))
  obtain ⟨W0, hW0⟩ : ∃ W0, (w1.alloc (ro a0 a1 a2 a3)).alloc (ro b0 b1 b2 b3) = W0 := ⟨_, rfl⟩
  unfold ro at hW0 hB0 ca cb
  rw [hW0] at hB0 ca cb ⊢
  clear hW0 hE
  have HB0 : Hid (Below w.heap.size w W0) := hB0
  have CA : Hid (∀ W, _) := ca
  have CB : Hid (∀ W, _) := cb
  clear ca cb hB0
  obtain ⟨G, hG⟩ : ∃ G, w1.heap.size = G := ⟨_, rfl⟩
  rw [hG] at CA CB ⊢
  clear hG
  refine (geom_minus _ _ _ _ _ _ _ _ _).mono ?_
  rintro z w2 ⟨v, rfl, ho, hE⟩
  rw [hL.out] at ho
  obtain ⟨p1, c1, rfl⟩ := owns_slice ho
  go_wp2_with fail
  go_loopw [15, 18] (fun n i wr => ∃ (k : Nat) (s : Int), k ≤ L.length ∧ i = .int .i64 k ∧ n = .int .i64 s ∧ Hid (s = sumA (L.take k)) ∧ Below w2.heap.size w2 wr) (fun _ i _ => L.length - (intOf i).toNat)
  case atStart => exact ⟨0, 0, by omega, rfl, rfl, by show (0 : Int) = _; simp [sumA], Below.refl _ _⟩
  case round =>
    obtain ⟨k, s, hk, rfl, rfl, hs, hb⟩ := hrel
    by_cases hlt : k < L.length
    · have hlt' : (k : Int) < (L.length : Int) := by omega
      have hlt0 : (0 : Int) ≤ (k : Int) := by omega
      obtain ⟨q0, q1, q2, q3, hp⟩ := get_rc L k hlt
      obtain ⟨B, hB⟩ : ∃ B, Hid (areaI ⟨q0, q1, q2, q3⟩ = B) := ⟨_, rfl⟩
      have hsB : Hid (s + B = sumA (L.take (k + 1))) := by
        have h := sumA_take hp
        rw [hB.out] at h
        have h2 := hs.out
        show s + B = _
        omega
      have hbnd := sumA_bounds (L.take (k + 1))
      have hlen : (L.take (k + 1)).length ≤ 4 := by simp; omega
      have hsb0 : 0 ≤ s + B := by have := hsB.out; omega
      have hsb1 : s + B ≤ 100000 := by have := hsB.out; omega
      clear hbnd hlen
      obtain ⟨g1, rfl⟩ := owns_some ho (by omega)
      have r1 := row_at (owns_on ho hb) hp rfl
      clear hp
      go_wp2_with fail
      go_at_call 22
      refine (geom_area _ _ _ _ _).mono ?_
      rintro z w7 ⟨rfl, hb7⟩
      rw [hB.out]
      replace hb := below_on hb hb7
      clear r1 hb7
      go_wp2
      go_roundw
      case rel => exact ⟨k + 1, _, by omega, by go_num, rfl, hsB.out, hb⟩
      case measure => simp [intOf]; omega
    · have hk' : k = L.length := by omega
      subst hk'
      obtain ⟨gn, hgn⟩ : ∃ gn, Hid (sumA L = gn) := ⟨_, rfl⟩
      obtain rfl : s = gn := by rw [hs.out, ← hgn.out, List.take_length]
      replace hE := below_on hE hb
      have hgb := sumA_bounds L
      rw [hgn.out] at hgb
      clear ho hb hs
      have fa := CA.out _ hE
      have fb := CB.out _ hE
      go_wp2_with fail
      go_at_call 10
      refine (geom_minus _ _ _ _ _ _ _ _ _).mono ?_
      rintro z w3 ⟨v, rfl, ho, hb⟩
      rw [hM.out] at ho
      obtain ⟨p2, c2, rfl⟩ := owns_slice ho
      replace hE := below_on hE hb
      clear hb fa fb
      go_wp2_with fail
      go_loopw [16, 20] (fun n i wr => ∃ (k : Nat) (s : Int), k ≤ M.length ∧ i = .int .i64 k ∧ n = .int .i64 s ∧ Hid (s = sumA (M.take k)) ∧ Below w3.heap.size w3 wr) (fun _ i _ => M.length - (intOf i).toNat)
      case atStart => exact ⟨0, 0, by omega, rfl, rfl, by show (0 : Int) = _; simp [sumA], Below.refl _ _⟩
      case round =>
        obtain ⟨k, s', hk, rfl, rfl, hs, hb⟩ := hrel
        by_cases hlt : k < M.length
        · have hlt' : (k : Int) < (M.length : Int) := by omega
          have hlt0 : (0 : Int) ≤ (k : Int) := by omega
          obtain ⟨q0, q1, q2, q3, hp⟩ := get_rc M k hlt
          obtain ⟨B, hB⟩ : ∃ B, Hid (areaI ⟨q0, q1, q2, q3⟩ = B) := ⟨_, rfl⟩
          have hsB : Hid (s' + B = sumA (M.take (k + 1))) := by
            have h := sumA_take hp
            rw [hB.out] at h
            have h2 := hs.out
            show s' + B = _
            omega
          have hbnd := sumA_bounds (M.take (k + 1))
          have hlen : (M.take (k + 1)).length ≤ 4 := by simp; omega
          have hsb0 : 0 ≤ s' + B := by have := hsB.out; omega
          have hsb1 : s' + B ≤ 100000 := by have := hsB.out; omega
          clear hbnd hlen
          obtain ⟨g1, rfl⟩ := owns_some ho (by omega)
          have r1 := row_at (owns_on ho hb) hp rfl
          clear hp
          go_wp2_with fail
          go_at_call 22
          refine (geom_area _ _ _ _ _).mono ?_
          rintro z w7 ⟨rfl, hb7⟩
          rw [hB.out]
          replace hb := below_on hb hb7
          clear r1 hb7
          go_wp2
          go_roundw
          case rel => exact ⟨k + 1, _, by omega, by go_num, rfl, hsB.out, hb⟩
          case measure => simp [intOf]; omega
        · have hk' : k = M.length := by omega
          subst hk'
          obtain ⟨ls, hls⟩ : ∃ ls, Hid (sumA M = ls) := ⟨_, rfl⟩
          obtain rfl : s' = ls := by rw [hs.out, ← hls.out, List.take_length]
          replace hE := below_on hE hb
          have hlb := sumA_bounds M
          rw [hls.out] at hlb
          clear ho hb hs
          obtain ⟨A, hA⟩ : ∃ A, Hid (areaI ⟨a0, a1, a2, a3⟩ = A) := ⟨_, rfl⟩
          obtain ⟨B, hB⟩ : ∃ B, Hid (areaI ⟨b0, b1, b2, b3⟩ = B) := ⟨_, rfl⟩
          have hAb := area_bounds ⟨a0, a1, a2, a3⟩
          have hBb := area_bounds ⟨b0, b1, b2, b3⟩
          rw [hA.out] at hAb
          rw [hB.out] at hBb
          have hEq : A - s' + s = B := by
            have e1 := area_minus ⟨a0, a1, a2, a3⟩ ⟨b0, b1, b2, b3⟩
            have e2 := area_minus ⟨b0, b1, b2, b3⟩ ⟨a0, a1, a2, a3⟩
            rw [hM.out, hA.out, hls.out] at e1
            rw [hL.out, hB.out, hgn.out, meet_comm] at e2
            omega
          have hgb0 := hgb.1
          have hgb1 : s ≤ 16384 := by omega
          have hlb0 := hlb.1
          have hlb1 : s' ≤ 16384 := by omega
          have hA0 := hAb.1
          have hA1 := hAb.2
          have hIa : Hid (isB ⟨a0, a1, a2, a3⟩ = true) := (isB_iff _).2 ⟨hx.out.1, by have := hx.out; simp only; omega, hx.out.2.2.1, hy.out.1, by have := hy.out; simp only; omega, hy.out.2.2.1⟩
          have fa := fun d os => CA.out _ (below_on hE (below_regrown wr d os))
          have fb := fun d os => CB.out _ (below_on hE (below_regrown wr d os))
          have hfin : ∀ d os, Hid (Below w.heap.size w (Sort.grow (redrawn wr d) os)) := fun d os => below_on HB0.out (below_on hE (below_regrown wr d os))
          clear hE hgb hlb hAb hBb
          go_wp2_with fail
          by_cases d1 : 0 ≤ b0
          · by_cases d2 : 0 ≤ b1
            · by_cases d3 : b2 ≤ 64
              · by_cases d4 : b3 ≤ 64
                · have hIb : Hid (isB ⟨b0, b1, b2, b3⟩ = true) := (isB_iff _).2 ⟨by omega, by have := hx.out; simp only; omega, by omega, by omega, by have := hy.out; simp only; omega, by omega⟩
                  refine wp_region_quiet_below (by kernel_rfl) (by kernel_rfl) ?_
                  repeat (first | go_big_quiet_skip | (go_big_quiet_want; go_big_quiet_op; first | go_big_quiet_on | go_big_quiet_call (first
                    | exact Calls.regrown_of (calls_val (geom_area _ _ _ _ _) (by first | rw [hA.out] | rw [hB.out]))
                    | exact Calls.regrown_of (calls_val (geom_is _ _ _ _ _) (by first | rw [hIa.out] | rw [hIb.out])))))
                  refine wpQuiet_nil ?_
                  intro _ hw'
                  obtain ⟨⟨dq, osq⟩, hw''⟩ := hw'
                  subst hw''
                  go_wp2
                  go_ret
                  exact ⟨rfl, (hfin _ _).out⟩
                · have hIb : Hid (isB ⟨b0, b1, b2, b3⟩ = false) := by
                    cases hh : isB ⟨b0, b1, b2, b3⟩
                    · rfl
                    · have := (isB_iff _).1 hh; simp only at this; omega
                  have d4f : decide (b3 ≤ 64) = false := decide_eq_false d4
                  refine wp_region_quiet_below (by kernel_rfl) (by kernel_rfl) ?_
                  repeat (first | go_big_quiet_skip | (go_big_quiet_want; go_big_quiet_op; first | go_big_quiet_on | go_big_quiet_call (first
                    | exact Calls.regrown_of (calls_val (geom_area _ _ _ _ _) (by first | rw [hA.out] | rw [hB.out]))
                    | exact Calls.regrown_of (calls_val (geom_is _ _ _ _ _) (by first | rw [hIa.out] | rw [hIb.out])))))
                  refine wpQuiet_nil ?_
                  intro _ hw'
                  obtain ⟨⟨dq, osq⟩, hw''⟩ := hw'
                  subst hw''
                  go_wp2
                  go_ret
                  exact ⟨rfl, (hfin _ _).out⟩
              · have hIb : Hid (isB ⟨b0, b1, b2, b3⟩ = false) := by
                  cases hh : isB ⟨b0, b1, b2, b3⟩
                  · rfl
                  · have := (isB_iff _).1 hh; simp only at this; omega
                have d3f : decide (b2 ≤ 64) = false := decide_eq_false d3
                refine wp_region_quiet_below (by kernel_rfl) (by kernel_rfl) ?_
                repeat (first | go_big_quiet_skip | (go_big_quiet_want; go_big_quiet_op; first | go_big_quiet_on | go_big_quiet_call (first
                  | exact Calls.regrown_of (calls_val (geom_area _ _ _ _ _) (by first | rw [hA.out] | rw [hB.out]))
                  | exact Calls.regrown_of (calls_val (geom_is _ _ _ _ _) (by first | rw [hIa.out] | rw [hIb.out])))))
                refine wpQuiet_nil ?_
                intro _ hw'
                obtain ⟨⟨dq, osq⟩, hw''⟩ := hw'
                subst hw''
                go_wp2
                go_ret
                exact ⟨rfl, (hfin _ _).out⟩
            · have hIb : Hid (isB ⟨b0, b1, b2, b3⟩ = false) := by
                cases hh : isB ⟨b0, b1, b2, b3⟩
                · rfl
                · have := (isB_iff _).1 hh; simp only at this; omega
              have d2f : decide (0 ≤ b1) = false := decide_eq_false d2
              refine wp_region_quiet_below (by kernel_rfl) (by kernel_rfl) ?_
              repeat (first | go_big_quiet_skip | (go_big_quiet_want; go_big_quiet_op; first | go_big_quiet_on | go_big_quiet_call (first
                | exact Calls.regrown_of (calls_val (geom_area _ _ _ _ _) (by first | rw [hA.out] | rw [hB.out]))
                | exact Calls.regrown_of (calls_val (geom_is _ _ _ _ _) (by first | rw [hIa.out] | rw [hIb.out])))))
              refine wpQuiet_nil ?_
              intro _ hw'
              obtain ⟨⟨dq, osq⟩, hw''⟩ := hw'
              subst hw''
              go_wp2
              go_ret
              exact ⟨rfl, (hfin _ _).out⟩
          · have hIb : Hid (isB ⟨b0, b1, b2, b3⟩ = false) := by
              cases hh : isB ⟨b0, b1, b2, b3⟩
              · rfl
              · have := (isB_iff _).1 hh; simp only at this; omega
            have d1f : decide (0 ≤ b0) = false := decide_eq_false d1
            refine wp_region_quiet_below (by kernel_rfl) (by kernel_rfl) ?_
            repeat (first | go_big_quiet_skip | (go_big_quiet_want; go_big_quiet_op; first | go_big_quiet_on | go_big_quiet_call (first
              | exact Calls.regrown_of (calls_val (geom_area _ _ _ _ _) (by first | rw [hA.out] | rw [hB.out]))
              | exact Calls.regrown_of (calls_val (geom_is _ _ _ _ _) (by first | rw [hIa.out] | rw [hIb.out])))))
            refine wpQuiet_nil ?_
            intro _ hw'
            obtain ⟨⟨dq, osq⟩, hw''⟩ := hw'
            subst hw''
            go_wp2
            go_ret
            exact ⟨rfl, (hfin _ _).out⟩

theorem geomMoves_own : ownKnob Try.prog.godebug = none := by kernel_rfl
theorem geomMoves_laidOut : laidOutB Try.prog = true := by kernel_rfl
set_option maxRecDepth 100000 in
theorem geomMoves_lifted (os : Os) (started : os.Started) (H : Type) (enc : TypeId × Value → H) :
    ReturnsInHanded {} Try.checked os 7 .any (Rows.geomMovesSpec.pre6 enc Try.prog Try.f7 Rows.geomMovesRow.domain false) (Rows.geomMovesSpec.post enc Try.prog Try.f7 false true false false) := by
  refine returnsInHanded_of_change (C := Try.checked) geomMoves_own started (by kernel_rfl) Try.func7
    (ChangeSpec.witness6 (enc := enc) (C := Try.checked) false ⟨#[], #[.int .u8 0, .int .u8 0, .int .u8 0, .int .u8 0, .int .i8 0, .int .i8 0], []⟩ 8 (by kernel_rfl) (by kernel_rfl) (by kernel_rfl) (by kernel_rfl)) ?_
  intro W base args ds gs before hval0 hW hcnd _
  have hval : ∀ (j : Nat) t v, Try.f7.params[j]? = some t → args[j]? = some v → Value.okWide Try.prog W .any base t v := hval0
  have hW' := hW
  obtain ⟨p, q, hA0, hV, rfl, hfz, hnd⟩ := hW
  have hA : DataW.TrodAll enc Try.prog W 0 (fun _ => true) true Try.f7.params.toList args.toList ds p := hA0
  rw [Try.params7] at hA hval
  obtain ⟨v0, vs0, d0, ds0, p0, q0, hargs, rfl, rfl, h0, r0⟩ := trodAll_cons hA
  obtain ⟨v1, vs1, d1, ds1, p1, q1, rfl, rfl, rfl, h1, r1⟩ := trodAll_cons r0
  obtain ⟨v2, vs2, d2, ds2, p2, q2, rfl, rfl, rfl, h2, r2⟩ := trodAll_cons r1
  obtain ⟨v3, vs3, d3, ds3, p3, q3, rfl, rfl, rfl, h3, r3⟩ := trodAll_cons r2
  obtain ⟨v4, vs4, d4, ds4, p4, q4, rfl, rfl, rfl, h4, r4⟩ := trodAll_cons r3
  obtain ⟨v5, vs5, d5, ds5, p5, q5, rfl, rfl, rfl, h5, r5⟩ := trodAll_cons r4
  obtain ⟨rfl, rfl, rfl⟩ := trodAll_nil r5
  obtain rfl : args = #[v0, v1, v2, v3, v4, v5] := by cases args; simp_all
  obtain ⟨rfl, rfl⟩ := trodVars_none hV
  have k0 := h0
  have lt0 : ∀ x ∈ p0, x.block < W.heap.size := by obtain ⟨m, hm⟩ := k0; exact DataW.trod_lt m _ _ _ hm
  have k1 := h1
  have lt1 : ∀ x ∈ p1, x.block < W.heap.size := by obtain ⟨m, hm⟩ := k1; exact DataW.trod_lt m _ _ _ hm
  have k2 := h2
  have lt2 : ∀ x ∈ p2, x.block < W.heap.size := by obtain ⟨m, hm⟩ := k2; exact DataW.trod_lt m _ _ _ hm
  have k3 := h3
  have lt3 : ∀ x ∈ p3, x.block < W.heap.size := by obtain ⟨m, hm⟩ := k3; exact DataW.trod_lt m _ _ _ hm
  have k4 := h4
  have lt4 : ∀ x ∈ p4, x.block < W.heap.size := by obtain ⟨m, hm⟩ := k4; exact DataW.trod_lt m _ _ _ hm
  have k5 := h5
  have lt5 : ∀ x ∈ p5, x.block < W.heap.size := by obtain ⟨m, hm⟩ := k5; exact DataW.trod_lt m _ _ _ hm
  obtain ⟨a0, rfl, rfl, rfl, w0⟩ := open_int Try.underlying5 (hval 0 5 v0 rfl rfl) h0
  obtain ⟨a1, rfl, rfl, rfl, w1⟩ := open_int Try.underlying5 (hval 1 5 v1 rfl rfl) h1
  obtain ⟨a2, rfl, rfl, rfl, w2⟩ := open_int Try.underlying5 (hval 2 5 v2 rfl rfl) h2
  obtain ⟨a3, rfl, rfl, rfl, w3⟩ := open_int Try.underlying5 (hval 3 5 v3 rfl rfl) h3
  obtain ⟨a4, rfl, rfl, rfl, w4⟩ := open_int Try.underlying37 (hval 4 37 v4 rfl rfl) h4
  obtain ⟨a5, rfl, rfl, rfl, w5⟩ := open_int Try.underlying37 (hval 5 37 v5 rfl rfl) h5
  clear hA0 hval0
  refine (geomMoves_walk W a0 w0 a1 w1 a2 w2 a3 w3 a4 w4 a5 w5).mono fun e W' ⟨he, bel⟩ => ?_
  subst he
  exact ⟨_, rfl, _, _, _, [], _, [], hW', trodAll_mk1 (shut_bool Try.underlying4 _), (trodAll_cons_mk (Below.trod geomMoves_laidOut (by kernel_rfl) (of_decide_eq_true (by kernel_rfl)) k0 bel lt0) (trodAll_cons_mk (Below.trod geomMoves_laidOut (by kernel_rfl) (of_decide_eq_true (by kernel_rfl)) k1 bel lt1) (trodAll_cons_mk (Below.trod geomMoves_laidOut (by kernel_rfl) (of_decide_eq_true (by kernel_rfl)) k2 bel lt2) (trodAll_cons_mk (Below.trod geomMoves_laidOut (by kernel_rfl) (of_decide_eq_true (by kernel_rfl)) k3 bel lt3) (trodAll_cons_mk (Below.trod geomMoves_laidOut (by kernel_rfl) (of_decide_eq_true (by kernel_rfl)) k4 bel lt4) (trodAll_cons_mk (Below.trod geomMoves_laidOut (by kernel_rfl) (of_decide_eq_true (by kernel_rfl)) k5 bel lt5) trodAll_mk0)))))), rfl, bel.frame _, fun h => by cases h⟩

theorem geomMoves_over : Rows.geomMovesRow.holds Try.pinned (OpenSpec.ofChange Rows.geomMovesSpec) :=
  OpenClaim.holds_of_wide 7 Try.f7 rfl rfl rfl rfl rfl rfl rfl ⟨rfl, rfl, rfl, rfl, rfl⟩ rfl rfl rfl rfl rfl (by kernel_rfl) Try.func7 (by kernel_rfl)
    (of_decide_eq_true (by kernel_rfl)) (by unfold Func.isWrapper; first | (rw [if_pos (by decide +kernel)]; kernel_rfl) | (rw [if_neg (by decide +kernel)]; exact ⟨rfl, rfl⟩))
    (fun os started H enc _ => geomMoves_lifted os started H enc)

theorem geomMoves_holds : Rows.GeomMovesSaid := geomMoves_over
#print axioms geomMoves_holds
end Go.Proofs.Ytkbfcmlchmgmnaa
