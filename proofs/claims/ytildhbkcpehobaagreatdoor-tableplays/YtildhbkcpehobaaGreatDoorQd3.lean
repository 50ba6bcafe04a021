/- Contracts of the squares' functions over this translation: side, end, place, rect. Each returns what the plain functions say, and changes nothing that was there. -/
import Derived.Test.YtildhbkcpehobaaGreatDoorQd2
import Derived.Deep.RegionHeld3
namespace Go.Proofs.YtildhbkcpehobaaGreatDoor
open Go.RowKit
set_option linter.unusedVariables false
def sideN (d : Nat) : Nat := 64 / 2 ^ d
def endN (s : Sq) : Nat := s.b + sideN s.d * sideN s.d
def plX (c : Nat) : Int := (gat c : Nat)
def plY (c : Nat) : Int := (gat (c / 2) : Nat)
def rectS (s : Sq) : Rc := ⟨plX s.b, plY s.b, plX s.b + (sideN s.d : Nat), plY s.b + (sideN s.d : Nat)⟩
theorem five {d : Nat} (h : d ≤ 4) : d = 0 ∨ d = 1 ∨ d = 2 ∨ d = 3 ∨ d = 4 := by omega
theorem sq_side (d b : Nat) (w : World) (hd : d ≤ 4) : Calls Tryz.prog 96 #[.agg #[.int .i64 (d : Nat), .int .u32 (b : Nat)]] w fun e w' => e = .returned (.int .i64 (sideN d : Nat)) ∧ Below w.heap.size w w' := by
  rcases five hd with rfl | rfl | rfl | rfl | rfl
  all_goals
    go_enter Tryz.func96, Tryz.ntmps96
    go_wp2
    go_ret
    exact ⟨rfl, below1 _ _⟩
theorem sq_end (d b : Nat) (w : World) (hd : d ≤ 4) (hb : b ≤ 100000) : Calls Tryz.prog 77 #[.agg #[.int .i64 (d : Nat), .int .u32 (b : Nat)]] w fun e w' => e = .returned (.int .u32 (endN ⟨d, b⟩ : Nat)) ∧ Below w.heap.size w w' := by
  have KT := grown_cells (new_at w (.cells #[.int .i64 (d : Nat), .int .u32 (b : Nat)] 96) _ rfl)
  have hs := fun w => sq_side d b w hd
  obtain ⟨m, hm⟩ : ∃ m, sideN d = m := ⟨_, rfl⟩
  have he : endN ⟨d, b⟩ = b + m * m := by unfold endN; simp only [hm]
  rw [he]
  rw [hm] at hs
  have hm2 : m ≤ 64 := by rw [← hm]; unfold sideN; exact Nat.div_le_self _ _
  have hmm : m * m ≤ 4096 := Nat.mul_le_mul hm2 hm2
  have hmz : (m : Int) * (m : Int) = ((m * m : Nat) : Int) := by simp
  obtain ⟨q, hq⟩ : ∃ q, m * m = q := ⟨_, rfl⟩
  rw [hq] at hmm hmz ⊢
  clear hm he hq
  go_enter Tryz.func77, Tryz.ntmps77
  go_wp2_with fail
  refine wp_region_quiet_below (by kernel_rfl) (by kernel_rfl) ?_
  repeat (first | go_big_quiet_skip | (go_big_quiet_want; go_big_quiet_op; first | go_big_quiet_on | go_big_quiet_call (exact Calls.regrown_of (hs _))))
  refine wpQuiet_nil ?_
  intro _ hw'
  obtain ⟨⟨dq, osq⟩, hw''⟩ := hw'
  subst hw''
  go_wp2
  go_ret
  exact ⟨by simp, below_on (below1 _ _) (below_regrown _ _ _)⟩
theorem quad_place (c : Nat) (hc : c < 4294967296) (w : World) (hM : Masks w) : Calls Tryz.prog 60 #[.int .u32 (c : Nat)] w fun e w' => e = .returned (pt (plX c) (plY c)) ∧ Below w.heap.size w w' := by
  have HM := hid (hM.below (below1 w (.cells #[.int .i64 0, .int .i64 0] 28)))
  clear hM
  have hc' : ((c : Int) : Int) = ((c : Nat) : Int) := rfl
  have e1 := gat_lt c
  have e2 := gat_lt (c / 2)
  have KN := hid (new_at w (.cells #[.int .i64 0, .int .i64 0] 28) _ rfl)
  unfold plX plY
  go_enter Tryz.func60, Tryz.ntmps60
  go_wp2_with fail
  refine (split_at c hc _ HM.out).mono ?_
  rintro x w2 ⟨rfl, hb2⟩
  have hK := cells_at (var_on hb2 KN.out (by simp))
  obtain ⟨x, hx⟩ : ∃ x, gat c = x := ⟨_, rfl⟩
  obtain ⟨y, hy⟩ : ∃ y, gat (c / 2) = y := ⟨_, rfl⟩
  rw [hx] at e1 ⊢
  rw [hy] at e2 ⊢
  go_wp2
  exact bodyPost_ret (v := pt x y) (by simp [results, Tryz.results60, go_sem, hK]) rfl ⟨by rw [hx, hy], by
    have := hb2.size
    simp at this
    exact ((below_on (below1 _ _) hb2).setCell (by simp) _).setCell (by simp) _⟩
theorem place_at {c : Nat} {x y : Int} (hc : c < 4294967296) (hx : Hid (plX c = x)) (hy : Hid (plY c = y)) (w : World) (hM : Masks w) : Calls Tryz.prog 60 #[.int .u32 (c : Nat)] w fun e w' => e = .returned (pt x y) ∧ Below w.heap.size w w' := by
  rw [← hx.out, ← hy.out]; exact quad_place c hc w hM
theorem pl_lt (c : Nat) : 0 ≤ plX c ∧ plX c < 65536 ∧ 0 ≤ plY c ∧ plY c < 65536 := by
  have e1 := gat_lt c
  have e2 := gat_lt (c / 2)
  unfold plX plY
  omega
theorem some_below {W w1 : World} {a : Addr} (hb : Below W.heap.size W w1) (h : (W.cell? a).isSome = true) : (w1.cell? a).isSome = true := by
  obtain ⟨v, hv⟩ := Option.isSome_iff_exists.1 h
  rw [cell_below hb hv]; rfl
theorem frozen_below {W w1 : World} {a : Addr} (hb : Below W.heap.size W w1) (h : W.frozen? a = false) (hc : (W.cell? a).isSome = true) : w1.frozen? a = false := by
  obtain ⟨v, hv⟩ := Option.isSome_iff_exists.1 hc
  rw [hb.frozen (World.block_lt_of_cell? W a hv)]; exact h
theorem frozen_at {W w1 : World} {a : Addr} {v : Value} (hb : Below W.heap.size W w1) (h : W.frozen? a = false) (hc : W.cell? a = some v) : w1.frozen? a = false := by
  rw [hb.frozen (World.block_lt_of_cell? W a hc)]; exact h
set_option maxHeartbeats 2000000 in
theorem sq_rect (d b : Nat) (w : World) (hM : Masks w) (hd : d ≤ 4) (hb : b ≤ 100000) : Calls Tryz.prog 74 #[.agg #[.int .i64 (d : Nat), .int .u32 (b : Nat)]] w fun e w' => e = .returned (rectS ⟨d, b⟩).v ∧ Below w.heap.size w w' := by
  obtain ⟨W0, hW0⟩ : ∃ W0, W0 = (w.alloc (.cells #[.int .i64 (d : Nat), .int .u32 (b : Nat)] 96)).alloc (.cells #[.int .i64 0, .int .i64 0, .int .i64 0, .int .i64 0] 35) := ⟨_, rfl⟩
  have hB0 : Below w.heap.size w W0 := by rw [hW0]; exact below_on (below1 _ _) (below1 _ _)
  have KB := hid (show W0.heap[w.heap.size]? = some (.cells #[.int .i64 (d : Nat), .int .u32 (b : Nat)] 96 (0, 0)) by rw [hW0]; exact old_at (new_at _ _ _ rfl) _)
  have KR := hid (show W0.heap[w.heap.size + 1]? = some (.cells #[.int .i64 0, .int .i64 0, .int .i64 0, .int .i64 0] 35 (0, 0)) by rw [hW0]; exact new_at _ _ _ (by simp))
  have HM := hid (hM.below hB0)
  clear hM
  have hs := fun w => sq_side d b w hd
  obtain ⟨m, hm⟩ : ∃ m, sideN d = m := ⟨_, rfl⟩
  have hm2 : m ≤ 64 := by rw [← hm]; unfold sideN; exact Nat.div_le_self _ _
  obtain ⟨h1, h2, h3, h4⟩ := pl_lt b
  obtain ⟨x, hx⟩ : ∃ x, Hid (plX b = x) := ⟨_, rfl⟩
  obtain ⟨y, hy⟩ : ∃ y, Hid (plY b = y) := ⟨_, rfl⟩
  have hres : (rectS ⟨d, b⟩).v = rc x y (x + (m : Int)) (y + (m : Int)) := by unfold rectS; simp only [hm, hx.out, hy.out]
  rw [hres]
  rw [hx.out] at h1 h2
  rw [hy.out] at h3 h4
  rw [hm] at hs
  clear hres hm
  have cB := cells_at KB.out
  go_enter Tryz.func74, Tryz.ntmps74
  go_wp2_with fail
  rw [← hW0]
  clear cB
  refine (place_at (by omega) hx hy _ HM.out).mono ?_
  rintro z w2 ⟨rfl, hb2⟩
  have hB2 := below_on hB0 hb2
  have hsz : w.heap.size + 2 ≤ w2.heap.size := by have := hb2.size; rw [hW0] at this; simpa using this
  have k1 := var_on hb2 KB.out (lt_of_at KB.out)
  have k2 := var_on hb2 KR.out (lt_of_at KR.out)
  clear hb2 hW0
  go_wp2_with fail
  obtain ⟨W3, hW3⟩ : ∃ W3, w2.alloc (.cells #[.int .i64 x, .int .i64 y] 28) = W3 := ⟨_, rfl⟩
  rw [hW3]
  have hB : Below w.heap.size w W3 := by rw [← hW3]; exact below_on hB2 (below1 _ _)
  have q1 := var2 (show W3.heap[w.heap.size]? = _ by rw [← hW3]; exact old_at k1 _)
  have q2 := var4 (show W3.heap[w.heap.size + 1]? = _ by rw [← hW3]; exact old_at k2 _)
  have q3 := var2 (show W3.heap[w2.heap.size]? = some (.cells #[.int .i64 x, .int .i64 y] 28 (0, 0)) by rw [← hW3]; exact new_at _ _ _ rfl)
  obtain ⟨c1, c2, -⟩ := q1
  obtain ⟨r1, r2, r3, r4, f1, f2, f3, f4⟩ := q2
  obtain ⟨p1, p2, -⟩ := q3
  clear hW3 k1 k2 hB2 KB KR HM
  have n1 : w2.heap.size ≠ w.heap.size + 1 := by omega
  have n2 : w2.heap.size ≠ w.heap.size := by omega
  have n3 : w.heap.size + 1 ≠ w2.heap.size := by omega
  go_region_held3 (fun w' => w'.cell? ⟨w.heap.size, 0, none⟩ = some (.int .i64 (d : Nat)) ∧ w'.cell? ⟨w.heap.size, 1, none⟩ = some (.int .u32 (b : Nat)) ∧ w'.cell? ⟨w2.heap.size, 0, none⟩ = some (.int .i64 x) ∧ w'.cell? ⟨w2.heap.size, 1, none⟩ = some (.int .i64 y))
    (first | go_keep | (go_split_ands; refine ⟨?_, ?_, ?_, ?_⟩ <;> exact cell_below hbK (by assumption)))
    (first
      | (go_at_call 96; refine (hs _).mono ?_; rintro z w1 ⟨rfl, hbK⟩; have hB : Below w.heap.size w w1 := (by first | exact below_on hB hbK | exact below_on hB.drew hbK)
         have f1 := frozen_at hbK f1 r1
         have f2 := frozen_at hbK f2 r2
         have f3 := frozen_at hbK f3 r3
         have f4 := frozen_at hbK f4 r4
         have r1 := cell_below hbK r1
         have r2 := cell_below hbK r2
         have r3 := cell_below hbK r3
         have r4 := cell_below hbK r4))
  have e1 : IntKind.i64.wrap (x + (m : Int)) = x + (m : Int) := by rw [IntKind.wrap_i64]; omega
  have e2 : IntKind.i64.wrap (y + (m : Int)) = y + (m : Int) := by rw [IntKind.wrap_i64]; omega
  all_goals
    go_wp2
    exact bodyPost_ret (v := rc x y (x + (m : Int)) (y + (m : Int))) (by simp [results, Tryz.results74, go_sem, *]) rfl ⟨rfl, below_set4 hB (by omega) _ _ _ _⟩
end Go.Proofs.YtildhbkcpehobaaGreatDoor
