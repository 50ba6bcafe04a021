/- Contract of the reference's Minus: a row of its own that holds what the plain function says, and nothing that was there before is changed. -/
import Derived.Test.YtkbfcmlchmgmnaaGeomM
namespace Go.Proofs.Ytkbfcmlchmgmnaa
open Go.RowKit
set_option linter.unusedVariables false
theorem cell_parts {W : World} {g : Nat} {a0 a1 a2 a3 m0 m1 m2 m3 : Int} (h : W.heap[g]? = some (.cells #[.int .i64 a0, .int .i64 a1, .int .i64 a2, .int .i64 m1, .int .i64 a0, .int .i64 m3, .int .i64 a2, .int .i64 a3, .int .i64 a0, .int .i64 m1, .int .i64 m0, .int .i64 m3, .int .i64 m2, .int .i64 m1, .int .i64 a2, .int .i64 m3] 39 (0, 0))) (k : Nat) (hk : k < 4) :
    ∃ p0 p1 p2 p3 : Int, Hid ((partsL ⟨a0, a1, a2, a3⟩ ⟨m0, m1, m2, m3⟩)[k]? = some ⟨p0, p1, p2, p3⟩) ∧
    W.cell? ⟨g, k * 4, none⟩ = some (.int .i64 p0) ∧ W.cell? ⟨g, k * 4 + 1, none⟩ = some (.int .i64 p1) ∧ W.cell? ⟨g, k * 4 + 2, none⟩ = some (.int .i64 p2) ∧ W.cell? ⟨g, k * 4 + 3, none⟩ = some (.int .i64 p3) := by
  have : k = 0 ∨ k = 1 ∨ k = 2 ∨ k = 3 := by omega
  rcases this with rfl | rfl | rfl | rfl
  · exact ⟨a0, a1, a2, m1, rfl, Go.Joins.cell_of_block h 0, Go.Joins.cell_of_block h 1, Go.Joins.cell_of_block h 2, Go.Joins.cell_of_block h 3⟩
  · exact ⟨a0, m3, a2, a3, rfl, Go.Joins.cell_of_block h 4, Go.Joins.cell_of_block h 5, Go.Joins.cell_of_block h 6, Go.Joins.cell_of_block h 7⟩
  · exact ⟨a0, m1, m0, m3, rfl, Go.Joins.cell_of_block h 8, Go.Joins.cell_of_block h 9, Go.Joins.cell_of_block h 10, Go.Joins.cell_of_block h 11⟩
  · exact ⟨m2, m1, a2, m3, rfl, Go.Joins.cell_of_block h 12, Go.Joins.cell_of_block h 13, Go.Joins.cell_of_block h 14, Go.Joins.cell_of_block h 15⟩
set_option maxHeartbeats 2000000 in
theorem ref_minus (w : World) (a0 a1 a2 a3 b0 b1 b2 b3 : Int) : Calls Try.prog 11 #[rc a0 a1 a2 a3, rc b0 b1 b2 b3] w (RowOf w (minusL ⟨a0, a1, a2, a3⟩ ⟨b0, b1, b2, b3⟩)) := by
  obtain ⟨i0, hi, hz0, hz1, hz2⟩ := info_parts Try.info23
  obtain ⟨m0, m1, m2, m3, hm⟩ : ∃ m0 m1 m2 m3 : Int, Hid (meetR ⟨a0, a1, a2, a3⟩ ⟨b0, b1, b2, b3⟩ = ⟨m0, m1, m2, m3⟩) := ⟨_, _, _, _, rfl⟩
  go_enter Try.func11, Try.ntmps11
  go_wp2_with fail
  go_at_call 17
  refine (ref_empty _ _ _ _ _).mono ?_
  rintro x w1 ⟨rfl, hb⟩
  have k0 : Hid (w1.heap[w.heap.size]? = some (ro a0 a1 a2 a3)) := var_on hb (by simp only [heap_alloc]; simp) (by simp; omega)
  have k1 : Hid (w1.heap[w.heap.size + 1]? = some (ro b0 b1 b2 b3)) := var_on hb (by simp only [heap_alloc]; simp) (by simp)
  have h0 := var4 k0.out
  have h1 := var4 k1.out
  have hB : Below w.heap.size w w1 := ((below1 _ _).alloc (by simp) _).trans (hb.mono (by simp; omega))
  have hl : w.heap.size + 1 < w1.heap.size := by have := hb.size; simp at this; omega
  clear hb
  cases hE : emptyB ⟨a0, a1, a2, a3⟩
  · go_wp2_with fail
    go_at_call 21
    refine (ref_meet_at hm _).mono ?_
    rintro x w2 ⟨rfl, hb⟩
    have k2 : Hid (w2.heap[w.heap.size]? = some (ro a0 a1 a2 a3)) := var_on hb k0.out (by omega)
    have hB2 := below_on hB hb
    have hl0 : w.heap.size < w2.heap.size := Nat.lt_of_lt_of_le (by omega) hb.size
    clear k0 k1 h0 h1 hb hB hl
    have hs2 := hB2.size
    go_wp2_with fail
    go_at_call 17
    refine (ref_empty _ _ _ _ _).mono ?_
    rintro x w3 ⟨rfl, hb⟩
    have h5 := var4 (var_on (g := w2.heap.size) hb (heap_alloc_new _ _) (by simp))
    have h2 := var4 (var_on (g := w.heap.size) (o := ro a0 a1 a2 a3) hb (by rw [heap_alloc, if_neg (by omega)]; exact k2.out) (by simp; omega))
    have hB3 := below_on (hB2.alloc hs2 _) hb
    have hs3 := hB3.size
    clear hb hB2 k2
    cases hq : emptyB ⟨m0, m1, m2, m3⟩
    · go_wp2_with fail
      have hB4 : Hid (Below w.heap.size w (w3.alloc (.cells #[.int .i64 a0, .int .i64 a1, .int .i64 a2, .int .i64 m1, .int .i64 a0, .int .i64 m3, .int .i64 a2, .int .i64 a3, .int .i64 a0, .int .i64 m1, .int .i64 m0, .int .i64 m3, .int .i64 m2, .int .i64 m1, .int .i64 a2, .int .i64 m3] 39))) := hB3.alloc hs3 _
      go_loopw [7, 8] (fun v i wr => ∃ (k : Nat) (L : List Rc), k ≤ 4 ∧ i = .int .i64 k ∧ Hid (L = kept ⟨a0, a1, a2, a3⟩ ⟨m0, m1, m2, m3⟩ k) ∧ wr.ownsRow (w3.heap.size + 1) 23 4 v L.length (flat L) ∧ Hid (wr.heap[w3.heap.size]? = some (.cells #[.int .i64 a0, .int .i64 a1, .int .i64 a2, .int .i64 m1, .int .i64 a0, .int .i64 m3, .int .i64 a2, .int .i64 a3, .int .i64 a0, .int .i64 m1, .int .i64 m0, .int .i64 m3, .int .i64 m2, .int .i64 m1, .int .i64 a2, .int .i64 m3] 39 (0, 0))) ∧ Below w.heap.size w wr) (fun _ i _ => 4 - (intOf i).toNat)
      case atStart => exact ⟨0, [], by omega, rfl, rfl, World.ownsRow_nil _ _ _ _, heap_alloc_new _ _, hB4.out⟩
      case round =>
        obtain ⟨k, L, hk, rfl, hL, ho, hA, hb⟩ := hrel
        clear hB4 hB3 h2 h5
        by_cases hlt : k < 4
        · have hlt' : (k : Int) < 4 := by omega
          have hlt0 : (0 : Int) ≤ (k : Int) := by omega
          have hn : L.length ≤ 4 := by rw [hL.out]; exact kept_le _ _ _
          obtain ⟨p0, p1, p2, p3, hp, hc⟩ := cell_parts hA.out k hlt
          have hs := hb.size
          have hw3 : w3.heap.size < wr.heap.size := (Array.getElem?_eq_some_iff.1 hA.out).1
          go_wp2_with fail
          go_at_call 17
          refine (ref_empty _ _ _ _ _).mono ?_
          rintro x w4 ⟨rfl, hb4⟩
          have ho4 := owns_on ho hb4
          have hB5 := below_on hb hb4
          have hA4 : Hid (w4.heap[w3.heap.size]? = some (.cells #[.int .i64 a0, .int .i64 a1, .int .i64 a2, .int .i64 m1, .int .i64 a0, .int .i64 m3, .int .i64 a2, .int .i64 a3, .int .i64 a0, .int .i64 m1, .int .i64 m0, .int .i64 m3, .int .i64 m2, .int .i64 m1, .int .i64 a2, .int .i64 m3] 39 (0, 0))) := var_on hb4 hA.out hw3
          have hs4 := hB5.size
          have hw4 : w3.heap.size < w4.heap.size := Nat.lt_of_lt_of_le hw3 hb4.size
          obtain ⟨q0, q1, q2, q3, hq', hc'⟩ := cell_parts hA4.out k hlt
          have eq' : q0 = p0 ∧ q1 = p1 ∧ q2 = p2 ∧ q3 = p3 := by
            have := hq'.out.symm.trans hp.out
            simpa using this
          obtain ⟨rfl, rfl, rfl, rfl⟩ := eq'
          clear hb4 ho hb hc hq'
          cases hF : emptyB ⟨q0, q1, q2, q3⟩
          · go_wp2_with (at_builtin; refine wpList_append_lies _ rfl _ _ 28 rfl (w3.heap.size + 1) 23 i0 (rc 0 0 0 0) 4 32 Try.underlying28 hi hz0 hz1 hz2 rfl (by decide) _ _ _ rfl (ho4.alloc _) ⟨w4.heap.size, 0, none⟩ 1 1 [.int .i64 q0, .int .i64 q1, .int .i64 q2, .int .i64 q3] rfl rfl (World.news_of_block (heap_alloc_new _ _)) (by intro u hu; simp at hu; rcases hu with rfl | rfl | rfl | rfl <;> rfl) (by decide) (by unfold maxLen; omega) (by omega) (by simp; omega) (w4.heap.size + 1) (by simp) ?_)
            intro g cap w5 hown hgrow hat hg4
            go_wp2
            go_roundw
            case rel =>
              refine ⟨k + 1, L ++ [⟨q0, q1, q2, q3⟩], by omega, by go_num, ?_, ?_, ?_, ?_⟩
              · exact (congrArg (· ++ [(⟨q0, q1, q2, q3⟩ : Rc)]) hL.out).trans (kept_add hp.out hF).symm
              · rw [flat_append, flat_one, List.length_append]; exact hown
              · show _ = _
                rw [hgrow.block w3.heap.size (by simp; omega) (fun e => by have := (ho4.lt _ e.symm).1; omega), heap_alloc, if_neg (by omega)]
                exact hA4.out
              · exact (hB5.alloc hs4 _).grown hgrow (by simp; omega) (fun k hk => by have := (ho4.lt k hk).1; omega)
            case measure => simp [intOf]; omega
          · go_wp2
            go_roundw
            case rel => exact ⟨k + 1, L, by omega, by go_num, hL.out.trans (kept_skip hp.out hF).symm, ho4, hA4, hB5⟩
            case measure => simp [intOf]; omega
        · have hk4 : k = 4 := by omega
          subst hk4
          go_wp2
          go_ret
          refine ⟨_, rfl, ?_, hb⟩
          rw [minus_kept hE hm.out hq, ← hL.out]
          exact Go.Joins.ownsRow_le ho (by omega)
    · go_wp2
      go_ret
      refine ⟨_, rfl, ?_, hB3.alloc hs3 _⟩
      rw [minus_one hE hm.out hq]
      exact World.ownsRow_lit (base := w.heap.size) (e := 23) (size := 4) w3 #[.int .i64 a0, .int .i64 a1, .int .i64 a2, .int .i64 a3] 1 hs3 (by decide) rfl
  · go_wp2
    go_ret
    refine ⟨_, rfl, ?_, hB⟩
    rw [minusL, if_pos hE]
    exact World.ownsRow_nil _ _ _ _
end Go.Proofs.Ytkbfcmlchmgmnaa
