/- Contract of geom.Minus: a row of its own that holds what the plain function says, and nothing that was there before is changed. -/
import Derived.Test.YtkbfcmlchmgmnaaGeom
import Derived.Test.YtkbfcmlchmgmnaaGeomQ
namespace Go.Proofs.Ytkbfcmlchmgmnaa
open Go.RowKit
set_option linter.unusedVariables false
def RowOf (w : World) (l : List Rc) : Ending → World → Prop := fun e w' => ∃ v, e = .returned v ∧ w'.ownsRow w.heap.size 23 4 v l.length (flat l) ∧ Below w.heap.size w w'
def RowOfN (w : World) (l : List Rc) : Ending → World → Prop := fun e w' => ∃ v, e = .returned v ∧ w'.ownsRow w.heap.size 23 4 v l.length (flat l) ∧ Below w.heap.size w w' ∧ (l = [] → v = .slice none 0 0)
theorem Try.info23 : (Try.prog.info? 23).map (fun i => (i.zero, i.size, i.bytes)) = some (some (rc 0 0 0 0), 4, 32) := by kernel_rfl
theorem index_parts (a0 a1 a2 a3 m0 m1 m2 m3 : Int) (k : Nat) (hk : k < 4) : ∃ p0 p1 p2 p3 : Int, Hid ((partsL ⟨a0, a1, a2, a3⟩ ⟨m0, m1, m2, m3⟩)[k]? = some ⟨p0, p1, p2, p3⟩) ∧
    ∀ W : World, (Instr.index 39 (.agg #[.int .i64 a0, .int .i64 a1, .int .i64 a2, .int .i64 m1, .int .i64 a0, .int .i64 m3, .int .i64 a2, .int .i64 a3, .int .i64 a0, .int .i64 m1, .int .i64 m0, .int .i64 m3, .int .i64 m2, .int .i64 m1, .int .i64 a2, .int .i64 m3]) (.int .i64 k)).run Try.prog W = .ok (rc p0 p1 p2 p3) W := by
  have : k = 0 ∨ k = 1 ∨ k = 2 ∨ k = 3 := by omega
  rcases this with rfl | rfl | rfl | rfl
  · exact ⟨a0, a1, a2, m1, rfl, fun W => by kernel_rfl⟩
  · exact ⟨a0, m3, a2, a3, rfl, fun W => by kernel_rfl⟩
  · exact ⟨a0, m1, m0, m3, rfl, fun W => by kernel_rfl⟩
  · exact ⟨m2, m1, a2, m3, rfl, fun W => by kernel_rfl⟩
set_option maxHeartbeats 2000000 in
theorem geom_minus_n (w : World) (a0 a1 a2 a3 b0 b1 b2 b3 : Int) : Calls Try.prog 10 #[rc a0 a1 a2 a3, rc b0 b1 b2 b3] w (RowOfN w (minusL ⟨a0, a1, a2, a3⟩ ⟨b0, b1, b2, b3⟩)) := by
  obtain ⟨i0, hi, hz0, hz1, hz2⟩ := info_parts Try.info23
  obtain ⟨m0, m1, m2, m3, hm⟩ : ∃ m0 m1 m2 m3 : Int, Hid (meetR ⟨a0, a1, a2, a3⟩ ⟨b0, b1, b2, b3⟩ = ⟨m0, m1, m2, m3⟩) := ⟨_, _, _, _, rfl⟩
  obtain ⟨q, hq⟩ : ∃ q, Hid (emptyB ⟨m0, m1, m2, m3⟩ = q) := ⟨_, rfl⟩
  have hQ : ∀ W : World, (Op.equalIn 10000 23 (rc m0 m1 m2 m3) (rc 0 0 0 0)).run Try.prog W = .ok q W := fun W => by
    rw [equal_rc, ← hq.out, ← hm.out, meet_empty]
  unfold rc at hQ
  go_enter Try.func10, Try.ntmps10
  go_wp2_with fail
  go_at_call 16
  refine (geom_empty _ _ _ _ _).mono ?_
  rintro x w1 ⟨rfl, hb⟩
  have k0 : Hid (w1.heap[w.heap.size]? = some (ro a0 a1 a2 a3)) := var_on hb (by simp only [heap_alloc]; simp) (by simp; omega)
  have k1 : Hid (w1.heap[w.heap.size + 1]? = some (ro b0 b1 b2 b3)) := var_on hb (by simp only [heap_alloc]; simp) (by simp)
  have h0 := var4 k0.out
  have h1 := var4 k1.out
  have hB : Below w.heap.size w w1 := ((below1 _ _).alloc (by simp) _).trans (hb.mono (by simp; omega))
  have hl : w.heap.size + 1 < w1.heap.size := by have := hb.size; simp at this; omega
  clear hb
  cases hE : emptyB ⟨a0, a1, a2, a3⟩
  · go_wp2_with fail
    go_at_call 20
    refine (geom_meet_at hm _).mono ?_
    rintro x w2 ⟨rfl, hb⟩
    have h2 := var4 (var_on hb k0.out (by omega))
    have hB2 := below_on hB hb
    have hl0 : w.heap.size < w2.heap.size := Nat.lt_of_lt_of_le (by omega) hb.size
    clear k0 k1 h0 h1 hb hB hl
    have hs2 := hB2.size
    cases q
    · go_wp2_with fail
      have hB3 : Hid (Below w.heap.size w ((w2.alloc (ro m0 m1 m2 m3)).alloc (.cells #[.int .i64 a0, .int .i64 a1, .int .i64 a2, .int .i64 m1, .int .i64 a0, .int .i64 m3, .int .i64 a2, .int .i64 a3, .int .i64 a0, .int .i64 m1, .int .i64 m0, .int .i64 m3, .int .i64 m2, .int .i64 m1, .int .i64 a2, .int .i64 m3] 39))) := (hB2.alloc hs2 _).alloc (by simp; omega) _
      go_loopw [7, 58] (fun v i wr => ∃ (k : Nat) (L : List Rc), k ≤ 4 ∧ i = .int .i64 k ∧ Hid (L = kept ⟨a0, a1, a2, a3⟩ ⟨m0, m1, m2, m3⟩ k) ∧ wr.ownsRow w.heap.size 23 4 v L.length (flat L) ∧ Below w.heap.size w wr ∧ Hid (L = [] → v = .slice none 0 0)) (fun _ i _ => 4 - (intOf i).toNat)
      case atStart => exact ⟨0, [], by omega, rfl, rfl, World.ownsRow_nil _ _ _ _, hB3.out, fun _ => rfl⟩
      case round =>
        obtain ⟨k, L, hk, rfl, hL, ho, hb, hnil⟩ := hrel
        clear hB3 hB2 h2 hs2 hl0
        by_cases hlt : k < 4
        · have hlt' : (k : Int) < 4 := by omega
          have hn : L.length ≤ 4 := by rw [hL.out]; exact kept_le _ _ _
          obtain ⟨p0, p1, p2, p3, hp, hI⟩ := index_parts a0 a1 a2 a3 m0 m1 m2 m3 k hlt
          have hs := hb.size
          go_wp2_with fail
          go_at_call 16
          refine (geom_empty _ _ _ _ _).mono ?_
          rintro x w3 ⟨rfl, hb3⟩
          have ho3 := owns_on (ho.alloc _) hb3
          have hB4 := below_on (hb.alloc hs _) hb3
          have h9 := var4 (var_on (g := wr.heap.size) hb3 (heap_alloc_new _ _) (by simp))
          have hs3 := hB4.size
          clear hb3 ho hb
          cases hF : emptyB ⟨p0, p1, p2, p3⟩
          · go_wp2_with (at_builtin; refine wpList_append_lies _ rfl _ _ 28 rfl w.heap.size 23 i0 (rc 0 0 0 0) 4 32 Try.underlying28 hi hz0 hz1 hz2 rfl (by decide) _ _ _ rfl (ho3.alloc _) ⟨w3.heap.size, 0, none⟩ 1 1 [.int .i64 p0, .int .i64 p1, .int .i64 p2, .int .i64 p3] rfl rfl (World.news_of_block (heap_alloc_new _ _)) (by intro u hu; simp at hu; rcases hu with rfl | rfl | rfl | rfl <;> rfl) (by decide) (by unfold maxLen; omega) (by omega) (by simp; omega) (w3.heap.size + 1) (by simp) ?_)
            intro g cap w4 hown hgrow hat hg4
            go_wp2
            go_roundw
            case rel =>
              refine ⟨k + 1, L ++ [⟨p0, p1, p2, p3⟩], by omega, by go_num, ?_, ?_, ?_, fun h => by simp at h⟩
              · exact (congrArg (· ++ [(⟨p0, p1, p2, p3⟩ : Rc)]) hL.out).trans (kept_add hp.out hF).symm
              · rw [flat_append, flat_one, List.length_append]; exact hown
              · exact (hB4.alloc hs3 _).grown hgrow (by simp; omega) (fun k hk => (ho3.lt k hk).1)
            case measure => simp [intOf]; omega
          · go_wp2
            go_roundw
            case rel => exact ⟨k + 1, L, by omega, by go_num, hL.out.trans (kept_skip hp.out hF).symm, ho3, hB4, hnil.out⟩
            case measure => simp [intOf]; omega
        · have hk4 : k = 4 := by omega
          subst hk4
          go_wp2
          go_ret
          rw [minus_kept hE hm.out hq.out, ← hL.out]
          exact ⟨_, rfl, ho, hb, hnil.out⟩
    · go_wp2
      go_ret
      rw [minus_one hE hm.out hq.out]
      refine ⟨_, rfl, ?_, (hB2.alloc hs2 _).alloc (by simp; omega) _, fun h => by simp at h⟩
      have hlit := World.ownsRow_lit (base := w.heap.size) (e := 23) (size := 4) (w2.alloc (ro m0 m1 m2 m3)) #[.int .i64 a0, .int .i64 a1, .int .i64 a2, .int .i64 a3] 1 (by simp; omega) (by decide) rfl
      rw [World.size_alloc] at hlit
      exact hlit
  · go_wp2
    go_ret
    rw [minusL, if_pos hE]
    exact ⟨_, rfl, World.ownsRow_nil _ _ _ _, hB, fun _ => rfl⟩
theorem geom_minus (w : World) (a0 a1 a2 a3 b0 b1 b2 b3 : Int) : Calls Try.prog 10 #[rc a0 a1 a2 a3, rc b0 b1 b2 b3] w (RowOf w (minusL ⟨a0, a1, a2, a3⟩ ⟨b0, b1, b2, b3⟩)) :=
  (geom_minus_n w a0 a1 a2 a3 b0 b1 b2 b3).mono fun _ _ ⟨v, he, ho, hb, _⟩ => ⟨v, he, ho, hb⟩
theorem geom_minus_nil {a0 a1 a2 a3 b0 b1 b2 b3 : Int} (h : Hid (minusL ⟨a0, a1, a2, a3⟩ ⟨b0, b1, b2, b3⟩ = [])) (w : World) : Calls Try.prog 10 #[rc a0 a1 a2 a3, rc b0 b1 b2 b3] w fun e w' => e = .returned (.slice none 0 0) ∧ Below w.heap.size w w' :=
  (geom_minus_n w a0 a1 a2 a3 b0 b1 b2 b3).mono fun _ _ ⟨v, he, _, hb, hn⟩ => ⟨he.trans (congrArg Ending.returned (hn h.out)), hb⟩
end Go.Proofs.Ytkbfcmlchmgmnaa
