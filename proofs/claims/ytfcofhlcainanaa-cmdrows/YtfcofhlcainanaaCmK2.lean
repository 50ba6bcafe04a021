/- Contract of rest of the package cmd, for a CMove. -/
import Derived.Test.YtfcofhlcainanaaCmK
namespace Go.Proofs.Ytfcofhlcainanaa
open Go.RowKit
set_option linter.unusedVariables false
set_option maxHeartbeats 4000000 in
theorem rest2 {w : World} {g : Nat} {c : Cm} (h : w.heap[g]? = some c.o) (hk : c.kd = 2) :
    Calls Try.prog 25 #[.pointer (some ⟨g, 0, none⟩)] w fun e w' => ∃ v, e = .returned v ∧ RowP w' w.heap.size g v (restP 2) ∧ Below w.heap.size w w' := by
  obtain ⟨i0, hi, hz0, hz1, hz2⟩ := info_parts Try.infoPt
  have hg : g < w.heap.size := at_lt h
  have hc : w.cell? ⟨g, 0, none⟩ = some (.int .i64 2) := by rw [cell_i h (k := 0) (.inl rfl)]; simp only [Cm.i, hk]
  obtain ⟨W, hW⟩ : ∃ W, W = (w.alloc (numO g 1 0 1000000)).alloc (numO g 2 (-1) 100) := ⟨_, rfl⟩
  have hB : Below w.heap.size w W := by rw [hW]; exact Go.Joins.below_alloc2 _ _ _
  have hN : W.heap[w.heap.size]? = some (numO g 1 0 1000000) := by rw [hW]; exact old_at (new_at _ _ _ rfl) _
  have hlt : w.heap.size < W.heap.size := at_lt hN
  go_enter Try.func25, Try.ntmps25
  go_upto_region 7 with fail
  rw [← hW]
  have hgW : g < W.heap.size := by omega
  have hwW : w.heap.size ≤ W.heap.size := hB.size
  clear hW hc h
  have n0 : W.cell? ⟨w.heap.size, 0, none⟩ = some (.pointer (some ⟨g, 1, none⟩)) := Go.Joins.cell_of_block hN 0
  have n1 : W.cell? ⟨w.heap.size, 1, none⟩ = some (.int .i64 0) := Go.Joins.cell_of_block hN 1
  have n2 : W.cell? ⟨w.heap.size, 2, none⟩ = some (.int .i64 1000000) := Go.Joins.cell_of_block hN 2
  clear hN
  go_region_held3 (fun w' => w'.cell? ⟨w.heap.size, 0, none⟩ = some (.pointer (some ⟨g, 1, none⟩)) ∧ w'.cell? ⟨w.heap.size, 1, none⟩ = some (.int .i64 0) ∧ w'.cell? ⟨w.heap.size, 2, none⟩ = some (.int .i64 1000000))
    (first | go_keep | (go_split_ands; refine ⟨?_, ?_, ?_⟩ <;> exact cell_below hbK (by assumption)) | (rw [hfar, hfar, hfar]; go_split_ands; first | exact ⟨by assumption, by assumption, by assumption⟩ | go_keep))
    (first
      | (go_at_call 26
         refine (cmd_place (w := ((W.alloc (.cells #[Pa.v g (.num 1 0 1000000)] 50)).alloc (.cells #[.pointer (some ⟨g, 4, none⟩), .pointer (some ⟨g, 5, none⟩)] 60)).drew) (g := g) (ks := [4, 5]) (drew_at (new_at _ _ _ (by simp))) (by decide)).mono ?_
         rintro x w1 ⟨v1, rfl, hp1, hbK⟩
         have hB0 := ((hB.alloc hwW (.cells #[Pa.v g (.num 1 0 1000000)] 50)).alloc (by simp; omega) (.cells #[.pointer (some ⟨g, 4, none⟩), .pointer (some ⟨g, 5, none⟩)] 60)).drew
         have hB1 : Below w.heap.size w w1 := below_on hB0 hbK
         have hp1 := hp1.mono (base' := W.heap.size) (by simp only [World.size_drew, World.size_alloc]; omega)
         have hs1 : W.heap.size ≤ w1.heap.size := by have := hbK.size; simp at this; omega
         have hC1 : w1.heap[W.heap.size]? = some (.cells #[Pa.v g (.num 1 0 1000000)] 50) := var_on hbK (drew_at (old_at (new_at _ _ _ rfl) _)) (by simp; omega))
      | (go_at_call 26
         refine (cmd_place (w := ((W.alloc (.cells #[.pointer (some ⟨g, 4, none⟩), .pointer (some ⟨g, 5, none⟩)] 60)).alloc (.cells #[Pa.v g (.num 1 0 1000000)] 50)).drew) (g := g) (ks := [4, 5]) (drew_at (old_at (new_at _ _ _ rfl) _)) (by decide)).mono ?_
         rintro x w1 ⟨v1, rfl, hp1, hbK⟩
         have hB0 := ((hB.alloc hwW (.cells #[.pointer (some ⟨g, 4, none⟩), .pointer (some ⟨g, 5, none⟩)] 60)).alloc (by simp; omega) (.cells #[Pa.v g (.num 1 0 1000000)] 50)).drew
         have hB1 : Below w.heap.size w w1 := below_on hB0 hbK
         have hp1 := hp1.mono (base' := W.heap.size) (by simp only [World.size_drew, World.size_alloc]; omega)
         have hs1 : W.heap.size ≤ w1.heap.size := by have := hbK.size; simp at this; omega
         have hC1 : w1.heap[W.heap.size + 1]? = some (.cells #[Pa.v g (.num 1 0 1000000)] 50) := var_on hbK (drew_at (new_at _ _ _ (by simp))) (by simp))
      | (go_at_call 26
         refine (cmd_place (w := (W.alloc (.cells #[.pointer (some ⟨g, 4, none⟩), .pointer (some ⟨g, 5, none⟩)] 60)).drew) (g := g) (ks := [4, 5]) (drew_at (new_at _ _ _ rfl)) (by decide)).mono ?_
         rintro x w1 ⟨v1, rfl, hp1, hbK⟩
         have hB0 := (hB.alloc hwW (.cells #[.pointer (some ⟨g, 4, none⟩), .pointer (some ⟨g, 5, none⟩)] 60)).drew
         have hB1 : Below w.heap.size w w1 := below_on hB0 hbK
         have hp1 := hp1.mono (base' := W.heap.size) (by simp only [World.size_drew, World.size_alloc]; omega)
         have hs1 : W.heap.size ≤ w1.heap.size := by have := hbK.size; simp at this; omega)
      | (refine step_append_lies _ rfl (.tmp 45) (.tmp 48) 46 rfl W.heap.size 50 i0 .nilIface 1 16 Try.underlying46 hi hz0 hz1 hz2 rfl (by decide) v1 2 ([Pa.num 4 (-1000) 1000, Pa.num 5 (-1000) 1000].map (Pa.v g)) (by simp [Act.eval]) hp1 ⟨W.heap.size, 0, none⟩ 1 1 ([Pa.num 1 0 1000000].map (Pa.v g)) (by simp [Act.eval]) rfl (World.news_of_block hC1) (parts_cell _ _) (by decide) (by decide) (by decide) hs1 _ rfl ?_
         intro g3 cp3 w3 hown hgrow hat hg3
         have hB3 := hB1.grown hgrow (by omega) (fun k hk => by have := (hp1.lt k hk).1; omega)
         have hne : some w.heap.size ≠ v1.ownBlock := fun e => by have := (hp1.lt _ e.symm).1; omega
         have hfar := fun i => hgrow.cell_far ⟨w.heap.size, i, none⟩ (by simp; omega) hne)
      | (refine step_append_lies _ rfl (.tmp 45) (.tmp 48) 46 rfl W.heap.size 50 i0 .nilIface 1 16 Try.underlying46 hi hz0 hz1 hz2 rfl (by decide) v1 2 ([Pa.num 4 (-1000) 1000, Pa.num 5 (-1000) 1000].map (Pa.v g)) (by simp [Act.eval]) hp1 ⟨W.heap.size + 1, 0, none⟩ 1 1 ([Pa.num 1 0 1000000].map (Pa.v g)) (by simp [Act.eval]) rfl (World.news_of_block hC1) (parts_cell _ _) (by decide) (by decide) (by decide) hs1 _ rfl ?_
         intro g3 cp3 w3 hown hgrow hat hg3
         have hB3 := hB1.grown hgrow (by omega) (fun k hk => by have := (hp1.lt k hk).1; omega)
         have hne : some w.heap.size ≠ v1.ownBlock := fun e => by have := (hp1.lt _ e.symm).1; omega
         have hfar := fun i => hgrow.cell_far ⟨w.heap.size, i, none⟩ (by simp; omega) hne)
      | (refine step_append_lies _ rfl (.tmp 45) (.tmp 48) 46 rfl W.heap.size 50 i0 .nilIface 1 16 Try.underlying46 hi hz0 hz1 hz2 rfl (by decide) v1 2 ([Pa.num 4 (-1000) 1000, Pa.num 5 (-1000) 1000].map (Pa.v g)) (by simp [Act.eval]) (hp1.alloc (.cells #[Pa.v g (.num 1 0 1000000)] 50)) ⟨w1.heap.size, 0, none⟩ 1 1 ([Pa.num 1 0 1000000].map (Pa.v g)) (by simp [Act.eval]) rfl (World.news_of_block (new_at w1 (.cells #[Pa.v g (.num 1 0 1000000)] 50) _ rfl)) (parts_cell _ _) (by decide) (by decide) (by decide) (by simp; omega) _ rfl ?_
         intro g3 cp3 w3 hown hgrow hat hg3
         have hB3 := (hB1.alloc (by omega) (.cells #[Pa.v g (.num 1 0 1000000)] 50)).grown hgrow (by simp; omega) (fun k hk => by have := (hp1.lt k hk).1; omega)
         have hne : some w.heap.size ≠ v1.ownBlock := fun e => by have := (hp1.lt _ e.symm).1; omega
         have hfar := fun i => hgrow.cell_far ⟨w.heap.size, i, none⟩ (by simp; omega) hne))
  all_goals
    go_wp2_with fail
    go_ret
    exact ⟨_, rfl, row_joined (L := [Pa.num 4 (-1000) 1000, Pa.num 5 (-1000) 1000]) (M := [Pa.num 1 0 1000000]) (owns_mono hown (by omega)) rfl rfl, hB3⟩
end Go.Proofs.Ytfcofhlcainanaa
