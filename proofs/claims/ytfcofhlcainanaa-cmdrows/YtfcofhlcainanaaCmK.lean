/- Contracts of rest and parts of the package cmd. -/
import Derived.Test.YtfcofhlcainanaaCmL
namespace Go.Proofs.Ytfcofhlcainanaa
open Go.RowKit
set_option linter.unusedVariables false
theorem owns_mono {w : World} {base base' : Nat} {e : TypeId} {size : Nat} {v : Value} {n : Nat} {xs : List Value} (h : w.ownsRow base e size v n xs) (hb : base' ≤ base) : w.ownsRow base' e size v n xs := by
  refine ⟨h.1, ?_⟩
  rcases h.2 with h0 | ⟨g, cap, cur, h1, h2, h3⟩
  · exact .inl h0
  · exact .inr ⟨g, cap, cur, h1, by omega, h3⟩
theorem RowP.mono {w : World} {base base' g : Nat} {v : Value} {L : List Pa} (h : RowP w base g v L) (hb : base' ≤ base) : RowP w base' g v L := owns_mono h hb
theorem owns_some {W : World} {base : Nat} {e : TypeId} {size : Nat} {p : Option Addr} {n cap : Nat} {xs : List Value} (h : W.ownsRow base e size (.slice p n cap) n xs) (hn : 0 < n) : ∃ g, p = some ⟨g, 0, none⟩ ∧ base ≤ g ∧ g < W.heap.size ∧ n ≤ cap ∧ cap ≤ maxLen := by
  rcases h.2 with ⟨_, h2⟩ | ⟨g, cap', cur, h1, h2, h3, h4, h5, h6, h7⟩
  · omega
  · simp only [Value.slice.injEq] at h1
    obtain ⟨rfl, _, rfl⟩ := h1
    exact ⟨g, rfl, h2, at_lt h3, h4, h5⟩
theorem drew_at {W : World} {g : Nat} {p : Option Obj} (h : W.heap[g]? = p) : W.drew.heap[g]? = p := h
theorem parts_cell (g : Nat) (L : List Pa) : ∀ u ∈ L.map (Pa.v g), u.oneCell' = true := by
  intro u hu
  obtain ⟨a, _, rfl⟩ := List.mem_map.1 hu
  cases a <;> rfl
theorem app_len {α : Type} (L M : List α) (n m : Nat) (h1 : n = L.length) (h2 : m = M.length) : n + m = (L ++ M).length := by rw [List.length_append, h1, h2]
theorem row_joined {w : World} {base g n m : Nat} {v : Value} {L M : List Pa} (h : w.ownsRow base 50 1 v (n + m) (L.map (Pa.v g) ++ M.map (Pa.v g))) (h1 : n = L.length) (h2 : m = M.length) : RowP w base g v (L ++ M) := by
  unfold RowP
  rw [List.map_append, List.length_append, ← h1, ← h2]
  exact h
set_option maxHeartbeats 4000000 in
theorem rest1 {w : World} {g : Nat} {c : Cm} (h : w.heap[g]? = some c.o) (hk : c.kd = 1) :
    Calls Try.prog 25 #[.pointer (some ⟨g, 0, none⟩)] w fun e w' => ∃ v, e = .returned v ∧ RowP w' w.heap.size g v (restP 1) ∧ Below w.heap.size w w' := by
  obtain ⟨i0, hi, hz0, hz1, hz2⟩ := info_parts Try.infoPt
  have hg : g < w.heap.size := at_lt h
  have hc : w.cell? ⟨g, 0, none⟩ = some (.int .i64 1) := by rw [cell_i h (k := 0) (.inl rfl)]; simp only [Cm.i, hk]
  obtain ⟨W, hW⟩ : ∃ W, W = (w.alloc (numO g 1 0 1000000)).alloc (numO g 2 (-1) 100) := ⟨_, rfl⟩
  have hB : Below w.heap.size w W := by rw [hW]; exact Go.Joins.below_alloc2 _ _ _
  go_enter Try.func25, Try.ntmps25
  go_upto_region 5 with fail
  rw [← hW]
  have hgW : g < W.heap.size := by have := hB.size; omega
  have hwW : w.heap.size ≤ W.heap.size := hB.size
  clear hW hc h
  go_region_held3 (fun _ => True) (trivial)
    (first
      | (go_at_call 26
         refine (cmd_place (g := g) (ks := [4, 5]) (drew_at (new_at _ _ _ rfl)) (by decide)).mono ?_
         rintro x w1 ⟨v1, rfl, hp1, hb1⟩
         have hB0 := (hB.alloc hwW (.cells #[.pointer (some ⟨g, 4, none⟩), .pointer (some ⟨g, 5, none⟩)] 60)).drew
         have hB1 : Below w.heap.size w w1 := below_on hB0 hb1
         have hp1 := hp1.mono hB0.size
         have hg1 : g < w1.heap.size := by have := hB1.size; omega
         have hs1 : w.heap.size ≤ w1.heap.size := hB1.size)
      | (go_at_call 27
         refine (cmd_record hg1).mono ?_
         rintro x w2 ⟨p2, cp2, rfl, hp2, hb2⟩
         have hB2 : Below w.heap.size w w2 := below_on hB1 hb2
         obtain ⟨g2, rfl, -⟩ := owns_some hp2 (by decide)
         have hp1 := hp1.on hb2
         have hs2 : w.heap.size ≤ w2.heap.size := hB2.size)
      | (refine step_append_lies _ rfl (.tmp 28) (.tmp 32) 46 rfl w.heap.size 50 i0 .nilIface 1 16 Try.underlying46 hi hz0 hz1 hz2 rfl (by decide) v1 2 ([Pa.num 4 (-1000) 1000, Pa.num 5 (-1000) 1000].map (Pa.v g)) (by simp [Act.eval]) hp1 ⟨g2, 0, none⟩ 4 cp2 ([Pa.fld 6, .fld 8, .fld 10, .fld 12].map (Pa.v g)) (by simp [Act.eval]) rfl (hp2.cells rfl) (parts_cell _ _) (by decide) (by decide) (by decide) hs2 _ rfl ?_
         intro g3 cp3 w3 hown hgrow hat hg3))
  all_goals
    go_wp2_with fail
    go_ret
    exact ⟨_, rfl, row_joined (L := [Pa.num 4 (-1000) 1000, Pa.num 5 (-1000) 1000]) (M := [Pa.fld 6, .fld 8, .fld 10, .fld 12]) hown rfl rfl, hB2.grown hgrow hs2 (fun k hk => by have := (hp1.lt k hk).1; omega)⟩
end Go.Proofs.Ytfcofhlcainanaa
