/- Contracts of the lists of parts of the package cmd, first part. -/
import Derived.Test.YtpedngbjpbeanaaGreatDoorCA
import Derived.Deep.AppendLies
import Derived.Deep.Upon
import Derived.Deep.RegionHeld3
namespace Go.Proofs.YtpedngbjpbeanaaGreatDoor
section
open Go.RowKit
set_option linter.unusedVariables false
set_option maxRecDepth 100000
theorem Tryz.infoPt : (Tryz.prog.info? 133).map (fun i => (i.zero, i.size, i.bytes)) = some (some .nilIface, 1, 16) := by kernel_rfl
/-- a row of parts that the call made -/
def RowP (W : World) (base g : Nat) (v : Value) (L : List Pa) : Prop := W.ownsRow base 133 1 v L.length (L.map (Pa.v g))
theorem RowP.on {W W' : World} {base g : Nat} {v : Value} {L : List Pa} (h : RowP W base g v L) (hb : Below W.heap.size W W') : RowP W' base g v L := owns_on h hb
theorem onePa_cell (p : Pa) (g : Nat) : ∀ u ∈ [p.v g], u.oneCell' = true := by
  intro u hu
  simp only [List.mem_singleton] at hu
  subst hu
  cases p <;> rfl
set_option maxHeartbeats 1000000 in
theorem cmd_place {w : World} {g b : Nat} {ks : List Nat} {cap : Nat} {ty : TypeId} {fr : Nat × Nat} (hb : w.heap[b]? = some (.cells (ks.map fun k => Value.pointer (some ⟨g, k, none⟩)).toArray ty fr)) (hl : ks.length ≤ 4) :
    Calls Tryz.prog 88 #[.slice (some ⟨b, 0, none⟩) ks.length cap] w fun e w' => ∃ v, e = .returned v ∧ RowP w' w.heap.size g v (ks.map fun k => .num k (-1000) 1000) ∧ Below w.heap.size w w' := by
  obtain ⟨i0, hi, hz0, hz1, hz2⟩ := info_parts Tryz.infoPt
  obtain ⟨n, hn⟩ : ∃ n, Hid (ks.length = n) := ⟨_, rfl⟩
  have h : ∀ j k, ks[j]? = some k → w.cell? ⟨b, j, none⟩ = some (.pointer (some ⟨g, k, none⟩)) := fun j k hk => by
    rw [Go.Joins.cell_of_block hb]
    simp [hk]
  have HR := hid h
  clear h hb
  rw [hn.out]
  rw [hn.out] at hl
  go_enter Tryz.func88, Tryz.ntmps88
  go_wp2_with fail
  go_loopw [3, 8] (fun l i wr => ∃ k : Nat, k ≤ n ∧ i = .int .i64 k ∧ wr.ownsRow w.heap.size 133 1 l k ((ks.take k).map fun k => Pa.v g (.num k (-1000) 1000)) ∧ Below w.heap.size w wr) (fun _ i _ => n - (intOf i).toNat)
  case atStart => exact ⟨0, by omega, rfl, World.ownsRow_nil _ _ _ _, Below.refl _ _⟩
  case round =>
    obtain ⟨k, hk, rfl, ho, hb⟩ := hrel
    obtain ⟨p, cp, rfl⟩ := owns_slice ho
    by_cases hlt : k < n
    · have hlt' : (k : Int) < (n : Int) := by omega
      obtain ⟨a, ha⟩ : ∃ a, ks[k]? = some a := ⟨ks[k]'(by rw [hn.out]; exact hlt), by simp⟩
      have hc := cell_below hb (HR.out k a ha)
      have HA := hid ha
      clear ha
      go_wp2_with (at_builtin; refine wpList_append_lies _ rfl _ _ 129 rfl w.heap.size 133 i0 .nilIface 1 16 Tryz.underlying129 hi hz0 hz1 hz2 rfl (by decide) _ _ _ rfl (ho.alloc _) ⟨wr.heap.size, 0, none⟩ 1 1 [Pa.v g (.num a (-1000) 1000)] rfl rfl (World.news_of_block (heap_alloc_new _ _)) (onePa_cell _ _) (by decide) (by unfold maxLen; omega) (by omega) (by have := hb.size; simp; omega) (wr.heap.size + 1) (by simp) ?_)
      intro g' cap' w4 hown hgrow hat hg4
      go_wp2_with fail
      go_roundw
      case rel =>
        refine ⟨k + 1, by omega, by go_num, ?_, (hb.alloc (by have := hb.size; omega) _).grown hgrow (by have := hb.size; simp; omega) (fun k hk => by have := (ho.lt k hk).1; omega)⟩
        rw [List.take_add_one, HA.out]
        simpa using hown
      case measure => simp [intOf]; omega
    · obtain rfl : k = n := by omega
      have hlt' : ¬ (k : Int) < (k : Int) := by omega
      go_wp2_with fail
      go_ret
      refine ⟨_, rfl, ?_, hb⟩
      rw [List.take_of_length_le (by rw [hn.out]; omega)] at ho
      unfold RowP
      rw [List.length_map, hn.out, List.map_map]
      exact ho
set_option maxHeartbeats 2000000 in
theorem cmd_head {w : World} {g : Nat} (hg : g < w.heap.size) :
    Calls Tryz.prog 74 #[.pointer (some ⟨g, 0, none⟩)] w fun e w' => ∃ p cap, e = .returned (.slice p 3 cap) ∧ RowP w' w.heap.size g (.slice p 3 cap) headP ∧ Below w.heap.size w w' := by
  go_enter Tryz.func74, Tryz.ntmps74
  go_wp2_with fail
  go_region
  go_wp2_with fail
  go_ret
  exact ⟨_, _, rfl, World.ownsRow_lit (base := w.heap.size) (e := 133) (size := 1) w.drew #[Pa.v g (.num 0 1 8), Pa.v g (.num 16 0 3), Pa.v g (.num 17 0 1000000)] 3 (Nat.le_refl _) (by decide) rfl, (below1 _ _).drew⟩
set_option maxHeartbeats 2000000 in
theorem cmd_record {w : World} {g : Nat} (hg : g < w.heap.size) :
    Calls Tryz.prog 89 #[.pointer (some ⟨g, 6, none⟩)] w fun e w' => ∃ p cap, e = .returned (.slice p 4 cap) ∧ RowP w' w.heap.size g (.slice p 4 cap) [.fld 6, .fld 8, .fld 10, .fld 12] ∧ Below w.heap.size w w' := by
  obtain ⟨i0, hi, hz0, hz1, hz2⟩ := info_parts Tryz.infoPt
  go_enter Tryz.func89, Tryz.ntmps89
  go_wp2_with fail
  go_loopw [3, 5] (fun l i wr => ∃ k : Nat, k ≤ 4 ∧ i = .int .i64 k ∧ wr.ownsRow w.heap.size 133 1 l k (([.fld 6, .fld 8, .fld 10, .fld 12].take k).map (Pa.v g)) ∧ Below w.heap.size w wr) (fun _ i _ => 4 - (intOf i).toNat)
  case atStart => exact ⟨0, by omega, rfl, World.ownsRow_nil _ _ _ _, Below.refl _ _⟩
  case round =>
    obtain ⟨k, hk, rfl, ho, hb⟩ := hrel
    obtain ⟨p, cp, rfl⟩ := owns_slice ho
    obtain rfl | rfl | rfl | rfl | rfl : k = 0 ∨ k = 1 ∨ k = 2 ∨ k = 3 ∨ k = 4 := by omega
    · go_wp2_with (at_builtin; refine wpList_append_lies _ rfl _ _ 129 rfl w.heap.size 133 i0 .nilIface 1 16 Tryz.underlying129 hi hz0 hz1 hz2 rfl (by decide) _ _ _ rfl (ho.alloc _) ⟨wr.heap.size, 0, none⟩ 1 1 [Pa.v g (.fld 6)] rfl rfl (World.news_of_block (heap_alloc_new _ _)) (onePa_cell _ _) (by decide) (by unfold maxLen; omega) (by omega) (by have := hb.size; simp; omega) (wr.heap.size + 1) (by simp) ?_)
      intro g' cap' w4 hown hgrow hat hg4
      go_wp2_with fail
      go_roundw
      case rel => exact ⟨1, by omega, rfl, hown, (hb.alloc (by have := hb.size; omega) _).grown hgrow (by have := hb.size; simp; omega) (fun k hk => by have := (ho.lt k hk).1; omega)⟩
      case measure => simp [intOf]
    · go_wp2_with (at_builtin; refine wpList_append_lies _ rfl _ _ 129 rfl w.heap.size 133 i0 .nilIface 1 16 Tryz.underlying129 hi hz0 hz1 hz2 rfl (by decide) _ _ _ rfl (ho.alloc _) ⟨wr.heap.size, 0, none⟩ 1 1 [Pa.v g (.fld 8)] rfl rfl (World.news_of_block (heap_alloc_new _ _)) (onePa_cell _ _) (by decide) (by unfold maxLen; omega) (by omega) (by have := hb.size; simp; omega) (wr.heap.size + 1) (by simp) ?_)
      intro g' cap' w4 hown hgrow hat hg4
      go_wp2_with fail
      go_roundw
      case rel => exact ⟨2, by omega, rfl, hown, (hb.alloc (by have := hb.size; omega) _).grown hgrow (by have := hb.size; simp; omega) (fun k hk => by have := (ho.lt k hk).1; omega)⟩
      case measure => simp [intOf]
    · go_wp2_with (at_builtin; refine wpList_append_lies _ rfl _ _ 129 rfl w.heap.size 133 i0 .nilIface 1 16 Tryz.underlying129 hi hz0 hz1 hz2 rfl (by decide) _ _ _ rfl (ho.alloc _) ⟨wr.heap.size, 0, none⟩ 1 1 [Pa.v g (.fld 10)] rfl rfl (World.news_of_block (heap_alloc_new _ _)) (onePa_cell _ _) (by decide) (by unfold maxLen; omega) (by omega) (by have := hb.size; simp; omega) (wr.heap.size + 1) (by simp) ?_)
      intro g' cap' w4 hown hgrow hat hg4
      go_wp2_with fail
      go_roundw
      case rel => exact ⟨3, by omega, rfl, hown, (hb.alloc (by have := hb.size; omega) _).grown hgrow (by have := hb.size; simp; omega) (fun k hk => by have := (ho.lt k hk).1; omega)⟩
      case measure => simp [intOf]
    · go_wp2_with (at_builtin; refine wpList_append_lies _ rfl _ _ 129 rfl w.heap.size 133 i0 .nilIface 1 16 Tryz.underlying129 hi hz0 hz1 hz2 rfl (by decide) _ _ _ rfl (ho.alloc _) ⟨wr.heap.size, 0, none⟩ 1 1 [Pa.v g (.fld 12)] rfl rfl (World.news_of_block (heap_alloc_new _ _)) (onePa_cell _ _) (by decide) (by unfold maxLen; omega) (by omega) (by have := hb.size; simp; omega) (wr.heap.size + 1) (by simp) ?_)
      intro g' cap' w4 hown hgrow hat hg4
      go_wp2_with fail
      go_roundw
      case rel => exact ⟨4, by omega, rfl, hown, (hb.alloc (by have := hb.size; omega) _).grown hgrow (by have := hb.size; simp; omega) (fun k hk => by have := (ho.lt k hk).1; omega)⟩
      case measure => simp [intOf]
    · go_wp2_with fail
      go_ret
      exact ⟨_, _, rfl, ho, hb⟩
end
section
open Go.RowKit
set_option linter.unusedVariables false
set_option maxRecDepth 100000
theorem owns_mono {w : World} {base base' : Nat} {e : TypeId} {size : Nat} {v : Value} {n : Nat} {xs : List Value} (h : w.ownsRow base e size v n xs) (hb : base' ≤ base) : w.ownsRow base' e size v n xs := by
  refine ⟨h.1, ?_⟩
  rcases h.2 with h0 | ⟨g, cap, cur, h1, h2, h3⟩
  · exact .inl h0
  · exact .inr ⟨g, cap, cur, h1, by omega, h3⟩
theorem RowP.mono {w : World} {base base' g : Nat} {v : Value} {L : List Pa} (h : RowP w base g v L) (hb : base' ≤ base) : RowP w base' g v L := owns_mono h hb
theorem ownsP_some {W : World} {base : Nat} {e : TypeId} {size : Nat} {p : Option Addr} {n cap : Nat} {xs : List Value} (h : W.ownsRow base e size (.slice p n cap) n xs) (hn : 0 < n) : ∃ g, p = some ⟨g, 0, none⟩ ∧ base ≤ g ∧ g < W.heap.size ∧ n ≤ cap ∧ cap ≤ maxLen := by
  rcases h.2 with ⟨_, h2⟩ | ⟨g, cap', cur, h1, h2, h3, h4, h5, h6, h7⟩
  · omega
  · simp only [Value.slice.injEq] at h1
    obtain ⟨rfl, _, rfl⟩ := h1
    exact ⟨g, rfl, h2, at_lt h3, h4, h5⟩
theorem drew_at {W : World} {g : Nat} {p : Option Obj} (h : W.heap[g]? = p) : W.drew.heap[g]? = p := h
theorem parts_cell (g : Nat) (L : List Pa) : ∀ u ∈ L.map (Pa.v g), u.oneCell' = true := by
  intro u hu
  obtain ⟨a, _, rfl⟩ := List.mem_map.1 hu
  cases a <;> rfl
theorem app_len {α : Type} (L M : List α) (n m : Nat) (h1 : n = L.length) (h2 : m = M.length) : n + m = (L ++ M).length := by rw [List.length_append, h1, h2]
theorem row_joined {w : World} {base g n m : Nat} {v : Value} {L M : List Pa} (h : w.ownsRow base 133 1 v (n + m) (L.map (Pa.v g) ++ M.map (Pa.v g))) (h1 : n = L.length) (h2 : m = M.length) : RowP w base g v (L ++ M) := by
  unfold RowP
  rw [List.map_append, List.length_append, ← h1, ← h2]
  exact h
set_option maxHeartbeats 4000000 in
theorem rest1 {w : World} {g : Nat} {c : Cm} (h : w.heap[g]? = some c.o) (hk : c.kd = 1) :
    Calls Tryz.prog 75 #[.pointer (some ⟨g, 0, none⟩)] w fun e w' => ∃ v, e = .returned v ∧ RowP w' w.heap.size g v (restP 1) ∧ Below w.heap.size w w' := by
  obtain ⟨i0, hi, hz0, hz1, hz2⟩ := info_parts Tryz.infoPt
  have hg : g < w.heap.size := at_lt h
  have hc : w.cell? ⟨g, 0, none⟩ = some (.int .i64 1) := by rw [cell_i h (k := 0) (.inl rfl)]; simp only [Cm.i, hk]
  obtain ⟨W, hW⟩ : ∃ W, W = (w.alloc (numO g 1 0 1000000)).alloc (numO g 2 (-1) 100) := ⟨_, rfl⟩
  have hB : Below w.heap.size w W := by rw [hW]; exact Go.Joins.below_alloc2 _ _ _
  go_enter Tryz.func75, Tryz.ntmps75
  go_upto_region 5 with fail
  rw [← hW]
  have hgW : g < W.heap.size := by have := hB.size; omega
  have hwW : w.heap.size ≤ W.heap.size := hB.size
  clear hW hc h
  go_region_held3 (fun _ => True) (trivial)
    (first
      | (go_at_call 88
         refine (cmd_place (g := g) (ks := [4, 5]) (drew_at (new_at _ _ _ rfl)) (by decide)).mono ?_
         rintro x w1 ⟨v1, rfl, hp1, hb1⟩
         have hB0 := (hB.alloc hwW (.cells #[.pointer (some ⟨g, 4, none⟩), .pointer (some ⟨g, 5, none⟩)] 88)).drew
         have hB1 : Below w.heap.size w w1 := below_on hB0 hb1
         have hp1 := hp1.mono hB0.size
         have hg1 : g < w1.heap.size := by have := hB1.size; omega
         have hs1 : w.heap.size ≤ w1.heap.size := hB1.size)
      | (go_at_call 89
         refine (cmd_record hg1).mono ?_
         rintro x w2 ⟨p2, cp2, rfl, hp2, hb2⟩
         have hB2 : Below w.heap.size w w2 := below_on hB1 hb2
         obtain ⟨g2, rfl, -⟩ := ownsP_some hp2 (by decide)
         have hp1 := hp1.on hb2
         have hs2 : w.heap.size ≤ w2.heap.size := hB2.size)
      | (refine step_append_lies _ rfl (.tmp 28) (.tmp 32) 129 rfl w.heap.size 133 i0 .nilIface 1 16 Tryz.underlying129 hi hz0 hz1 hz2 rfl (by decide) v1 2 ([Pa.num 4 (-1000) 1000, Pa.num 5 (-1000) 1000].map (Pa.v g)) (by simp [Act.eval]) hp1 ⟨g2, 0, none⟩ 4 cp2 ([Pa.fld 6, .fld 8, .fld 10, .fld 12].map (Pa.v g)) (by simp [Act.eval]) rfl (hp2.cells rfl) (parts_cell _ _) (by decide) (by decide) (by decide) hs2 _ rfl ?_
         intro g3 cp3 w3 hown hgrow hat hg3))
  all_goals
    go_wp2_with fail
    go_ret
    exact ⟨_, rfl, row_joined (L := [Pa.num 4 (-1000) 1000, Pa.num 5 (-1000) 1000]) (M := [Pa.fld 6, .fld 8, .fld 10, .fld 12]) hown rfl rfl, hB2.grown hgrow hs2 (fun k hk => by have := (hp1.lt k hk).1; omega)⟩
end
section
open Go.RowKit
set_option linter.unusedVariables false
set_option maxRecDepth 100000
set_option maxHeartbeats 4000000 in
theorem rest2 {w : World} {g : Nat} {c : Cm} (h : w.heap[g]? = some c.o) (hk : c.kd = 2) :
    Calls Tryz.prog 75 #[.pointer (some ⟨g, 0, none⟩)] w fun e w' => ∃ v, e = .returned v ∧ RowP w' w.heap.size g v (restP 2) ∧ Below w.heap.size w w' := by
  obtain ⟨i0, hi, hz0, hz1, hz2⟩ := info_parts Tryz.infoPt
  have hg : g < w.heap.size := at_lt h
  have hc : w.cell? ⟨g, 0, none⟩ = some (.int .i64 2) := by rw [cell_i h (k := 0) (.inl rfl)]; simp only [Cm.i, hk]
  obtain ⟨W, hW⟩ : ∃ W, W = (w.alloc (numO g 1 0 1000000)).alloc (numO g 2 (-1) 100) := ⟨_, rfl⟩
  have hB : Below w.heap.size w W := by rw [hW]; exact Go.Joins.below_alloc2 _ _ _
  have hN : W.heap[w.heap.size]? = some (numO g 1 0 1000000) := by rw [hW]; exact old_at (new_at _ _ _ rfl) _
  have hlt : w.heap.size < W.heap.size := at_lt hN
  go_enter Tryz.func75, Tryz.ntmps75
  go_upto_region 7 with fail
  rw [← hW]
  have hgW : g < W.heap.size := by omega
  have hwW : w.heap.size ≤ W.heap.size := hB.size
  clear hW hc h
  have n0 : W.cell? ⟨w.heap.size, 0, none⟩ = some (.pointer (some ⟨g, 1, none⟩)) := Go.Joins.cell_of_block hN 0
  have n1 : W.cell? ⟨w.heap.size, 1, none⟩ = some (.int .i64 0) := Go.Joins.cell_of_block hN 1
  have n2 : W.cell? ⟨w.heap.size, 2, none⟩ = some (.int .i64 1000000) := Go.Joins.cell_of_block hN 2
  clear hN
  go_region_held3 (fun w' => w'.cell? ⟨w.heap.size, 0, none⟩ = some (.pointer (some ⟨g, 1, none⟩)) ∧ w'.cell? ⟨w.heap.size, 1, none⟩ = some (.int .i64 0) ∧ w'.cell? ⟨w.heap.size, 2, none⟩ = some (.int .i64 1000000))
    (first | go_keep | (go_split_ands; refine ⟨?_, ?_, ?_⟩ <;> exact cell_below hbK (by assumption)) | (rw [hfar, hfar, hfar]; go_split_ands; first | exact ⟨by assumption, by assumption, by assumption⟩ | go_keep))
    (first
      | (go_at_call 88
         refine (cmd_place (w := ((W.alloc (.cells #[Pa.v g (.num 1 0 1000000)] 133)).alloc (.cells #[.pointer (some ⟨g, 4, none⟩), .pointer (some ⟨g, 5, none⟩)] 88)).drew) (g := g) (ks := [4, 5]) (drew_at (new_at _ _ _ (by simp))) (by decide)).mono ?_
         rintro x w1 ⟨v1, rfl, hp1, hbK⟩
         have hB0 := ((hB.alloc hwW (.cells #[Pa.v g (.num 1 0 1000000)] 133)).alloc (by simp; omega) (.cells #[.pointer (some ⟨g, 4, none⟩), .pointer (some ⟨g, 5, none⟩)] 88)).drew
         have hB1 : Below w.heap.size w w1 := below_on hB0 hbK
         have hp1 := hp1.mono (base' := W.heap.size) (by simp only [World.size_drew, World.size_alloc]; omega)
         have hs1 : W.heap.size ≤ w1.heap.size := by have := hbK.size; simp at this; omega
         have hC1 : w1.heap[W.heap.size]? = some (.cells #[Pa.v g (.num 1 0 1000000)] 133) := var_on hbK (drew_at (old_at (new_at _ _ _ rfl) _)) (by simp; omega))
      | (go_at_call 88
         refine (cmd_place (w := ((W.alloc (.cells #[.pointer (some ⟨g, 4, none⟩), .pointer (some ⟨g, 5, none⟩)] 88)).alloc (.cells #[Pa.v g (.num 1 0 1000000)] 133)).drew) (g := g) (ks := [4, 5]) (drew_at (old_at (new_at _ _ _ rfl) _)) (by decide)).mono ?_
         rintro x w1 ⟨v1, rfl, hp1, hbK⟩
         have hB0 := ((hB.alloc hwW (.cells #[.pointer (some ⟨g, 4, none⟩), .pointer (some ⟨g, 5, none⟩)] 88)).alloc (by simp; omega) (.cells #[Pa.v g (.num 1 0 1000000)] 133)).drew
         have hB1 : Below w.heap.size w w1 := below_on hB0 hbK
         have hp1 := hp1.mono (base' := W.heap.size) (by simp only [World.size_drew, World.size_alloc]; omega)
         have hs1 : W.heap.size ≤ w1.heap.size := by have := hbK.size; simp at this; omega
         have hC1 : w1.heap[W.heap.size + 1]? = some (.cells #[Pa.v g (.num 1 0 1000000)] 133) := var_on hbK (drew_at (new_at _ _ _ (by simp))) (by simp))
      | (go_at_call 88
         refine (cmd_place (w := (W.alloc (.cells #[.pointer (some ⟨g, 4, none⟩), .pointer (some ⟨g, 5, none⟩)] 88)).drew) (g := g) (ks := [4, 5]) (drew_at (new_at _ _ _ rfl)) (by decide)).mono ?_
         rintro x w1 ⟨v1, rfl, hp1, hbK⟩
         have hB0 := (hB.alloc hwW (.cells #[.pointer (some ⟨g, 4, none⟩), .pointer (some ⟨g, 5, none⟩)] 88)).drew
         have hB1 : Below w.heap.size w w1 := below_on hB0 hbK
         have hp1 := hp1.mono (base' := W.heap.size) (by simp only [World.size_drew, World.size_alloc]; omega)
         have hs1 : W.heap.size ≤ w1.heap.size := by have := hbK.size; simp at this; omega)
      | (refine step_append_lies _ rfl (.tmp 45) (.tmp 48) 129 rfl W.heap.size 133 i0 .nilIface 1 16 Tryz.underlying129 hi hz0 hz1 hz2 rfl (by decide) v1 2 ([Pa.num 4 (-1000) 1000, Pa.num 5 (-1000) 1000].map (Pa.v g)) (by simp [Act.eval]) hp1 ⟨W.heap.size, 0, none⟩ 1 1 ([Pa.num 1 0 1000000].map (Pa.v g)) (by simp [Act.eval]) rfl (World.news_of_block hC1) (parts_cell _ _) (by decide) (by decide) (by decide) hs1 _ rfl ?_
         intro g3 cp3 w3 hown hgrow hat hg3
         have hB3 := hB1.grown hgrow (by omega) (fun k hk => by have := (hp1.lt k hk).1; omega)
         have hne : some w.heap.size ≠ v1.ownBlock := fun e => by have := (hp1.lt _ e.symm).1; omega
         have hfar := fun i => hgrow.cell_far ⟨w.heap.size, i, none⟩ (by simp; omega) hne)
      | (refine step_append_lies _ rfl (.tmp 45) (.tmp 48) 129 rfl W.heap.size 133 i0 .nilIface 1 16 Tryz.underlying129 hi hz0 hz1 hz2 rfl (by decide) v1 2 ([Pa.num 4 (-1000) 1000, Pa.num 5 (-1000) 1000].map (Pa.v g)) (by simp [Act.eval]) hp1 ⟨W.heap.size + 1, 0, none⟩ 1 1 ([Pa.num 1 0 1000000].map (Pa.v g)) (by simp [Act.eval]) rfl (World.news_of_block hC1) (parts_cell _ _) (by decide) (by decide) (by decide) hs1 _ rfl ?_
         intro g3 cp3 w3 hown hgrow hat hg3
         have hB3 := hB1.grown hgrow (by omega) (fun k hk => by have := (hp1.lt k hk).1; omega)
         have hne : some w.heap.size ≠ v1.ownBlock := fun e => by have := (hp1.lt _ e.symm).1; omega
         have hfar := fun i => hgrow.cell_far ⟨w.heap.size, i, none⟩ (by simp; omega) hne)
      | (refine step_append_lies _ rfl (.tmp 45) (.tmp 48) 129 rfl W.heap.size 133 i0 .nilIface 1 16 Tryz.underlying129 hi hz0 hz1 hz2 rfl (by decide) v1 2 ([Pa.num 4 (-1000) 1000, Pa.num 5 (-1000) 1000].map (Pa.v g)) (by simp [Act.eval]) (hp1.alloc (.cells #[Pa.v g (.num 1 0 1000000)] 133)) ⟨w1.heap.size, 0, none⟩ 1 1 ([Pa.num 1 0 1000000].map (Pa.v g)) (by simp [Act.eval]) rfl (World.news_of_block (new_at w1 (.cells #[Pa.v g (.num 1 0 1000000)] 133) _ rfl)) (parts_cell _ _) (by decide) (by decide) (by decide) (by simp; omega) _ rfl ?_
         intro g3 cp3 w3 hown hgrow hat hg3
         have hB3 := (hB1.alloc (by omega) (.cells #[Pa.v g (.num 1 0 1000000)] 133)).grown hgrow (by simp; omega) (fun k hk => by have := (hp1.lt k hk).1; omega)
         have hne : some w.heap.size ≠ v1.ownBlock := fun e => by have := (hp1.lt _ e.symm).1; omega
         have hfar := fun i => hgrow.cell_far ⟨w.heap.size, i, none⟩ (by simp; omega) hne))
  all_goals
    go_wp2_with fail
    go_ret
    exact ⟨_, rfl, row_joined (L := [Pa.num 4 (-1000) 1000, Pa.num 5 (-1000) 1000]) (M := [Pa.num 1 0 1000000]) (owns_mono hown (by omega)) rfl rfl, hB3⟩
end
end Go.Proofs.YtpedngbjpbeanaaGreatDoor
