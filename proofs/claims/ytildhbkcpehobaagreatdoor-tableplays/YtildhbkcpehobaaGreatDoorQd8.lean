/- Contracts of Depth, Len, New, Copy over this translation: each returns what the plain functions say, and changes nothing that was there. -/
import Derived.Test.YtildhbkcpehobaaGreatDoorQd6
namespace Go.Proofs.YtildhbkcpehobaaGreatDoor
open Go.RowKit
set_option linter.unusedVariables false
def maxD (T : List Sq) : Nat := T.foldl (fun a s => max a s.d) 0
/-- what Depth tells -/
def depN (S : List Sp) : Nat := maxD (lv S ⟨0, 0, 64, 64⟩ ⟨0, 0⟩)
theorem maxD_take {T : List Sq} {k : Nat} {s : Sq} (h : T[k]? = some s) : maxD (T.take (k + 1)) = max (maxD (T.take k)) s.d := by
  rw [List.take_add_one, h]
  simp [maxD]
theorem root_rect : rectS ⟨0, 0⟩ = ⟨0, 0, 64, 64⟩ := by
  have h1 : plX 0 = 0 := by decide +kernel
  have h2 : plY 0 = 0 := by decide +kernel
  unfold rectS
  simp only [h1, h2]
  rfl
theorem tree_len {w : World} {base tb : Nat} {v : Value} {S : List Sp} (h : Tr w base tb v S) :
    Calls Tryz.prog 46 #[.pointer (some ⟨tb, 0, none⟩)] w fun e w' => e = .returned (.int .i64 (S.length : Nat)) ∧ w' = w := by
  obtain ⟨p, cap, rfl, hr, hc, hm⟩ := h.row
  have hcell := (cells_at h.at_).1
  clear h hr
  obtain ⟨n, hn⟩ : ∃ n, S.length = n := ⟨_, rfl⟩
  rw [hn] at hcell ⊢
  clear hn
  go_enter Tryz.func46, Tryz.ntmps46
  go_wp2
  go_ret
  exact ⟨rfl, rfl⟩
theorem ob_nil : ob (.slice none 0 0) = [] := rfl
theorem tree_new (w : World) : Calls Tryz.prog 23 #[] w fun e w' => e = .returned (.pointer (some ⟨w.heap.size, 0, none⟩)) ∧ Tr w' w.heap.size w.heap.size (.slice none 0 0) [] ∧ Below w.heap.size w w' := by
  go_enter Tryz.func23, Tryz.ntmps23
  go_wp2
  go_ret
  exact ⟨rfl, ⟨new_at _ _ _ rfl, World.ownsRow_nil _ _ _ _, by rw [ob_nil]; simp, Nat.le_refl _⟩, below1 _ _⟩
theorem Tryz.info82 : (Tryz.prog.info? 82).map (fun i => (i.zero, i.size, i.bytes)) = some (some (.agg #[.int .i64 0, .int .u32 0]), 2, 16) := by kernel_rfl
theorem spots_cell (S : List Sp) : ∀ u ∈ flatG Sp.cs S, u.oneCell' = true := by
  intro u hu
  obtain ⟨a, _, hu⟩ := List.mem_flatMap.1 hu
  simp [Sp.cs] at hu
  rcases hu with rfl | rfl <;> rfl
theorem owns_read {base : Nat} {e : TypeId} {z : Nat} {g n cap : Nat} {xs : List Value} {w : World} (h : w.ownsRow base e z (.slice (some ⟨g, 0, none⟩) n cap) n xs) : ∀ j u, xs[j]? = some u → w.cell? ⟨g, j, none⟩ = some u := by
  intro j u hu
  rw [h.cellAt j (by have := (List.getElem?_eq_some_iff.1 hu).1; rw [h.1] at this; exact this)]
  exact hu
set_option maxHeartbeats 1000000 in
theorem clone_at {w : World} {base : Nat} {v : Value} {S : List Sp} (h : w.ownsRow base 82 2 v S.length (flatG Sp.cs S)) (hl : S.length ≤ 1000) :
    Calls Tryz.prog 42 #[v] w fun e w' => ∃ v', e = .returned v' ∧ w'.ownsRow w.heap.size 82 2 v' S.length (flatG Sp.cs S) ∧ Below w.heap.size w w' := by
  obtain ⟨i0, hi, hz0, hz1, hz2⟩ := info_parts3 Tryz.info82
  rcases h.2 with ⟨rfl, h2⟩ | ⟨g, cap, cur, rfl, h2, h3, h4, h5, h6, h7⟩
  · have hS : S = [] := List.length_eq_zero_iff.1 h2
    subst hS
    clear h
    have q57 : ∀ (w : World) (a : Option Addr) (n c n' c' : Nat), (binOp .eql 75 (.slice a n c) (.slice none n' c')).run Tryz.prog w = .ok (.bool a.isNone) w := fun w a n c n' c' => Lib.run_eql_slice_nil w _ _ a n c n' c' Tryz.underlying75
    go_enter Tryz.func42, Tryz.ntmps42
    go_wp2
    go_ret
    exact ⟨_, rfl, World.ownsRow_nil _ _ _ _, Below.refl _ _⟩
  · have A := hid (owns_read h)
    have hfl := hid h.1
    have h1c := hid (spots_cell S)
    clear h h3 h6 h7
    obtain ⟨n, hn⟩ : ∃ n, S.length = n := ⟨_, rfl⟩
    obtain ⟨X, hX⟩ : ∃ X, flatG Sp.cs S = X := ⟨_, rfl⟩
    rw [hn] at hl h4 hfl ⊢
    rw [hX] at A hfl h1c ⊢
    clear hn hX
    have q57 : ∀ (w : World) (a : Option Addr) (n c n' c' : Nat), (binOp .eql 75 (.slice a n c) (.slice none n' c')).run Tryz.prog w = .ok (.bool a.isNone) w := fun w a n c n' c' => Lib.run_eql_slice_nil w _ _ a n c n' c' Tryz.underlying75
    go_enter Tryz.func42, Tryz.ntmps42
    go_wp2_with (at_builtin; refine wpList_append_own _ rfl _ _ 75 rfl w.heap.size 82 i0 (.agg #[.int .i64 0, .int .u32 0]) 2 16 Tryz.underlying75 hi hz0 hz1 hz2 rfl (by decide) _ _ _ rfl (World.ownsRow_made w #[] 0 (Nat.le_refl _) (Nat.zero_le _) (by simp)) ⟨g, 0, none⟩ n cap X rfl hfl.out (fun j u hj => by rw [Addr.add_lit, Nat.zero_add]; exact cell_below (below1 _ _) (A.out j u hj)) h1c.out (by unfold maxLen; omega) (by omega) (by simp) ?_)
    intro v' w1 hown hgrow hnil
    go_wp2
    go_ret
    exact ⟨v', rfl, by simpa using hown, ((Below.refl _ w).alloc (Nat.le_refl _) _).grown hgrow (by simp) (by intro k hk; simp [Value.ownBlock] at hk; omega)⟩
theorem tree_copy {w : World} {base tb : Nat} {v : Value} {S : List Sp} (h : Tr w base tb v S) (hl : S.length ≤ 1000) :
    Calls Tryz.prog 26 #[.pointer (some ⟨tb, 0, none⟩)] w fun e w' => ∃ cb v', e = .returned (.pointer (some ⟨cb, 0, none⟩)) ∧ Tr w' w.heap.size cb v' S ∧ Below w.heap.size w w' := by
  have C := clone_at h.own hl
  have hcell := (cells_at h.at_).1
  have hv : ∃ p n c, v = .slice p n c := by
    obtain ⟨p, c, e⟩ := owns_slice h.own
    exact ⟨p, _, c, e⟩
  clear h
  obtain ⟨p, n, c, rfl⟩ := hv
  go_enter Tryz.func26, Tryz.ntmps26
  go_wp2_with fail
  refine C.mono ?_
  rintro x W1 ⟨v', rfl, hown, hb⟩
  clear C
  obtain ⟨p', c', rfl⟩ := owns_slice hown
  go_wp2
  go_ret
  refine ⟨W1.heap.size, _, rfl, ⟨new_at _ _ _ rfl, hown.alloc _, ?_, hb.size⟩, below_on hb (below1 _ _)⟩
  intro hm
  have := (hown.lt _ (mem_ob.1 hm)).2
  omega
end Go.Proofs.YtildhbkcpehobaaGreatDoor
