/- Contract of slices.Insert at spots over this translation, of one element ahead of another, where there is room: the row that it leaves; nothing else that was there is changed. -/
import Derived.Test.YtildhbkcpehobaaGreatDoorQdI
namespace Go.Proofs.YtildhbkcpehobaaGreatDoor
open Go.RowKit
set_option linter.unusedVariables false
theorem insS_flat (S : List Sp) (i : Nat) (s : Sp) : flatG Sp.cs (insS S i s) = flatG Sp.cs (S.take i) ++ (Sp.cs s ++ flatG Sp.cs (S.drop i)) := by
  unfold insS
  rw [flatG_append]
  rfl
/-- a row behind two stores: what stood from i on one place further, then s at i -/
theorem shift_row (A B R Y L1 L2 : List Value) (a b : Nat) (hA : A.length = a) (hB : B.length = b) (hY : Y.length = 2) (h1 : L1 = (A ++ (B ++ R)).take (a + 2) ++ B ++ (A ++ (B ++ R)).drop (a + 2 + B.length)) (h2 : L2 = L1.take a ++ Y ++ L1.drop (a + Y.length)) (hR : 2 ≤ R.length) :
    L2.take (a + 2 + b) = A ++ (Y ++ B) := by
  have l1 : ((A ++ (B ++ R)).take (a + 2)).length = a + 2 := by
    rw [List.length_take, List.length_append, List.length_append]; omega
  have e1 : L1.take a = A := by
    rw [h1, List.append_assoc, List.take_append_of_le_length (by omega), List.take_take, Nat.min_eq_left (by omega), List.take_append_of_le_length (by omega), List.take_of_length_le (by omega)]
  have e2 : L1.drop (a + Y.length) = B ++ (A ++ (B ++ R)).drop (a + 2 + B.length) := by
    rw [h1, hY, List.append_assoc, List.drop_append_of_le_length (by omega), List.drop_of_length_le (by omega), List.nil_append]
  rw [h2, e1, e2, ← List.append_assoc, List.append_assoc A, List.append_assoc A]
  have : (A ++ (Y ++ B) ++ (A ++ (B ++ R)).drop (a + 2 + B.length)).take (a + 2 + b) = A ++ (Y ++ B) := by
    rw [List.take_append_of_le_length (by rw [List.length_append, List.length_append]; omega), List.take_of_length_le (by rw [List.length_append, List.length_append]; omega)]
  simpa [List.append_assoc] using this
set_option maxHeartbeats 4000000 in
set_option maxRecDepth 100000 in
theorem insert_shift {w : World} {base vb i g cap : Nat} {S : List Sp} {s : Sp} (h : w.ownsRow base 82 2 (.slice (some ⟨g, 0, none⟩) S.length cap) S.length (flatG Sp.cs S)) (hl : S.length ≤ 1000) (hi : i < S.length) (hroom : S.length + 1 ≤ cap) (hv : w.heap[vb]? = some (.cells #[.int .i64 s.id, .int .u32 (s.c : Nat)] 82 (0, 0))) (hne : vb ≠ g) (hbase : base ≤ w.heap.size) :
    Calls Tryz.prog 65 #[.slice (some ⟨g, 0, none⟩) S.length cap, .int .i64 (i : Nat), .slice (some ⟨vb, 0, none⟩) 1 1] w (InsPost w base (.slice (some ⟨g, 0, none⟩) S.length cap) S i s) := by
  rcases h.2 with ⟨h1, h2⟩ | ⟨g', cap', cur, h1, h2, h3, h4, h5, h6, h7⟩
  · omega
  · simp only [Value.slice.injEq, Option.some.injEq, Addr.mk.injEq, and_true, true_and] at h1
    obtain ⟨rfl, rfl⟩ := h1
    obtain ⟨n, hn⟩ : ∃ n, S.length = n := ⟨_, rfl⟩
    have hi' : i < n := by rw [← hn]; exact hi
    have hr' : n + 1 ≤ cap := by rw [← hn]; exact hroom
    have hcap : cap ≤ 9223372036854775807 := by unfold maxLen at h5; omega
    obtain ⟨B, hB⟩ : ∃ B, B = flatG Sp.cs (S.drop i) := ⟨_, rfl⟩
    have hBl : B.length = (n - i) * 2 := by rw [hB, flatG_length Sp.z, List.length_drop, hn]
    have hBd : (flatG Sp.cs S).drop (i * 2) = B := by rw [flatG_drop Sp.z, hB]
    have hread := owns_read h
    have hcellS : ∀ j, j < cap * 2 → (w.cell? ⟨g, j, none⟩).isSome = true := fun j hj => by
      rw [Go.Joins.cell_of_block h3 j, Array.getElem?_eq_getElem (by rw [h6]; exact hj)]; rfl
    have hfz : ∀ j, w.frozen? ⟨g, j, none⟩ = false := fun j => Go.Joins.unfrozen_of_block h3 j
    have hB1 : ∀ u ∈ B, u.oneCell' = true := by rw [hB]; exact spots_cell _
    have hVr : ∀ j u, (Sp.cs s)[j]? = some u → w.cell? ((⟨vb, 0, none⟩ : Addr).add j) = some u := World.news_of_block hv
    have hs1 : ∀ u ∈ Sp.cs s, u.oneCell' = true := by rw [← flatG_one Sp.cs s]; exact spots_cell _
    obtain ⟨W1, hW1⟩ : ∃ W1, W1 = w.drew.setCells g ((i + 1) * 2) B := ⟨_, rfl⟩
    have hcp1 : ∀ ty dc sc, (Builtin.copy_ #[75, 75] ty #[.slice (some ⟨g, (i + 1) * 2, none⟩) (n + 1 - (i + 1)) dc, .slice (some ⟨g, i * 2, none⟩) (n + 1 - i) sc]).run Tryz.prog w.drew = .ok (goInt ((n - i : Nat) : Int)) W1 := fun ty dc sc => by
      rw [hW1]
      exact run_copy_z w.drew 75 75 ty 82 2 g ((i + 1) * 2) (n + 1 - (i + 1)) dc ⟨g, i * 2, none⟩ (n + 1 - i) sc (n - i) B Tryz.underlying75 Tryz.map82 (by simp only [Nat.min_def]; split <;> omega) hBl
        (fun j u hj => by
          rw [Addr.add_lit]
          refine hread _ _ ?_
          rw [← hBd, List.getElem?_drop] at hj
          exact hj)
        (fun j hj => hcellS _ (by rw [hBl] at hj; omega)) (fun j hj => hfz _) hB1
    have hcp2 : ∀ (W : World), (∀ x, W.cell? x = W1.cell? x) → (∀ x, W.frozen? x = W1.frozen? x) → ∀ ty dc, (Builtin.copy_ #[75, 75] ty #[.slice (some ⟨g, i * 2, none⟩) (n + 1 - i) dc, .slice (some ⟨vb, 0, none⟩) 1 1]).run Tryz.prog W = .ok (goInt 1) (W.setCells g (i * 2) (Sp.cs s)) := fun W hWc hWf ty dc =>
      run_copy_z W 75 75 ty 82 2 g (i * 2) (n + 1 - i) dc ⟨vb, 0, none⟩ 1 1 1 (Sp.cs s) Tryz.underlying75 Tryz.map82 (by simp only [Nat.min_def]; split <;> omega) rfl
        (fun j u hj => by
          rw [hWc, hW1, Addr.add_lit, World.cell?_setCells_out g _ _ _ _ (fun h _ => absurd h hne)]
          have := hVr j u hj
          rwa [Addr.add_lit] at this)
        (fun j hj => by
          have hj' : j < 2 := hj
          rw [hWc, hW1]
          exact isSome_setCells g B ((i + 1) * 2) w.drew (fun t ht => hcellS ((i + 1) * 2 + t) (by rw [hBl] at ht; omega)) (i * 2 + j) (hcellS (i * 2 + j) (by omega)))
        (fun j hj => by rw [hWf, hW1, World.frozen?_setCells]; exact hfz _) hs1
    have hov : ∀ lb cb, (callFunc 79 #[.slice (some ⟨vb, 0, none⟩) 1 1, .slice (some ⟨g, (i + 1) * 2, none⟩) lb cb]).run Tryz.prog w = .ok (.value (.bool false)) w := fun lb cb => by
      rw [run_callFunc_extern Tryz.func79 (by kernel_rfl) (by kernel_rfl) (by kernel_rfl) (e := Extern.SlicesOverlaps.overlaps #[75, 75] #[4]) (by kernel_rfl),
        Lib.run_overlaps_apart w 75 4 82 Tryz.underlying75 2 Tryz.size82 ⟨vb, 0, none⟩ ⟨g, (i + 1) * 2, none⟩ 1 1 lb cb hne 82 82 2 (cap * 2) (by simp [World.shape?, hv]) (by simp [World.shape?, h3, h6]) (by omega) (Go.Joins.unfrozen_of_block hv 0) (Go.Joins.unfrozen_of_block hv 2)]
      rfl
    have FIN : Hid (∀ W2 : World, W2 = W1.setCells g (i * 2) (Sp.cs s) → InsPost w base (.slice (some ⟨g, 0, none⟩) S.length cap) S i s (.returned (.slice (some ⟨g, 0, none⟩) (n + 1) cap)) W2) := fun W2 hW2 => by
      obtain ⟨cur1, b1, b2⟩ := setCells_block g (e := 82) (fr := (0, 0)) B ((i + 1) * 2) w.drew cur h3 (by rw [hBl, h6]; omega)
      have hc0 : cur.toList.length = cap * 2 := by simpa using h6
      have hc1 : cur1.toList.length = cap * 2 := by
        rw [b2, List.length_append, List.length_append, List.length_take, List.length_drop, hBl]; omega
      have hcs1 : cur1.size = cap * 2 := by simpa using hc1
      obtain ⟨cur2, c1, c2⟩ := setCells_block g (e := 82) (fr := (0, 0)) (Sp.cs s) (i * 2) W1 cur1 (by rw [hW1]; exact b1) (by rw [hcs1, Sp.z]; omega)
      have hc2 : cur2.toList.length = cap * 2 := by
        rw [c2, List.length_append, List.length_append, List.length_take, List.length_drop, Sp.z]; omega
      have hA : (flatG Sp.cs (S.take i)).length = i * 2 := by rw [flatG_length Sp.z, List.length_take, hn]; omega
      have hsplit : cur.toList = flatG Sp.cs (S.take i) ++ (B ++ cur.toList.drop (n * 2)) := by
        rw [← List.append_assoc, hB, ← flatG_append, List.take_append_drop, ← h7, hn, List.take_append_drop]
      have hrow := shift_row (flatG Sp.cs (S.take i)) B (cur.toList.drop (n * 2)) (Sp.cs s) cur1.toList cur2.toList (i * 2) ((n - i) * 2) hA hBl rfl (by rw [← hsplit, b2, show (i + 1) * 2 = i * 2 + 2 by omega]) (by rw [c2]) (by rw [List.length_drop]; omega)
      rw [hW2]
      refine ⟨g, cap, by rw [hn], ⟨?_, .inr ⟨g, cap, cur2, rfl, h2, c1, by omega, h5, by simpa using hc2, ?_⟩⟩, ?_, .inl rfl⟩
      · rw [flatG_length Sp.z, insS_length (by omega)]
      · rw [hn, show (n + 1) * 2 = i * 2 + 2 + (n - i) * 2 by omega, hrow, insS_flat, hB]
      · rw [hW1]
        have hg := grownBy_sets w.drew g ((i + 1) * 2) (i * 2) B (Sp.cs s)
        exact ⟨hg.os, hg.tape, hg.output, hg.size, hg.block⟩
    obtain ⟨Y, hY⟩ : ∃ Y, Sp.cs s = Y := ⟨_, rfl⟩
    rw [hY] at FIN hcp2
    rw [hn] at FIN ⊢
    clear h h3 h6 h7 hread hcellS hfz hBd hB hBl hB1 hVr hs1 hW1 hY hv hi hroom
    have j1 : (i : Int) ≤ (n : Int) := by omega
    have j2 : ¬ ((i : Int) = (n : Int)) := by omega
    have j3 : ¬ ((cap : Int) < (n : Int) + 1) := by omega
    have j4 : (n : Int) + 1 ≤ (cap : Int) := by omega
    have j5 : (i : Int) + 1 ≤ (n : Int) + 1 := by omega
    have j6 : (i : Int) ≤ (n : Int) + 1 := by omega
    have j7 : ¬ (cap = i + 1) := by omega
    have j8 : ¬ (cap = i) := by omega
    have j9 : (0 : Int) ≤ (i : Int) + 1 := by omega
    have k1 : IntKind.i64.wrap ((i : Int) + 1) = (i : Int) + 1 := by rw [IntKind.wrap_i64]; omega
    have k2 : ((i : Int) + 1).toNat = i + 1 := by omega
    go_enter Tryz.func65, Tryz.ntmps65
    go_wp2_with (simp only [hov])
    go_region_law (refine step_copy_runI rfl _ _ 75 75 rfl (.slice (some ⟨g, (i + 1) * 2, none⟩) (n + 1 - (i + 1)) (cap - (i + 1))) (.slice (some ⟨g, i * 2, none⟩) (n + 1 - i) (cap - i)) (by simp [Act.eval, Act.put]) (by simp [Act.eval, Act.put]) (hcp1 _ _ _) ?_)
    go_wp2_with (at_builtin; refine wpList_copy_runI _ rfl _ _ 75 75 rfl _ _ rfl rfl (hcp2 _ (fun _ => rfl) (fun _ => rfl) _ _) ?_)
    go_ret
    exact FIN.out _ rfl
end Go.Proofs.YtildhbkcpehobaaGreatDoor
