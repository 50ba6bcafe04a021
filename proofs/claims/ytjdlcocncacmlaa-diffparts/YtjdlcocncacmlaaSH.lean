/- Contract of slices.Insert at things over this translation, of one element: at the end, or where there is room: the row that it leaves; nothing else that was there is changed. Contract of slices.Insert at things over this translation, of one element ahead of another, where there is no room: the new row; nothing that was there is changed. And all roads together. -/
import Derived.Test.YtjdlcocncacmlaaShD
namespace Go.Proofs.Ytjdlcocncacmlaa
section
open Go.RowKit
set_option linter.unusedVariables false
theorem Try.sizeTh (w : World) : (Go.sizeOf 40).run Try.prog w = .ok 11 w := by kernel_rfl
theorem Try.mapTh : (Try.prog.info? 40).map (·.size) = some 11 := by kernel_rfl
def InsPost (w : World) (base : Nat) (v : Value) (S : List Th) (i : Nat) (s : Th) : Ending → World → Prop := fun e w' => ∃ g' cap', e = .returned (.slice (some ⟨g', 0, none⟩) (S.length + 1) cap') ∧ w'.ownsRow base 40 11 (.slice (some ⟨g', 0, none⟩) (S.length + 1) cap') (S.length + 1) (flatT (insS S i s)) ∧ w.grownBy w' v.ownBlock ∧ (v.ownBlock = some g' ∨ w.heap.size ≤ g')
set_option maxHeartbeats 2000000 in
set_option maxRecDepth 100000 in
theorem insert_end {w : World} {base vb : Nat} {v : Value} {S : List Th} {s : Th} (h : w.ownsRow base 40 11 v S.length (flatT S)) (hl : S.length ≤ 1000) (hv : w.heap[vb]? = some s.o) (hbase : base ≤ w.heap.size) :
    Calls Try.prog 30 #[v, .int .i64 (S.length : Nat), .slice (some ⟨vb, 0, none⟩) 1 1] w (InsPost w base v S S.length s) := by
  obtain ⟨i0, hi0, hz0, hz1, hz2⟩ := info_parts3 Try.infoTh
  have HO := hid h
  have HV := hid (show ∀ j u, (Th.cs s)[j]? = some u → w.cell? ((⟨vb, 0, none⟩ : Addr).add j) = some u from World.news_of_block hv)
  have hfin : ∀ g' cap' w', w'.ownsRow base 40 11 (.slice (some ⟨g', 0, none⟩) (S.length + 1) cap') (S.length + 1) (flatT S ++ Th.cs s) → w.grownBy w' v.ownBlock → (v.ownBlock = some g' ∨ g' = w.heap.size) → InsPost w base v S S.length s (.returned (.slice (some ⟨g', 0, none⟩) (S.length + 1) cap')) w' := fun g' cap' w' h1 h2 h3 =>
    ⟨g', cap', rfl, by rw [insS_end, flatT_append, flatT_one]; exact h1, h2, h3.imp id (fun e => by omega)⟩
  have FIN := hid hfin
  clear hfin
  have hvs := owns_slice h
  have hcp : ∀ p c, v = .slice p S.length c → S.length ≤ c ∧ c ≤ maxLen ∧ ∀ q, p ≠ some q ∨ ∃ g, p = some ⟨g, 0, none⟩ := by
    intro p c e
    subst e
    rcases h.2 with ⟨h1, h2⟩ | ⟨g, cap', cur, h1, _, _, h2, h3, _⟩
    · simp only [Value.slice.injEq] at h1
      obtain ⟨rfl, _, rfl⟩ := h1
      exact ⟨by omega, by unfold maxLen; omega, fun q => .inl (by simp)⟩
    · simp only [Value.slice.injEq] at h1
      obtain ⟨rfl, _, rfl⟩ := h1
      exact ⟨h2, h3, fun q => .inr ⟨g, rfl⟩⟩
  obtain ⟨p, c, rfl⟩ := hvs
  obtain ⟨q1, q2, -⟩ := hcp p c rfl
  have q3 : c ≤ 9223372036854775807 := by unfold maxLen at q2; omega
  clear hcp h hv
  obtain ⟨n, hn⟩ : ∃ n, S.length = n := ⟨_, rfl⟩
  obtain ⟨X, hX⟩ : ∃ X, flatT S = X := ⟨_, rfl⟩
  obtain ⟨Y, hY⟩ : ∃ Y, Th.cs s = Y := ⟨_, rfl⟩
  have hYl : Hid (Y.length = 1 * 11) := by rw [← hY]; rfl
  have hY1 : Hid (∀ u ∈ Y, u.oneCell' = true) := by rw [← hY, ← flatT_one s]; exact ths_cell _
  rw [hn] at HO FIN q1 hl ⊢
  rw [hX] at HO FIN
  rw [hY] at HV FIN
  clear hn hX hY
  have j1 : (n : Int) ≤ (c : Int) := by omega
  cases p with
  | none =>
    go_enter Try.func30, Try.ntmps30
    go_wp2_with (at_builtin; refine wpList_append_lies _ rfl _ _ 22 rfl base 40 i0 zT.v 11 120 Try.underlying22 hi0 hz0 hz1 hz2 rfl (by decide) _ _ _ rfl HO.out ⟨vb, 0, none⟩ 1 1 Y rfl hYl.out HV.out hY1.out (by decide) (by unfold maxLen; omega) (by omega) hbase _ rfl ?_)
    all_goals (intro g' cap' w' a1 a2 a3 a4; go_wp2; go_ret; exact FIN.out g' cap' w' a1 a2 a3)
  | some a =>
    obtain ⟨ab, ao, asp⟩ := a
    go_enter Try.func30, Try.ntmps30
    go_wp2_with (at_builtin; refine wpList_append_lies _ rfl _ _ 22 rfl base 40 i0 zT.v 11 120 Try.underlying22 hi0 hz0 hz1 hz2 rfl (by decide) _ _ _ rfl HO.out ⟨vb, 0, none⟩ 1 1 Y rfl hYl.out HV.out hY1.out (by decide) (by unfold maxLen; omega) (by omega) hbase _ rfl ?_)
    all_goals (intro g' cap' w' a1 a2 a3 a4; go_wp2; go_ret; exact FIN.out g' cap' w' a1 a2 a3)
theorem insS_flat (S : List Th) (i : Nat) (s : Th) : flatT (insS S i s) = flatT (S.take i) ++ (Th.cs s ++ flatT (S.drop i)) := by
  unfold insS
  rw [flatT_append]
  rfl
/-- a row behind two stores: what stood from i on one place further, then s at i -/
theorem shift_row (A B R Y L1 L2 : List Value) (a b : Nat) (hA : A.length = a) (hB : B.length = b) (hY : Y.length = 11) (h1 : L1 = (A ++ (B ++ R)).take (a + 11) ++ B ++ (A ++ (B ++ R)).drop (a + 11 + B.length)) (h2 : L2 = L1.take a ++ Y ++ L1.drop (a + Y.length)) (hR : 11 ≤ R.length) :
    L2.take (a + 11 + b) = A ++ (Y ++ B) := by
  have l1 : ((A ++ (B ++ R)).take (a + 11)).length = a + 11 := by
    rw [List.length_take, List.length_append, List.length_append]; omega
  have e1 : L1.take a = A := by
    rw [h1, List.append_assoc, List.take_append_of_le_length (by omega), List.take_take, Nat.min_eq_left (by omega), List.take_append_of_le_length (by omega), List.take_of_length_le (by omega)]
  have e2 : L1.drop (a + Y.length) = B ++ (A ++ (B ++ R)).drop (a + 11 + B.length) := by
    rw [h1, hY, List.append_assoc, List.drop_append_of_le_length (by omega), List.drop_of_length_le (by omega), List.nil_append]
  rw [h2, e1, e2, ← List.append_assoc, List.append_assoc A, List.append_assoc A]
  have : (A ++ (Y ++ B) ++ (A ++ (B ++ R)).drop (a + 11 + B.length)).take (a + 11 + b) = A ++ (Y ++ B) := by
    rw [List.take_append_of_le_length (by rw [List.length_append, List.length_append]; omega), List.take_of_length_le (by rw [List.length_append, List.length_append]; omega)]
  simpa [List.append_assoc] using this
set_option maxHeartbeats 4000000 in
set_option maxRecDepth 100000 in
theorem insert_shift {w : World} {base vb i g cap : Nat} {S : List Th} {s : Th} (h : w.ownsRow base 40 11 (.slice (some ⟨g, 0, none⟩) S.length cap) S.length (flatT S)) (hl : S.length ≤ 1000) (hi : i < S.length) (hroom : S.length + 1 ≤ cap) (hv : w.heap[vb]? = some s.o) (hne : vb ≠ g) (hbase : base ≤ w.heap.size) :
    Calls Try.prog 30 #[.slice (some ⟨g, 0, none⟩) S.length cap, .int .i64 (i : Nat), .slice (some ⟨vb, 0, none⟩) 1 1] w (InsPost w base (.slice (some ⟨g, 0, none⟩) S.length cap) S i s) := by
  rcases h.2 with ⟨h1, h2⟩ | ⟨g', cap', cur, h1, h2, h3, h4, h5, h6, h7⟩
  · omega
  · simp only [Value.slice.injEq, Option.some.injEq, Addr.mk.injEq, and_true, true_and] at h1
    obtain ⟨rfl, rfl⟩ := h1
    obtain ⟨n, hn⟩ : ∃ n, S.length = n := ⟨_, rfl⟩
    have hi' : i < n := by rw [← hn]; exact hi
    have hr' : n + 1 ≤ cap := by rw [← hn]; exact hroom
    have hcap : cap ≤ 9223372036854775807 := by unfold maxLen at h5; omega
    obtain ⟨B, hB⟩ : ∃ B, B = flatT (S.drop i) := ⟨_, rfl⟩
    have hBl : B.length = (n - i) * 11 := by rw [hB, flatT_length, List.length_drop, hn]
    have hBd : (flatT S).drop (i * 11) = B := by rw [flatT_drop, hB]
    have hread := owns_read h
    have hcellS : ∀ j, j < cap * 11 → (w.cell? ⟨g, j, none⟩).isSome = true := fun j hj => by
      rw [Go.Joins.cell_of_block h3 j, Array.getElem?_eq_getElem (by rw [h6]; exact hj)]; rfl
    have hfz : ∀ j, w.frozen? ⟨g, j, none⟩ = false := fun j => Go.Joins.unfrozen_of_block h3 j
    have hB1 : ∀ u ∈ B, u.oneCell' = true := by rw [hB]; exact ths_cell _
    have hVr : ∀ j u, (Th.cs s)[j]? = some u → w.cell? ((⟨vb, 0, none⟩ : Addr).add j) = some u := World.news_of_block hv
    have hs1 : ∀ u ∈ Th.cs s, u.oneCell' = true := by rw [← flatT_one s]; exact ths_cell _
    obtain ⟨W1, hW1⟩ : ∃ W1, W1 = w.drew.setCells g ((i + 1) * 11) B := ⟨_, rfl⟩
    have hcp1 : ∀ ty dc sc, (Builtin.copy_ #[22, 22] ty #[.slice (some ⟨g, (i + 1) * 11, none⟩) (n + 1 - (i + 1)) dc, .slice (some ⟨g, i * 11, none⟩) (n + 1 - i) sc]).run Try.prog w.drew = .ok (goInt ((n - i : Nat) : Int)) W1 := fun ty dc sc => by
      rw [hW1]
      exact run_copy_z w.drew 22 22 ty 40 11 g ((i + 1) * 11) (n + 1 - (i + 1)) dc ⟨g, i * 11, none⟩ (n + 1 - i) sc (n - i) B Try.underlying22 Try.mapTh (by simp only [Nat.min_def]; split <;> omega) hBl
        (fun j u hj => by
          rw [Addr.add_lit]
          refine hread _ _ ?_
          rw [← hBd, List.getElem?_drop] at hj
          exact hj)
        (fun j hj => hcellS _ (by rw [hBl] at hj; omega)) (fun j hj => hfz _) hB1
    have hcp2 : ∀ (W : World), (∀ x, W.cell? x = W1.cell? x) → (∀ x, W.frozen? x = W1.frozen? x) → ∀ ty dc, (Builtin.copy_ #[22, 22] ty #[.slice (some ⟨g, i * 11, none⟩) (n + 1 - i) dc, .slice (some ⟨vb, 0, none⟩) 1 1]).run Try.prog W = .ok (goInt 1) (W.setCells g (i * 11) (Th.cs s)) := fun W hWc hWf ty dc =>
      run_copy_z W 22 22 ty 40 11 g (i * 11) (n + 1 - i) dc ⟨vb, 0, none⟩ 1 1 1 (Th.cs s) Try.underlying22 Try.mapTh (by simp only [Nat.min_def]; split <;> omega) rfl
        (fun j u hj => by
          rw [hWc, hW1, Addr.add_lit, World.cell?_setCells_out g _ _ _ _ (fun h _ => absurd h hne)]
          have := hVr j u hj
          rwa [Addr.add_lit] at this)
        (fun j hj => by
          have hj' : j < 11 := hj
          rw [hWc, hW1]
          exact isSome_setCells g B ((i + 1) * 11) w.drew (fun t ht => hcellS ((i + 1) * 11 + t) (by rw [hBl] at ht; omega)) (i * 11 + j) (hcellS (i * 11 + j) (by omega)))
        (fun j hj => by rw [hWf, hW1, World.frozen?_setCells]; exact hfz _) hs1
    have hov : ∀ lb cb, (callFunc 39 #[.slice (some ⟨vb, 0, none⟩) 1 1, .slice (some ⟨g, (i + 1) * 11, none⟩) lb cb]).run Try.prog w = .ok (.value (.bool false)) w := fun lb cb => by
      rw [run_callFunc_extern Try.func39 (by kernel_rfl) (by kernel_rfl) (by kernel_rfl) (e := Extern.SlicesOverlaps.overlaps #[22, 22] #[4]) (by kernel_rfl),
        Lib.run_overlaps_apart w 22 4 40 Try.underlying22 11 Try.sizeTh ⟨vb, 0, none⟩ ⟨g, (i + 1) * 11, none⟩ 1 1 lb cb hne 40 40 11 (cap * 11) (by simp [World.shape?, hv]) (by simp [World.shape?, h3, h6]) (by omega) (Go.Joins.unfrozen_of_block hv 0) (Go.Joins.unfrozen_of_block hv 11)]
      rfl
    have FIN : Hid (∀ W2 : World, W2 = W1.setCells g (i * 11) (Th.cs s) → InsPost w base (.slice (some ⟨g, 0, none⟩) S.length cap) S i s (.returned (.slice (some ⟨g, 0, none⟩) (n + 1) cap)) W2) := fun W2 hW2 => by
      obtain ⟨cur1, b1, b2⟩ := setCells_block g (e := 40) (fr := (0, 0)) B ((i + 1) * 11) w.drew cur h3 (by rw [hBl, h6]; omega)
      have hc0 : cur.toList.length = cap * 11 := by simpa using h6
      have hc1 : cur1.toList.length = cap * 11 := by
        rw [b2, List.length_append, List.length_append, List.length_take, List.length_drop, hBl]; omega
      have hcs1 : cur1.size = cap * 11 := by simpa using hc1
      obtain ⟨cur2, c1, c2⟩ := setCells_block g (e := 40) (fr := (0, 0)) (Th.cs s) (i * 11) W1 cur1 (by rw [hW1]; exact b1) (by rw [hcs1, Th.z]; omega)
      have hc2 : cur2.toList.length = cap * 11 := by
        rw [c2, List.length_append, List.length_append, List.length_take, List.length_drop, Th.z]; omega
      have hA : (flatT (S.take i)).length = i * 11 := by rw [flatT_length, List.length_take, hn]; omega
      have hsplit : cur.toList = flatT (S.take i) ++ (B ++ cur.toList.drop (n * 11)) := by
        rw [← List.append_assoc, hB, ← flatT_append, List.take_append_drop, ← h7, hn, List.take_append_drop]
      have hrow := shift_row (flatT (S.take i)) B (cur.toList.drop (n * 11)) (Th.cs s) cur1.toList cur2.toList (i * 11) ((n - i) * 11) hA hBl rfl (by rw [← hsplit, b2, show (i + 1) * 11 = i * 11 + 11 by omega]) (by rw [c2]) (by rw [List.length_drop]; omega)
      rw [hW2]
      refine ⟨g, cap, by rw [hn], ⟨?_, .inr ⟨g, cap, cur2, rfl, h2, c1, by omega, h5, by simpa using hc2, ?_⟩⟩, ?_, .inl rfl⟩
      · rw [flatT_length, insS_length (by omega)]
      · rw [hn, show (n + 1) * 11 = i * 11 + 11 + (n - i) * 11 by omega, hrow, insS_flat, hB]
      · rw [hW1]
        have hg := grownBy_sets w.drew g ((i + 1) * 11) (i * 11) B (Th.cs s)
        exact ⟨hg.os, hg.tape, hg.output, hg.size, hg.block⟩
    obtain ⟨Y, hY⟩ : ∃ Y, Th.cs s = Y := ⟨_, rfl⟩
    rw [hY] at FIN hcp2
    rw [hn] at FIN ⊢
    clear h h3 h6 h7 hread hcellS hfz hBd hB hBl hB1 hVr hs1 hW1 hY hv hi hroom
    have j1 : (i : Int) ≤ (n : Int) := by omega
    have j2 : ¬ ((i : Int) = (n : Int)) := by omega
    have j3 : ¬ ((cap : Int) < (n : Int) + 1) := by omega
    have j4 : (n : Int) + 1 ≤ (cap : Int) := by omega
    have j5 : (i : Int) + 1 ≤ (n : Int) + 1 := by omega
    have j6 : (i : Int) ≤ (n : Int) + 1 := by omega
    have j7 : ¬ (cap = i + 1) := by omega
    have j8 : ¬ (cap = i) := by omega
    have j9 : (0 : Int) ≤ (i : Int) + 1 := by omega
    have k1 : IntKind.i64.wrap ((i : Int) + 1) = (i : Int) + 1 := by rw [IntKind.wrap_i64]; omega
    have k2 : ((i : Int) + 1).toNat = i + 1 := by omega
    go_enter Try.func30, Try.ntmps30
    go_wp2_with (simp only [hov])
    go_region_law (refine step_copy_runI rfl _ _ 22 22 rfl (.slice (some ⟨g, (i + 1) * 11, none⟩) (n + 1 - (i + 1)) (cap - (i + 1))) (.slice (some ⟨g, i * 11, none⟩) (n + 1 - i) (cap - i)) (by simp [Act.eval, Act.put]) (by simp [Act.eval, Act.put]) (hcp1 _ _ _) ?_)
    go_wp2_with (at_builtin; refine wpList_copy_runI _ rfl _ _ 22 22 rfl _ _ rfl rfl (hcp2 _ (fun _ => rfl) (fun _ => rfl) _ _) ?_)
    go_ret
    exact FIN.out _ rfl
end
section
open Go.RowKit Go.Lib Go.Shelf
set_option linter.unusedVariables false
theorem zero_size (z : Value) (k : Nat) (hz : z.cells.size = 11) : (Builtin.zeroCells z.cells k).size = k * 11 := by
  simp [Builtin.zeroCells, hz]
/-- a new row behind two stores: s at i, then what stood from i on -/
theorem fresh_row (A B Z Y L1 L2 : List Value) (a b : Nat) (hA : A.length = a) (hB : B.length = b) (hY : Y.length = 11) (hZ : 11 + b ≤ Z.length) (h1 : L1 = (A ++ Z).take a ++ Y ++ (A ++ Z).drop (a + Y.length)) (h2 : L2 = L1.take (a + 11) ++ B ++ L1.drop (a + 11 + B.length)) :
    L2.take (a + 11 + b) = A ++ (Y ++ B) := by
  have e0 : (A ++ Z).take a = A := by rw [List.take_append_of_le_length (by omega), List.take_of_length_le (by omega)]
  have e1 : L1.take (a + 11) = A ++ Y := by
    rw [h1, e0, List.take_append_of_le_length (by rw [List.length_append]; omega), List.take_of_length_le (by rw [List.length_append]; omega)]
  rw [h2, e1, List.take_append_of_le_length (by rw [List.length_append, List.length_append]; omega), List.take_of_length_le (by rw [List.length_append, List.length_append]; omega), List.append_assoc]
set_option maxHeartbeats 4000000 in
set_option maxRecDepth 100000 in
theorem insert_grow {w : World} {base vb i g cap : Nat} {S : List Th} {s : Th} (h : w.ownsRow base 40 11 (.slice (some ⟨g, 0, none⟩) S.length cap) S.length (flatT S)) (hl : S.length ≤ 1000) (hi : i < S.length) (hroom : cap < S.length + 1) (hv : w.heap[vb]? = some s.o) (hbase : base ≤ w.heap.size) :
    Calls Try.prog 30 #[.slice (some ⟨g, 0, none⟩) S.length cap, .int .i64 (i : Nat), .slice (some ⟨vb, 0, none⟩) 1 1] w (InsPost w base (.slice (some ⟨g, 0, none⟩) S.length cap) S i s) := by
  obtain ⟨i0, hi0, hz0, hz1, hz2⟩ := info_parts3 Try.infoTh
  have hgl := (h.lt g rfl).2
  have hvl := lt_of_at hv
  have hnc : S.length ≤ cap := by
    rcases h.2 with ⟨h1, h2⟩ | ⟨g', cap', cur, h1, h2, h3, h4, h5, h6, h7⟩
    · omega
    · simp only [Value.slice.injEq, Option.some.injEq, Addr.mk.injEq, and_true, true_and] at h1
      obtain ⟨rfl, rfl⟩ := h1
      exact h4
  obtain ⟨n, hn⟩ : ∃ n, S.length = n := ⟨_, rfl⟩
  have hi' : i < n := by rw [← hn]; exact hi
  have hr' : cap < n + 1 := by rw [← hn]; exact hroom
  have hnc' : n ≤ cap := by rw [← hn]; exact hnc
  have hn1000 : n ≤ 1000 := by rw [← hn]; exact hl
  obtain ⟨B, hB⟩ : ∃ B, B = flatT (S.drop i) := ⟨_, rfl⟩
  obtain ⟨A, hA⟩ : ∃ A, A = flatT (S.take i) := ⟨_, rfl⟩
  have hBl : B.length = (n - i) * 11 := by rw [hB, flatT_length, List.length_drop, hn]
  have hAl : A.length = i * 11 := by rw [hA, flatT_length, List.length_take, hn]; omega
  have hBd : (flatT S).drop (i * 11) = B := by rw [flatT_drop, hB]
  have hAt : (flatT S).take (i * 11) = A := by rw [flatT_take, hA]
  have hread := owns_read h
  have hB1 : ∀ u ∈ B, u.oneCell' = true := by rw [hB]; exact ths_cell _
  have hVr : ∀ j u, (Th.cs s)[j]? = some u → w.cell? ((⟨vb, 0, none⟩ : Addr).add j) = some u := World.news_of_block hv
  have hs1 : ∀ u ∈ Th.cs s, u.oneCell' = true := by rw [← flatT_one s]; exact ths_cell _
  have hold : (Builtin.firstCells i0.size i (.slice (some ⟨g, 0, none⟩) i cap)).run Try.prog w.drew = .ok A.toArray w.drew := by
    rw [hz1]
    exact run_firstCells_some w.drew 11 i ⟨g, 0, none⟩ i cap A (by rw [hAl]) (fun j v hj => by
      rw [Addr.add_lit, Nat.zero_add]
      refine hread _ _ ?_
      rw [← hAt, List.getElem?_take] at hj
      split at hj
      · exact hj
      · cases hj)
  have hik : i + (n + 1 - i) = n + 1 := by omega
  have hkk : (n : Int) + 1 - (i : Int) = ((n + 1 - i : Nat) : Int) := by omega
  obtain ⟨G, hG⟩ : ∃ G, G = grownCap w (n + 1) cap 40 := ⟨_, rfl⟩
  have hGn : n + 1 ≤ G := by rw [hG]; exact grownCap_ge w _ _ _
  have hGm : G ≤ maxLen := by rw [hG]; exact grownCap_le_maxLen w (n + 1) cap 40 (by unfold maxLen; omega)
  have hG63 : G ≤ 9223372036854775807 := by unfold maxLen at hGm; omega
  obtain ⟨Z, hZ⟩ : ∃ Z : List Value, Z = (Builtin.zeroCells (zT.v).cells (n + 1 - i)).toList ++ (Builtin.zeroCells (zT.v).cells (G - (n + 1))).toList := ⟨_, rfl⟩
  have hZl : Z.length = (G - i) * 11 := by
    rw [hZ, List.length_append, Array.length_toList, Array.length_toList, zero_size _ _ rfl, zero_size _ _ rfl]; omega
  obtain ⟨ROW, hROW⟩ : ∃ ROW : Array Value, ROW = (A ++ Z).toArray := ⟨_, rfl⟩
  have hRs : ROW.size = G * 11 := by rw [hROW]; simp [hAl, hZl]; omega
  have hrz : ∀ ty, (Builtin.append_ #[22, 3] ty #[.slice (some ⟨g, 0, none⟩) i cap, .int .i64 ((n : Int) + 1 - (i : Int))]).run Try.prog w =
      .ok (.slice (some ⟨w.heap.size, 0, none⟩) (n + 1) G) (w.drew.alloc (.cells ROW 40)) := fun ty => by
    have hh := Lib.run_append_grow_zeros w 22 3 ty 40 i0 _ .i64 .i64 Try.underlying22 Try.underlying3 hi0 hz0 (some ⟨g, 0, none⟩) i cap A hold (n + 1 - i) (by omega) (by omega) (by omega) (by omega) (by rw [hz2]; omega) (by rw [hz2, hik]; exact growslice_fits hr' (by omega))
    rw [hik, ← hG] at hh
    have hrow' : A.toArray ++ Builtin.zeroCells (zT.v).cells (n + 1 - i) ++ Builtin.zeroCells (zT.v).cells (G - (n + 1)) = ROW := by
      rw [hROW, hZ]
      apply Array.ext'
      simp
    rw [hkk, hh, hrow']
  obtain ⟨W1, hW1⟩ : ∃ W1, W1 = w.drew.alloc (.cells ROW 40) := ⟨_, rfl⟩
  have hWat : W1.heap[w.heap.size]? = some (.cells ROW 40 (0, 0)) := by rw [hW1]; exact new_at _ _ _ rfl
  have hN : ∀ j, j < G * 11 → (W1.cell? ⟨w.heap.size, j, none⟩).isSome = true := fun j hj => by
    rw [Go.Joins.cell_of_block hWat j, Array.getElem?_eq_getElem (by rw [hRs]; exact hj)]; rfl
  have hNf : ∀ j, W1.frozen? ⟨w.heap.size, j, none⟩ = false := fun j => Go.Joins.unfrozen_of_block hWat j
  have hBel : Below w.heap.size w W1 := by rw [hW1]; exact (below1 w (.cells ROW 40)).drew
  have hcpA : ∀ (W : World), (∀ x, W.cell? x = W1.cell? x) → (∀ x, W.frozen? x = W1.frozen? x) → ∀ ty dc, (Builtin.copy_ #[22, 22] ty #[.slice (some ⟨w.heap.size, i * 11, none⟩) (n + 1 - i) dc, .slice (some ⟨vb, 0, none⟩) 1 1]).run Try.prog W = .ok (goInt 1) (W.setCells w.heap.size (i * 11) (Th.cs s)) := fun W hWc hWf ty dc =>
    run_copy_z W 22 22 ty 40 11 w.heap.size (i * 11) (n + 1 - i) dc ⟨vb, 0, none⟩ 1 1 1 (Th.cs s) Try.underlying22 Try.mapTh (by simp only [Nat.min_def]; split <;> omega) rfl
      (fun j u hj => by rw [hWc]; exact cell_below hBel (hVr j u hj))
      (fun j hj => by
        have hj' : j < 11 := hj
        rw [hWc]; exact hN _ (by omega))
      (fun j hj => by rw [hWf]; exact hNf _) hs1
  have hne : g ≠ w.heap.size := by omega
  have hcpB : ∀ (W : World), (∀ x, W.cell? x = (W1.setCells w.heap.size (i * 11) (Th.cs s)).cell? x) → (∀ x, W.frozen? x = (W1.setCells w.heap.size (i * 11) (Th.cs s)).frozen? x) → ∀ ty dc sc, (Builtin.copy_ #[22, 22] ty #[.slice (some ⟨w.heap.size, (i + 1) * 11, none⟩) (n + 1 - (i + 1)) dc, .slice (some ⟨g, i * 11, none⟩) (n - i) sc]).run Try.prog W = .ok (goInt ((n - i : Nat) : Int)) (W.setCells w.heap.size ((i + 1) * 11) B) := fun W hWc hWf ty dc sc =>
    run_copy_z W 22 22 ty 40 11 w.heap.size ((i + 1) * 11) (n + 1 - (i + 1)) dc ⟨g, i * 11, none⟩ (n - i) sc (n - i) B Try.underlying22 Try.mapTh (by simp only [Nat.min_def]; split <;> omega) hBl
      (fun j u hj => by
        rw [Addr.add_lit, hWc, World.cell?_setCells_out _ _ _ _ _ (fun h _ => absurd h hne)]
        refine cell_below hBel (hread _ _ ?_)
        rw [← hBd, List.getElem?_drop] at hj
        exact hj)
      (fun j hj => by
        rw [hBl] at hj
        rw [hWc]
        exact isSome_setCells w.heap.size (Th.cs s) (i * 11) W1 (fun t ht => hN (i * 11 + t) (by have : t < 11 := ht; omega)) ((i + 1) * 11 + j) (hN ((i + 1) * 11 + j) (by omega)))
      (fun j hj => by rw [hWf, World.frozen?_setCells]; exact hNf _) hB1
  obtain ⟨Y, hY⟩ : ∃ Y, Th.cs s = Y := ⟨_, rfl⟩
  have hYl : Y.length = 11 := by rw [← hY]; rfl
  rw [hY] at hcpA hcpB
  have FIN : Hid (∀ W2 : World, W2 = (((w.alloc (.cells ROW 40)).drew.setCells w.heap.size (i * 11) Y).drew).setCells w.heap.size ((i + 1) * 11) B → InsPost w base (.slice (some ⟨g, 0, none⟩) S.length cap) S i s (.returned (.slice (some ⟨w.heap.size, 0, none⟩) (n + 1) G)) W2) := fun W2 hW2 => by
    obtain ⟨cur1, b1, b2⟩ := setCells_block w.heap.size (e := 40) (fr := (0, 0)) Y (i * 11) (w.alloc (.cells ROW 40)).drew ROW (new_at w _ _ rfl) (by rw [hYl, hRs]; omega)
    have hR0 : ROW.toList = A ++ Z := by rw [hROW]
    have hc1 : cur1.toList.length = G * 11 := by
      rw [b2, List.length_append, List.length_append, List.length_take, List.length_drop, hYl, Array.length_toList, hRs]; omega
    have hcs1 : cur1.size = G * 11 := by simpa using hc1
    obtain ⟨cur2, c1, c2⟩ := setCells_block w.heap.size (e := 40) (fr := (0, 0)) B ((i + 1) * 11) (((w.alloc (.cells ROW 40)).drew.setCells w.heap.size (i * 11) Y).drew) cur1 b1 (by rw [hcs1, hBl]; omega)
    have hc2 : cur2.toList.length = G * 11 := by
      rw [c2, List.length_append, List.length_append, List.length_take, List.length_drop, hBl]; omega
    have hrow := fresh_row A B Z Y cur1.toList cur2.toList (i * 11) ((n - i) * 11) hAl hBl hYl (by rw [hZl]; omega) (by rw [b2, hR0]) (by rw [c2, show (i + 1) * 11 = i * 11 + 11 by omega])
    rw [hW2]
    refine ⟨w.heap.size, G, by rw [hn], ⟨?_, .inr ⟨w.heap.size, G, cur2, rfl, hbase, c1, by omega, hGm, by simpa using hc2, ?_⟩⟩, ?_, .inr (Nat.le_refl _)⟩
    · rw [flatT_length, insS_length (by omega)]
    · rw [hn, show (n + 1) * 11 = i * 11 + 11 + (n - i) * 11 by omega, hrow, insS_flat, hY, hB, hA]
    · have hg := grownBy_sets (w.alloc (.cells ROW 40)) w.heap.size (i * 11) ((i + 1) * 11) Y B
      obtain ⟨a1, a2, a3⟩ := setCells_rest w.heap.size Y (i * 11) (w.alloc (.cells ROW 40)).drew
      obtain ⟨d1, d2, d3⟩ := setCells_rest w.heap.size B ((i + 1) * 11) (((w.alloc (.cells ROW 40)).drew.setCells w.heap.size (i * 11) Y).drew)
      refine ⟨d1.trans a1, d2.trans a2, d3.trans a3, ?_, fun k hk _ => ?_⟩
      · rw [setCells_size]
        show _ ≤ ((w.alloc (.cells ROW 40)).drew.setCells w.heap.size (i * 11) Y).heap.size
        rw [setCells_size]
        show w.heap.size ≤ (w.alloc (.cells ROW 40)).heap.size
        simp
      · rw [setCells_other _ _ _ _ k (by omega)]
        show ((w.alloc (.cells ROW 40)).drew.setCells w.heap.size (i * 11) Y).heap[k]? = _
        rw [setCells_other _ _ _ _ k (by omega)]
        exact Below.heap_alloc w _ k hk
  rw [hn] at FIN ⊢
  clear hYl h hread hBd hAt hAl hA hB hBl hB1 hVr hs1 hY hv hi hroom hold hZ hZl hROW hRs hN hNf hWat hG hnc hGm hBel hik
  subst hW1
  have hE1 : ∀ x, ((w.alloc (.cells ROW 40)).drew).cell? x = (w.drew.alloc (.cells ROW 40)).cell? x := fun x => rfl
  have hE2 : ∀ x, ((w.alloc (.cells ROW 40)).drew).frozen? x = (w.drew.alloc (.cells ROW 40)).frozen? x := fun x => rfl
  have hF1 : ∀ x, (((w.alloc (.cells ROW 40)).drew.setCells w.heap.size (i * 11) Y).drew).cell? x = ((w.drew.alloc (.cells ROW 40)).setCells w.heap.size (i * 11) Y).cell? x := fun x => rfl
  have hF2 : ∀ x, (((w.alloc (.cells ROW 40)).drew.setCells w.heap.size (i * 11) Y).drew).frozen? x = ((w.drew.alloc (.cells ROW 40)).setCells w.heap.size (i * 11) Y).frozen? x := fun x => rfl
  have k1 : IntKind.i64.wrap ((i : Int) + 1) = (i : Int) + 1 := by rw [IntKind.wrap_i64]; omega
  have k2 : ((i : Int) + 1).toNat = i + 1 := by omega
  have j1 : (i : Int) ≤ (n : Int) := by omega
  have j2 : ¬ ((i : Int) = (n : Int)) := by omega
  have j3 : (cap : Int) < (n : Int) + 1 := by omega
  have j5 : (i : Int) + 1 ≤ (n : Int) + 1 := by omega
  have j6 : (i : Int) ≤ (n : Int) + 1 := by omega
  have j7 : ¬ (G = i + 1) := by omega
  have j8 : ¬ (G = i) := by omega
  have j9 : (0 : Int) ≤ (i : Int) + 1 := by omega
  have j10 : ¬ (cap = i) := by omega
  have j11 : i ≤ cap := by omega
  have j12 : i ≤ n := by omega
  clear hkk
  go_enter Try.func30, Try.ntmps30
  go_wp2_with (first
    | (at_builtin; refine Lib.wpList_append_run _ rfl _ _ _ _ rfl _ _ rfl rfl _ _ (hrz _) ?_)
    | (at_builtin; refine wpList_copy_runI _ rfl _ _ 22 22 rfl _ _ rfl rfl (hcpA _ hE1 hE2 _ _) ?_))
  go_region_law (refine step_copy_runI rfl _ _ 22 22 rfl (.slice (some ⟨w.heap.size, (i + 1) * 11, none⟩) (n + 1 - (i + 1)) (G - (i + 1))) (.slice (some ⟨g, i * 11, none⟩) (n - i) (cap - i)) (by simp [Act.eval, Act.put]) (by simp [Act.eval, Act.put]) (hcpB _ hF1 hF2 3 (G - (i + 1)) (cap - i)) ?_)
  go_wp2
  go_ret
  exact FIN.out _ rfl
theorem insert_at {w : World} {base vb i : Nat} {v : Value} {S : List Th} {s : Th} (h : w.ownsRow base 40 11 v S.length (flatT S)) (hl : S.length ≤ 1000) (hi : i ≤ S.length) (hv : w.heap[vb]? = some s.o) (hne : v.ownBlock ≠ some vb) (hbase : base ≤ w.heap.size) :
    Calls Try.prog 30 #[v, .int .i64 (i : Nat), .slice (some ⟨vb, 0, none⟩) 1 1] w (InsPost w base v S i s) := by
  by_cases he : i = S.length
  · subst he
    exact insert_end h hl hv hbase
  · obtain ⟨p, c, rfl⟩ := owns_slice h
    obtain ⟨g, rfl, -⟩ := owns_some h (by omega)
    by_cases hr : S.length + 1 ≤ c
    · exact insert_shift h hl (by omega) hr hv (fun e => hne (by rw [e]; rfl)) hbase
    · exact insert_grow h hl (by omega) (by omega) hv hbase
end
end Go.Proofs.Ytjdlcocncacmlaa
