/- Contract of slices.Insert at spots over this translation, of one element ahead of another, where there is no room: the new row; nothing that was there is changed. And all roads together. -/
import Derived.Test.YtildhbkcpehobaaGreatDoorQdJ
namespace Go.Proofs.YtildhbkcpehobaaGreatDoor
open Go.RowKit Go.Lib Go.Shelf
set_option linter.unusedVariables false
theorem zero_size (z : Value) (k : Nat) (hz : z.cells.size = 2) : (Builtin.zeroCells z.cells k).size = k * 2 := by
  simp [Builtin.zeroCells, hz]
/-- a new row behind two stores: s at i, then what stood from i on -/
theorem fresh_row (A B Z Y L1 L2 : List Value) (a b : Nat) (hA : A.length = a) (hB : B.length = b) (hY : Y.length = 2) (hZ : 2 + b ≤ Z.length) (h1 : L1 = (A ++ Z).take a ++ Y ++ (A ++ Z).drop (a + Y.length)) (h2 : L2 = L1.take (a + 2) ++ B ++ L1.drop (a + 2 + B.length)) :
    L2.take (a + 2 + b) = A ++ (Y ++ B) := by
  have e0 : (A ++ Z).take a = A := by rw [List.take_append_of_le_length (by omega), List.take_of_length_le (by omega)]
  have e1 : L1.take (a + 2) = A ++ Y := by
    rw [h1, e0, List.take_append_of_le_length (by rw [List.length_append]; omega), List.take_of_length_le (by rw [List.length_append]; omega)]
  rw [h2, e1, List.take_append_of_le_length (by rw [List.length_append, List.length_append]; omega), List.take_of_length_le (by rw [List.length_append, List.length_append]; omega), List.append_assoc]
set_option maxHeartbeats 4000000 in
set_option maxRecDepth 100000 in
theorem insert_grow {w : World} {base vb i g cap : Nat} {S : List Sp} {s : Sp} (h : w.ownsRow base 82 2 (.slice (some ⟨g, 0, none⟩) S.length cap) S.length (flatG Sp.cs S)) (hl : S.length ≤ 1000) (hi : i < S.length) (hroom : cap < S.length + 1) (hv : w.heap[vb]? = some (.cells #[.int .i64 s.id, .int .u32 (s.c : Nat)] 82 (0, 0))) (hbase : base ≤ w.heap.size) :
    Calls Tryz.prog 65 #[.slice (some ⟨g, 0, none⟩) S.length cap, .int .i64 (i : Nat), .slice (some ⟨vb, 0, none⟩) 1 1] w (InsPost w base (.slice (some ⟨g, 0, none⟩) S.length cap) S i s) := by
  obtain ⟨i0, hi0, hz0, hz1, hz2⟩ := info_parts3 Tryz.info82
  have hgl := (h.lt g rfl).2
  have hvl := lt_of_at hv
  have hnc : S.length ≤ cap := by
    rcases h.2 with ⟨h1, h2⟩ | ⟨g', cap', cur, h1, h2, h3, h4, h5, h6, h7⟩
    · omega
    · simp only [Value.slice.injEq, Option.some.injEq, Addr.mk.injEq, and_true, true_and] at h1
      obtain ⟨rfl, rfl⟩ := h1
      exact h4
  obtain ⟨n, hn⟩ : ∃ n, S.length = n := ⟨_, rfl⟩
  have hi' : i < n := by rw [← hn]; exact hi
  have hr' : cap < n + 1 := by rw [← hn]; exact hroom
  have hnc' : n ≤ cap := by rw [← hn]; exact hnc
  have hn1000 : n ≤ 1000 := by rw [← hn]; exact hl
  obtain ⟨B, hB⟩ : ∃ B, B = flatG Sp.cs (S.drop i) := ⟨_, rfl⟩
  obtain ⟨A, hA⟩ : ∃ A, A = flatG Sp.cs (S.take i) := ⟨_, rfl⟩
  have hBl : B.length = (n - i) * 2 := by rw [hB, flatG_length Sp.z, List.length_drop, hn]
  have hAl : A.length = i * 2 := by rw [hA, flatG_length Sp.z, List.length_take, hn]; omega
  have hBd : (flatG Sp.cs S).drop (i * 2) = B := by rw [flatG_drop Sp.z, hB]
  have hAt : (flatG Sp.cs S).take (i * 2) = A := by rw [flatG_take Sp.z, hA]
  have hread := owns_read h
  have hB1 : ∀ u ∈ B, u.oneCell' = true := by rw [hB]; exact spots_cell _
  have hVr : ∀ j u, (Sp.cs s)[j]? = some u → w.cell? ((⟨vb, 0, none⟩ : Addr).add j) = some u := World.news_of_block hv
  have hs1 : ∀ u ∈ Sp.cs s, u.oneCell' = true := by rw [← flatG_one Sp.cs s]; exact spots_cell _
  have hold : (Builtin.firstCells i0.size i (.slice (some ⟨g, 0, none⟩) i cap)).run Tryz.prog w.drew = .ok A.toArray w.drew := by
    rw [hz1]
    exact run_firstCells_some w.drew 2 i ⟨g, 0, none⟩ i cap A (by rw [hAl]) (fun j v hj => by
      rw [Addr.add_lit, Nat.zero_add]
      refine hread _ _ ?_
      rw [← hAt, List.getElem?_take] at hj
      split at hj
      · exact hj
      · cases hj)
  have hik : i + (n + 1 - i) = n + 1 := by omega
  have hkk : (n : Int) + 1 - (i : Int) = ((n + 1 - i : Nat) : Int) := by omega
  obtain ⟨G, hG⟩ : ∃ G, G = grownCap w (n + 1) cap 82 := ⟨_, rfl⟩
  have hGn : n + 1 ≤ G := by rw [hG]; exact grownCap_ge w _ _ _
  have hGm : G ≤ maxLen := by rw [hG]; exact grownCap_le_maxLen w (n + 1) cap 82 (by unfold maxLen; omega)
  have hG63 : G ≤ 9223372036854775807 := by unfold maxLen at hGm; omega
  obtain ⟨Z, hZ⟩ : ∃ Z : List Value, Z = (Builtin.zeroCells (Value.agg #[.int .i64 0, .int .u32 0]).cells (n + 1 - i)).toList ++ (Builtin.zeroCells (Value.agg #[.int .i64 0, .int .u32 0]).cells (G - (n + 1))).toList := ⟨_, rfl⟩
  have hZl : Z.length = (G - i) * 2 := by
    rw [hZ, List.length_append, Array.length_toList, Array.length_toList, zero_size _ _ rfl, zero_size _ _ rfl]; omega
  obtain ⟨ROW, hROW⟩ : ∃ ROW : Array Value, ROW = (A ++ Z).toArray := ⟨_, rfl⟩
  have hRs : ROW.size = G * 2 := by rw [hROW]; simp [hAl, hZl]; omega
  have hrz : ∀ ty, (Builtin.append_ #[75, 3] ty #[.slice (some ⟨g, 0, none⟩) i cap, .int .i64 ((n : Int) + 1 - (i : Int))]).run Tryz.prog w =
      .ok (.slice (some ⟨w.heap.size, 0, none⟩) (n + 1) G) (w.drew.alloc (.cells ROW 82)) := fun ty => by
    have hh := Lib.run_append_grow_zeros w 75 3 ty 82 i0 _ .i64 .i64 Tryz.underlying75 Tryz.underlying3 hi0 hz0 (some ⟨g, 0, none⟩) i cap A hold (n + 1 - i) (by omega) (by omega) (by omega) (by omega) (by rw [hz2]; omega) (by rw [hz2, hik]; exact growslice_fits hr' (by omega))
    rw [hik, ← hG] at hh
    have hrow' : A.toArray ++ Builtin.zeroCells (Value.agg #[.int .i64 0, .int .u32 0]).cells (n + 1 - i) ++ Builtin.zeroCells (Value.agg #[.int .i64 0, .int .u32 0]).cells (G - (n + 1)) = ROW := by
      rw [hROW, hZ]
      apply Array.ext'
      simp
    rw [hkk, hh, hrow']
  obtain ⟨W1, hW1⟩ : ∃ W1, W1 = w.drew.alloc (.cells ROW 82) := ⟨_, rfl⟩
  have hWat : W1.heap[w.heap.size]? = some (.cells ROW 82 (0, 0)) := by rw [hW1]; exact new_at _ _ _ rfl
  have hN : ∀ j, j < G * 2 → (W1.cell? ⟨w.heap.size, j, none⟩).isSome = true := fun j hj => by
    rw [Go.Joins.cell_of_block hWat j, Array.getElem?_eq_getElem (by rw [hRs]; exact hj)]; rfl
  have hNf : ∀ j, W1.frozen? ⟨w.heap.size, j, none⟩ = false := fun j => Go.Joins.unfrozen_of_block hWat j
  have hBel : Below w.heap.size w W1 := by rw [hW1]; exact (below1 w (.cells ROW 82)).drew
  have hcpA : ∀ (W : World), (∀ x, W.cell? x = W1.cell? x) → (∀ x, W.frozen? x = W1.frozen? x) → ∀ ty dc, (Builtin.copy_ #[75, 75] ty #[.slice (some ⟨w.heap.size, i * 2, none⟩) (n + 1 - i) dc, .slice (some ⟨vb, 0, none⟩) 1 1]).run Tryz.prog W = .ok (goInt 1) (W.setCells w.heap.size (i * 2) (Sp.cs s)) := fun W hWc hWf ty dc =>
    run_copy_z W 75 75 ty 82 2 w.heap.size (i * 2) (n + 1 - i) dc ⟨vb, 0, none⟩ 1 1 1 (Sp.cs s) Tryz.underlying75 Tryz.map82 (by simp only [Nat.min_def]; split <;> omega) rfl
      (fun j u hj => by rw [hWc]; exact cell_below hBel (hVr j u hj))
      (fun j hj => by
        have hj' : j < 2 := hj
        rw [hWc]; exact hN _ (by omega))
      (fun j hj => by rw [hWf]; exact hNf _) hs1
  have hne : g ≠ w.heap.size := by omega
  have hcpB : ∀ (W : World), (∀ x, W.cell? x = (W1.setCells w.heap.size (i * 2) (Sp.cs s)).cell? x) → (∀ x, W.frozen? x = (W1.setCells w.heap.size (i * 2) (Sp.cs s)).frozen? x) → ∀ ty dc sc, (Builtin.copy_ #[75, 75] ty #[.slice (some ⟨w.heap.size, (i + 1) * 2, none⟩) (n + 1 - (i + 1)) dc, .slice (some ⟨g, i * 2, none⟩) (n - i) sc]).run Tryz.prog W = .ok (goInt ((n - i : Nat) : Int)) (W.setCells w.heap.size ((i + 1) * 2) B) := fun W hWc hWf ty dc sc =>
    run_copy_z W 75 75 ty 82 2 w.heap.size ((i + 1) * 2) (n + 1 - (i + 1)) dc ⟨g, i * 2, none⟩ (n - i) sc (n - i) B Tryz.underlying75 Tryz.map82 (by simp only [Nat.min_def]; split <;> omega) hBl
      (fun j u hj => by
        rw [Addr.add_lit, hWc, World.cell?_setCells_out _ _ _ _ _ (fun h _ => absurd h hne)]
        refine cell_below hBel (hread _ _ ?_)
        rw [← hBd, List.getElem?_drop] at hj
        exact hj)
      (fun j hj => by
        rw [hBl] at hj
        rw [hWc]
        exact isSome_setCells w.heap.size (Sp.cs s) (i * 2) W1 (fun t ht => hN (i * 2 + t) (by have : t < 2 := ht; omega)) ((i + 1) * 2 + j) (hN ((i + 1) * 2 + j) (by omega)))
      (fun j hj => by rw [hWf, World.frozen?_setCells]; exact hNf _) hB1
  have FIN : Hid (∀ W2 : World, W2 = (((w.alloc (.cells ROW 82)).drew.setCells w.heap.size (i * 2) (Sp.cs s)).drew).setCells w.heap.size ((i + 1) * 2) B → InsPost w base (.slice (some ⟨g, 0, none⟩) S.length cap) S i s (.returned (.slice (some ⟨w.heap.size, 0, none⟩) (n + 1) G)) W2) := fun W2 hW2 => by
    obtain ⟨cur1, b1, b2⟩ := setCells_block w.heap.size (e := 82) (fr := (0, 0)) (Sp.cs s) (i * 2) (w.alloc (.cells ROW 82)).drew ROW (new_at w _ _ rfl) (by rw [Sp.z, hRs]; omega)
    have hR0 : ROW.toList = A ++ Z := by rw [hROW]
    have hc1 : cur1.toList.length = G * 2 := by
      rw [b2, List.length_append, List.length_append, List.length_take, List.length_drop, Sp.z, Array.length_toList, hRs]; omega
    have hcs1 : cur1.size = G * 2 := by simpa using hc1
    obtain ⟨cur2, c1, c2⟩ := setCells_block w.heap.size (e := 82) (fr := (0, 0)) B ((i + 1) * 2) (((w.alloc (.cells ROW 82)).drew.setCells w.heap.size (i * 2) (Sp.cs s)).drew) cur1 b1 (by rw [hcs1, hBl]; omega)
    have hc2 : cur2.toList.length = G * 2 := by
      rw [c2, List.length_append, List.length_append, List.length_take, List.length_drop, hBl]; omega
    have hrow := fresh_row A B Z (Sp.cs s) cur1.toList cur2.toList (i * 2) ((n - i) * 2) hAl hBl rfl (by rw [hZl]; omega) (by rw [b2, hR0]) (by rw [c2, show (i + 1) * 2 = i * 2 + 2 by omega])
    rw [hW2]
    refine ⟨w.heap.size, G, by rw [hn], ⟨?_, .inr ⟨w.heap.size, G, cur2, rfl, hbase, c1, by omega, hGm, by simpa using hc2, ?_⟩⟩, ?_, .inr (Nat.le_refl _)⟩
    · rw [flatG_length Sp.z, insS_length (by omega)]
    · rw [hn, show (n + 1) * 2 = i * 2 + 2 + (n - i) * 2 by omega, hrow, insS_flat, hB, hA]
    · have hg := grownBy_sets (w.alloc (.cells ROW 82)) w.heap.size (i * 2) ((i + 1) * 2) (Sp.cs s) B
      obtain ⟨a1, a2, a3⟩ := setCells_rest w.heap.size (Sp.cs s) (i * 2) (w.alloc (.cells ROW 82)).drew
      obtain ⟨d1, d2, d3⟩ := setCells_rest w.heap.size B ((i + 1) * 2) (((w.alloc (.cells ROW 82)).drew.setCells w.heap.size (i * 2) (Sp.cs s)).drew)
      refine ⟨d1.trans a1, d2.trans a2, d3.trans a3, ?_, fun k hk _ => ?_⟩
      · rw [setCells_size]
        show _ ≤ ((w.alloc (.cells ROW 82)).drew.setCells w.heap.size (i * 2) (Sp.cs s)).heap.size
        rw [setCells_size]
        show w.heap.size ≤ (w.alloc (.cells ROW 82)).heap.size
        simp
      · rw [setCells_other _ _ _ _ k (by omega)]
        show ((w.alloc (.cells ROW 82)).drew.setCells w.heap.size (i * 2) (Sp.cs s)).heap[k]? = _
        rw [setCells_other _ _ _ _ k (by omega)]
        exact Below.heap_alloc w _ k hk
  obtain ⟨Y, hY⟩ : ∃ Y, Sp.cs s = Y := ⟨_, rfl⟩
  rw [hY] at FIN hcpA hcpB
  rw [hn] at FIN ⊢
  clear h hread hBd hAt hAl hA hB hBl hB1 hVr hs1 hY hv hi hroom hold hZ hZl hROW hRs hN hNf hWat hG hnc hGm hBel hik
  subst hW1
  have hE1 : ∀ x, ((w.alloc (.cells ROW 82)).drew).cell? x = (w.drew.alloc (.cells ROW 82)).cell? x := fun x => rfl
  have hE2 : ∀ x, ((w.alloc (.cells ROW 82)).drew).frozen? x = (w.drew.alloc (.cells ROW 82)).frozen? x := fun x => rfl
  have hF1 : ∀ x, (((w.alloc (.cells ROW 82)).drew.setCells w.heap.size (i * 2) Y).drew).cell? x = ((w.drew.alloc (.cells ROW 82)).setCells w.heap.size (i * 2) Y).cell? x := fun x => rfl
  have hF2 : ∀ x, (((w.alloc (.cells ROW 82)).drew.setCells w.heap.size (i * 2) Y).drew).frozen? x = ((w.drew.alloc (.cells ROW 82)).setCells w.heap.size (i * 2) Y).frozen? x := fun x => rfl
  have k1 : IntKind.i64.wrap ((i : Int) + 1) = (i : Int) + 1 := by rw [IntKind.wrap_i64]; omega
  have k2 : ((i : Int) + 1).toNat = i + 1 := by omega
  have j1 : (i : Int) ≤ (n : Int) := by omega
  have j2 : ¬ ((i : Int) = (n : Int)) := by omega
  have j3 : (cap : Int) < (n : Int) + 1 := by omega
  have j5 : (i : Int) + 1 ≤ (n : Int) + 1 := by omega
  have j6 : (i : Int) ≤ (n : Int) + 1 := by omega
  have j7 : ¬ (G = i + 1) := by omega
  have j8 : ¬ (G = i) := by omega
  have j9 : (0 : Int) ≤ (i : Int) + 1 := by omega
  have j10 : ¬ (cap = i) := by omega
  have j11 : i ≤ cap := by omega
  have j12 : i ≤ n := by omega
  clear hkk
  go_enter Tryz.func65, Tryz.ntmps65
  go_wp2_with (first
    | (at_builtin; refine Lib.wpList_append_run _ rfl _ _ _ _ rfl _ _ rfl rfl _ _ (hrz _) ?_)
    | (at_builtin; refine wpList_copy_runI _ rfl _ _ 75 75 rfl _ _ rfl rfl (hcpA _ hE1 hE2 _ _) ?_))
  go_region_law (refine step_copy_runI rfl _ _ 75 75 rfl (.slice (some ⟨w.heap.size, (i + 1) * 2, none⟩) (n + 1 - (i + 1)) (G - (i + 1))) (.slice (some ⟨g, i * 2, none⟩) (n - i) (cap - i)) (by simp [Act.eval, Act.put]) (by simp [Act.eval, Act.put]) (hcpB _ hF1 hF2 3 (G - (i + 1)) (cap - i)) ?_)
  go_wp2
  go_ret
  exact FIN.out _ rfl
theorem insert_at {w : World} {base vb i : Nat} {v : Value} {S : List Sp} {s : Sp} (h : w.ownsRow base 82 2 v S.length (flatG Sp.cs S)) (hl : S.length ≤ 1000) (hi : i ≤ S.length) (hv : w.heap[vb]? = some (.cells #[.int .i64 s.id, .int .u32 (s.c : Nat)] 82 (0, 0))) (hne : v.ownBlock ≠ some vb) (hbase : base ≤ w.heap.size) :
    Calls Tryz.prog 65 #[v, .int .i64 (i : Nat), .slice (some ⟨vb, 0, none⟩) 1 1] w (InsPost w base v S i s) := by
  by_cases he : i = S.length
  · subst he
    exact insert_end h hl hv hbase
  · obtain ⟨p, c, rfl⟩ := owns_slice h
    obtain ⟨g, rfl, -⟩ := owns_some h (by omega)
    by_cases hr : S.length + 1 ≤ c
    · exact insert_shift h hl (by omega) hr hv (fun e => hne (by rw [e]; rfl)) hbase
    · exact insert_grow h hl (by omega) (by omega) hv hbase
end Go.Proofs.YtildhbkcpehobaaGreatDoor
