/- Contracts of Depth, Len, New, Copy over this translation: each returns what the plain functions say, and changes nothing that was there. Laws, of no function: copy and clear over rows of structs; what a row holds behind stores into a stretch of it. Contracts of slices.Delete and slices.Insert at spots over this translation, of one element: the row that they leave; nothing else that was there is changed. Contract of slices.Insert at spots over this translation, of one element: the row that it leaves; nothing else that was there is changed. Contract of slices.Insert at spots over this translation, of one element ahead of another, where there is room: the row that it leaves; nothing else that was there is changed. Contract of slices.Insert at spots over this translation, of one element ahead of another, where there is no room: the new row; nothing that was there is changed. And all roads together. -/
import Derived.Test.YtfoncphdbaaedaaGreatDoorQB
import Derived.Shelf.Spec.SlicesInsertGrow
namespace Go.Proofs.YtfoncphdbaaedaaGreatDoor
section
open Go.RowKit
set_option linter.unusedVariables false
def maxD (T : List Sq) : Nat := T.foldl (fun a s => max a s.d) 0
/-- what Depth tells -/
def depN (S : List Sp) : Nat := maxD (lv S ⟨0, 0, 64, 64⟩ ⟨0, 0⟩)
theorem maxD_take {T : List Sq} {k : Nat} {s : Sq} (h : T[k]? = some s) : maxD (T.take (k + 1)) = max (maxD (T.take k)) s.d := by
  rw [List.take_add_one, h]
  simp [maxD]
theorem root_rect : rectS ⟨0, 0⟩ = ⟨0, 0, 64, 64⟩ := by
  have h1 : plX 0 = 0 := by decide +kernel
  have h2 : plY 0 = 0 := by decide +kernel
  unfold rectS
  simp only [h1, h2]
  rfl
theorem tree_len {w : World} {base tb : Nat} {v : Value} {S : List Sp} (h : Tr w base tb v S) :
    Calls Tryz.prog 95 #[.pointer (some ⟨tb, 0, none⟩)] w fun e w' => e = .returned (.int .i64 (S.length : Nat)) ∧ w' = w := by
  obtain ⟨p, cap, rfl, hr, hc, hm⟩ := h.row
  have hcell := (cells_at h.at_).1
  clear h hr
  obtain ⟨n, hn⟩ : ∃ n, S.length = n := ⟨_, rfl⟩
  rw [hn] at hcell ⊢
  clear hn
  go_enter Tryz.func95, Tryz.ntmps95
  go_wp2
  go_ret
  exact ⟨rfl, rfl⟩
theorem ob_nil : ob (.slice none 0 0) = [] := rfl
theorem tree_new (w : World) : Calls Tryz.prog 29 #[] w fun e w' => e = .returned (.pointer (some ⟨w.heap.size, 0, none⟩)) ∧ Tr w' w.heap.size w.heap.size (.slice none 0 0) [] ∧ Below w.heap.size w w' := by
  go_enter Tryz.func29, Tryz.ntmps29
  go_wp2
  go_ret
  exact ⟨rfl, ⟨new_at _ _ _ rfl, World.ownsRow_nil _ _ _ _, by rw [ob_nil]; simp, Nat.le_refl _⟩, below1 _ _⟩
theorem Tryz.info90 : (Tryz.prog.info? 90).map (fun i => (i.zero, i.size, i.bytes)) = some (some (.agg #[.int .i64 0, .int .u32 0]), 2, 16) := by kernel_rfl
theorem spots_cell (S : List Sp) : ∀ u ∈ flatG Sp.cs S, u.oneCell' = true := by
  intro u hu
  obtain ⟨a, _, hu⟩ := List.mem_flatMap.1 hu
  simp [Sp.cs] at hu
  rcases hu with rfl | rfl <;> rfl
theorem owns_read {base : Nat} {e : TypeId} {z : Nat} {g n cap : Nat} {xs : List Value} {w : World} (h : w.ownsRow base e z (.slice (some ⟨g, 0, none⟩) n cap) n xs) : ∀ j u, xs[j]? = some u → w.cell? ⟨g, j, none⟩ = some u := by
  intro j u hu
  rw [h.cellAt j (by have := (List.getElem?_eq_some_iff.1 hu).1; rw [h.1] at this; exact this)]
  exact hu
set_option maxHeartbeats 1000000 in
theorem clone_at {w : World} {base : Nat} {v : Value} {S : List Sp} (h : w.ownsRow base 90 2 v S.length (flatG Sp.cs S)) (hl : S.length ≤ 1000) :
    Calls Tryz.prog 44 #[v] w fun e w' => ∃ v', e = .returned v' ∧ w'.ownsRow w.heap.size 90 2 v' S.length (flatG Sp.cs S) ∧ Below w.heap.size w w' := by
  obtain ⟨i0, hi, hz0, hz1, hz2⟩ := info_parts3 Tryz.info90
  rcases h.2 with ⟨rfl, h2⟩ | ⟨g, cap, cur, rfl, h2, h3, h4, h5, h6, h7⟩
  · have hS : S = [] := List.length_eq_zero_iff.1 h2
    subst hS
    clear h
    have q57 : ∀ (w : World) (a : Option Addr) (n c n' c' : Nat), (binOp .eql 83 (.slice a n c) (.slice none n' c')).run Tryz.prog w = .ok (.bool a.isNone) w := fun w a n c n' c' => Lib.run_eql_slice_nil w _ _ a n c n' c' Tryz.underlying83
    go_enter Tryz.func44, Tryz.ntmps44
    go_wp2
    go_ret
    exact ⟨_, rfl, World.ownsRow_nil _ _ _ _, Below.refl _ _⟩
  · have A := hid (owns_read h)
    have hfl := hid h.1
    have h1c := hid (spots_cell S)
    clear h h3 h6 h7
    obtain ⟨n, hn⟩ : ∃ n, S.length = n := ⟨_, rfl⟩
    obtain ⟨X, hX⟩ : ∃ X, flatG Sp.cs S = X := ⟨_, rfl⟩
    rw [hn] at hl h4 hfl ⊢
    rw [hX] at A hfl h1c ⊢
    clear hn hX
    have q57 : ∀ (w : World) (a : Option Addr) (n c n' c' : Nat), (binOp .eql 83 (.slice a n c) (.slice none n' c')).run Tryz.prog w = .ok (.bool a.isNone) w := fun w a n c n' c' => Lib.run_eql_slice_nil w _ _ a n c n' c' Tryz.underlying83
    go_enter Tryz.func44, Tryz.ntmps44
    go_wp2_with (at_builtin; refine wpList_append_own _ rfl _ _ 83 rfl w.heap.size 90 i0 (.agg #[.int .i64 0, .int .u32 0]) 2 16 Tryz.underlying83 hi hz0 hz1 hz2 rfl (by decide) _ _ _ rfl (World.ownsRow_made w #[] 0 (Nat.le_refl _) (Nat.zero_le _) (by simp)) ⟨g, 0, none⟩ n cap X rfl hfl.out (fun j u hj => by rw [Addr.add_lit, Nat.zero_add]; exact cell_below (below1 _ _) (A.out j u hj)) h1c.out (by unfold maxLen; omega) (by omega) (by simp) ?_)
    intro v' w1 hown hgrow hnil
    go_wp2
    go_ret
    exact ⟨v', rfl, by simpa using hown, ((Below.refl _ w).alloc (Nat.le_refl _) _).grown hgrow (by simp) (by intro k hk; simp [Value.ownBlock] at hk; omega)⟩
theorem tree_copy {w : World} {base tb : Nat} {v : Value} {S : List Sp} (h : Tr w base tb v S) (hl : S.length ≤ 1000) :
    Calls Tryz.prog 31 #[.pointer (some ⟨tb, 0, none⟩)] w fun e w' => ∃ cb v', e = .returned (.pointer (some ⟨cb, 0, none⟩)) ∧ Tr w' w.heap.size cb v' S ∧ Below w.heap.size w w' := by
  have C := clone_at h.own hl
  have hcell := (cells_at h.at_).1
  have hv : ∃ p n c, v = .slice p n c := by
    obtain ⟨p, c, e⟩ := owns_slice h.own
    exact ⟨p, _, c, e⟩
  clear h
  obtain ⟨p, n, c, rfl⟩ := hv
  go_enter Tryz.func31, Tryz.ntmps31
  go_wp2_with fail
  refine C.mono ?_
  rintro x W1 ⟨v', rfl, hown, hb⟩
  clear C
  obtain ⟨p', c', rfl⟩ := owns_slice hown
  go_wp2
  go_ret
  refine ⟨W1.heap.size, _, rfl, ⟨new_at _ _ _ rfl, hown.alloc _, ?_, hb.size⟩, below_on hb (below1 _ _)⟩
  intro hm
  have := (hown.lt _ (mem_ob.1 hm)).2
  omega
end
section
open Go.RowKit
set_option linter.unusedVariables false
theorem run_copy_z {P : Program} (w : World) (dT sT ty elem : TypeId) (z : Nat) (b o dLen dCap : Nat) (a : Addr) (sLen sCap m : Nat) (cs : List Value)
    (hu : P.underlying dT = some (.slice elem)) (hs : (P.info? elem).map (·.size) = some z) (hm : Nat.min sLen dLen = m) (hn : cs.length = m * z)
    (hsrc : ∀ j v, cs[j]? = some v → w.cell? (a.add j) = some v) (hc : ∀ j, j < cs.length → (w.cell? ⟨b, o + j, none⟩).isSome = true) (hf : ∀ j, j < cs.length → w.frozen? ⟨b, o + j, none⟩ = false) (h1 : ∀ v ∈ cs, v.oneCell' = true) :
    (Builtin.copy_ #[dT, sT] ty #[.slice (some ⟨b, o, none⟩) dLen dCap, .slice (some a) sLen sCap]).run P w = .ok (goInt m) (w.setCells b o cs) := by
  have hl := run_loadCells_list (P := P) w a cs hsrc
  have hst := run_storeCells_cells (P := P) b o cs 0 w (by simpa using hc) (by simpa using hf) h1
  rw [hn] at hl
  cases hq : P.info? elem with
  | none => simp [hq] at hs
  | some i =>
    have hi : i.size = z := by simpa [hq] using hs
    simp [Builtin.copy_, run_underlying hu, Builtin.lenOf, Builtin.firstCells, sizeOf, typeInfo, hq, hi, hm, hl, hst]
theorem run_clear_one {P : Program} (w : World) (t e ty : TypeId) (z : Value) (x y : Value) (ht : P.underlying t = some (.slice e)) (hv : ∀ w, (zeroValue e).run P w = .ok z w) (hz : z.cells = #[x, y]) (hx : x.oneCell' = true) (hy : y.oneCell' = true) (b o c : Nat)
    (hc : ∀ j, j < 2 → (w.cell? ⟨b, o + j, none⟩).isSome = true) (hf : ∀ j, j < 2 → w.frozen? ⟨b, o + j, none⟩ = false) :
    (Builtin.clear_ #[t] ty #[.slice (some ⟨b, o, none⟩) 1 c]).run P w = .ok (.tuple #[]) (w.setCells b o [x, y]) := by
  have hzc : (Builtin.zeroCells z.cells 1).toList = [x, y] := by
    rw [hz]
    simp [Builtin.zeroCells]
    apply List.ext_getElem
    · simp
    · intro i h1 h2
      have : i = 0 ∨ i = 1 := by simp at h2; omega
      rcases this with rfl | rfl <;> simp
  have hst := run_storeCells_cells (P := P) b o [x, y] 0 w (by simpa using hc) (by simpa using hf) (by intro v hv'; simp at hv'; rcases hv' with rfl | rfl <;> assumption)
  simp only [Nat.add_zero] at hst
  simp [Builtin.clear_, run_underlying ht, hv, hzc, hst]
theorem setCells_other (g : Nat) : ∀ (vs : List Value) (o : Nat) (W : World) (k : Nat), k ≠ g → (W.setCells g o vs).heap[k]? = W.heap[k]?
  | [], _, _, _, _ => rfl
  | v :: r, o, W, k, h => by rw [World.setCells, setCells_other g r _ _ k h, Below.heap_setCell _ _ _ _ h]
theorem setCells_size (g : Nat) : ∀ (vs : List Value) (o : Nat) (W : World), (W.setCells g o vs).heap.size = W.heap.size
  | [], _, _ => rfl
  | v :: r, o, W => by rw [World.setCells, setCells_size g r]; simp [World.setCell]
theorem setCells_rest (g : Nat) : ∀ (vs : List Value) (o : Nat) (W : World), (W.setCells g o vs).os = W.os ∧ (W.setCells g o vs).tape = W.tape ∧ (W.setCells g o vs).output = W.output
  | [], _, _ => ⟨rfl, rfl, rfl⟩
  | v :: r, o, W => by
    obtain ⟨a, b, c⟩ := setCells_rest g r (o + 1) (W.setCell ⟨g, o, none⟩ v)
    rw [World.setCells]
    exact ⟨a, b, c⟩
/-- what a row holds behind stores into a stretch of it -/
theorem setCells_block (g : Nat) {e : TypeId} {fr : Nat × Nat} : ∀ (vs : List Value) (o : Nat) (W : World) (cur : Array Value), W.heap[g]? = some (.cells cur e fr) → o + vs.length ≤ cur.size →
    ∃ cur' : Array Value, (W.setCells g o vs).heap[g]? = some (.cells cur' e fr) ∧ cur'.toList = cur.toList.take o ++ vs ++ cur.toList.drop (o + vs.length)
  | [], o, W, cur, h, _ => ⟨cur, h, by simp⟩
  | v :: r, o, W, cur, h, hl => by
    have h1 := set_at (i := o) h v (cs' := cur.setIfInBounds o v) rfl
    simp only [List.length_cons] at hl
    obtain ⟨cur', h2, h3⟩ := setCells_block g r (o + 1) _ _ h1 (by simp; omega)
    refine ⟨cur', by rw [World.setCells]; exact h2, ?_⟩
    rw [h3, Array.toList_setIfInBounds]
    have hlt : o < cur.toList.length := by simp; omega
    rw [List.take_set, List.drop_set, if_pos (by omega)]
    have e1 : (cur.toList.take (o + 1)).set o v = cur.toList.take o ++ [v] := by
      rw [List.take_add_one, List.getElem?_eq_getElem hlt]
      have : (cur.toList.take o).length = o := by rw [List.length_take]; omega
      rw [List.set_append, if_neg (by omega), this, Nat.sub_self]
      rfl
    rw [e1, List.length_cons, show o + 1 + r.length = o + (r.length + 1) by omega]
    simp
end
section
open Go.RowKit
set_option linter.unusedVariables false
def delS {α : Type} (S : List α) (i : Nat) : List α := S.take i ++ S.drop (i + 1)
def insS {α : Type} (S : List α) (i : Nat) (s : α) : List α := S.take i ++ s :: S.drop i
theorem delS_length {α : Type} {S : List α} {i : Nat} (h : i < S.length) : (delS S i).length = S.length - 1 := by
  unfold delS
  rw [List.length_append, List.length_take, List.length_drop]; omega
theorem insS_length {α : Type} {S : List α} {i : Nat} {s : α} (h : i ≤ S.length) : (insS S i s).length = S.length + 1 := by
  unfold insS
  rw [List.length_append, List.length_take, List.length_cons, List.length_drop]; omega
theorem Tryz.zero90 (w : World) : (zeroValue 90).run Tryz.prog w = .ok (.agg #[.int .i64 0, .int .u32 0]) w := by kernel_rfl
theorem grownBy_sets (W : World) (g : Nat) (o1 o2 : Nat) (v1 v2 : List Value) : W.grownBy ((W.setCells g o1 v1).setCells g o2 v2) (some g) := by
  obtain ⟨a1, a2, a3⟩ := setCells_rest g v1 o1 W
  obtain ⟨b1, b2, b3⟩ := setCells_rest g v2 o2 (W.setCells g o1 v1)
  refine ⟨b1.trans a1, b2.trans a2, b3.trans a3, by rw [setCells_size, setCells_size]; exact Nat.le_refl _, fun k hk hne => ?_⟩
  have h : k ≠ g := fun e => hne (by rw [e])
  rw [setCells_other g _ _ _ k h, setCells_other g _ _ _ k h]
set_option maxHeartbeats 4000000 in
set_option maxRecDepth 100000 in
theorem delete_at {w : World} {base : Nat} {v : Value} {S : List Sp} {i : Nat} (h : w.ownsRow base 90 2 v S.length (flatG Sp.cs S)) (hl : S.length ≤ 1000) (hi : i < S.length) :
    Calls Tryz.prog 119 #[v, .int .i64 (i : Nat), .int .i64 (i + 1 : Nat)] w fun e w' => ∃ v', e = .returned v' ∧ w'.ownsRow base 90 2 v' (delS S i).length (flatG Sp.cs (delS S i)) ∧ w.grownBy w' v.ownBlock ∧ v'.ownBlock = v.ownBlock := by
  obtain ⟨i0, hi0, hz0, hz1, hz2⟩ := info_parts3 Tryz.info90
  rcases h.2 with ⟨rfl, h2⟩ | ⟨g, cap, cur, rfl, h2, h3, h4, h5, h6, h7⟩
  · omega
  · obtain ⟨n, hn⟩ : ∃ n, S.length = n := ⟨_, rfl⟩
    have hcap : cap ≤ 9223372036854775807 := by unfold maxLen at h5; omega
    have h4' : n ≤ cap := by rw [← hn]; exact h4
    have hi' : i < n := by rw [← hn]; exact hi
    obtain ⟨news, hnews⟩ : ∃ news, news = flatG Sp.cs (S.drop (i + 1)) := ⟨_, rfl⟩
    have hnl : news.length = (n - (i + 1)) * 2 := by rw [hnews, flatG_length Sp.z, List.length_drop, hn]
    have hdrop : (flatG Sp.cs S).drop ((i + 1) * 2) = news := by rw [flatG_drop Sp.z, hnews]
    have hread := owns_read h
    have hcellS : ∀ j, j < cap * 2 → (w.cell? ⟨g, j, none⟩).isSome = true := fun j hj => by
      rw [Go.Joins.cell_of_block h3 j, Array.getElem?_eq_getElem (by rw [h6]; exact hj)]; rfl
    have hfz : ∀ j, w.frozen? ⟨g, j, none⟩ = false := fun j => Go.Joins.unfrozen_of_block h3 j
    obtain ⟨A, hA, hsrc⟩ : ∃ A : Addr, (if cap = i + 1 then some (⟨g, 0, none⟩ : Addr) else some ⟨g, (i + 1) * 2, none⟩) = some A ∧ Hid (∀ t u, news[t]? = some u → w.drew.cell? (A.add t) = some u) := by
      by_cases hc : cap = i + 1
      · refine ⟨⟨g, 0, none⟩, by simp [hc], fun t u hu => ?_⟩
        have h0 : news.length = 0 := by rw [hnl]; omega
        rw [List.length_eq_zero_iff.1 h0] at hu
        simp at hu
      · refine ⟨⟨g, (i + 1) * 2, none⟩, by simp [hc], fun t u hu => ?_⟩
        rw [Addr.add_lit]
        refine hread _ _ ?_
        rw [← hdrop, List.getElem?_drop] at hu
        exact hu
    have s1 := hid hnl
    have s2 : Hid (∀ u ∈ news, u.oneCell' = true) := by rw [hnews]; exact spots_cell _
    have s3 : Hid (∀ t, t < news.length → (w.drew.cell? ⟨g, 0 + i * 2 + t, none⟩).isSome = true ∧ w.drew.frozen? ⟨g, 0 + i * 2 + t, none⟩ = false) := by
      intro t ht
      rw [hnl] at ht
      exact ⟨hcellS _ (by omega), hfz _⟩
    obtain ⟨W1, hW1⟩ : ∃ W1, W1 = w.drew.setCells g (0 + i * 2) news := ⟨_, rfl⟩
    have hcl : ∀ ty c, (Builtin.clear_ #[83] ty #[.slice (some ⟨g, (i + (n - (i + 1))) * 2, none⟩) (n - (i + (n - (i + 1)))) c]).run Tryz.prog W1 = .ok (.tuple #[]) (W1.setCells g ((i + (n - (i + 1))) * 2) [.int .i64 0, .int .u32 0]) := fun ty c => by
      rw [show n - (i + (n - (i + 1))) = 1 by omega]
      exact run_clear_one W1 83 90 ty _ _ _ Tryz.underlying83 Tryz.zero90 rfl rfl rfl g _ c (fun j hj => by
        rw [hW1]
        exact isSome_setCells g news (0 + i * 2) w.drew (fun t ht => hcellS (0 + i * 2 + t) (by rw [hnl] at ht; omega)) ((i + (n - (i + 1))) * 2 + j) (hcellS ((i + (n - (i + 1))) * 2 + j) (by omega))) (fun j hj => by
        rw [hW1, World.frozen?_setCells]; exact hfz _)
    have hW := hid hW1
    have e1 : i + (n - (i + 1)) = n - 1 := by omega
    have FIN : Hid ((W1.setCells g ((i + (n - (i + 1))) * 2) [.int .i64 0, .int .u32 0]).ownsRow base 90 2 (.slice (some ⟨g, 0, none⟩) (n - 1) cap) (n - 1) (flatG Sp.cs (delS S i)) ∧ w.grownBy (W1.setCells g ((i + (n - (i + 1))) * 2) [.int .i64 0, .int .u32 0]) (some g)) := by
      obtain ⟨cur1, b1, b2⟩ := setCells_block g (e := 90) (fr := (0, 0)) news (0 + i * 2) w.drew cur h3 (by rw [hnl, h6]; omega)
      have hs1 : cur1.size = cap * 2 := by
        have : cur1.toList.length = cap * 2 := by
          rw [b2, List.length_append, List.length_append, List.length_take, List.length_drop, hnl]
          have : cur.toList.length = cap * 2 := by simpa using h6
          omega
        simpa using this
      obtain ⟨cur2, c1, c2⟩ := setCells_block g (e := 90) (fr := (0, 0)) [.int .i64 0, .int .u32 0] ((i + (n - (i + 1))) * 2) W1 cur1 (by rw [hW1]; exact b1) (by rw [hs1]; simp; omega)
      have hs2 : cur2.size = cap * 2 := by
        have : cur2.toList.length = cap * 2 := by
          rw [c2, List.length_append, List.length_append, List.length_take, List.length_drop]
          have : cur1.toList.length = cap * 2 := by simpa using hs1
          simp
          omega
        simpa using this
      have hdl : (delS S i).length = n - 1 := by rw [delS_length hi, hn]
      refine ⟨⟨by rw [flatG_length Sp.z, hdl], .inr ⟨g, cap, cur2, rfl, h2, c1, by omega, h5, hs2, ?_⟩⟩, ?_⟩
      · have hcl1 : cur.toList.length = cap * 2 := by simpa using h6
        have t1 : cur.toList.take (0 + i * 2) = flatG Sp.cs (S.take i) := by
          have : cur.toList.take (0 + i * 2) = (cur.toList.take (n * 2)).take (i * 2) := by rw [List.take_take, Nat.zero_add, Nat.min_eq_left (by omega)]
          rw [this, ← hn, h7, flatG_take Sp.z]
        have l1 : (flatG Sp.cs (S.take i)).length = i * 2 := by rw [flatG_length Sp.z, List.length_take]; omega
        rw [c2, e1]
        rw [t1] at b2
        have t2 : cur1.toList.take ((n - 1) * 2) = flatG Sp.cs (delS S i) := by
          rw [b2]
          unfold delS
          rw [flatG_append, ← hnews]
          rw [List.take_append_of_le_length (by rw [List.length_append, l1, hnl]; omega), List.take_of_length_le (by rw [List.length_append, l1, hnl]; omega)]
        rw [t2, List.append_assoc, List.take_append_of_le_length (by rw [flatG_length Sp.z, hdl]; omega), List.take_of_length_le (by rw [flatG_length Sp.z, hdl]; omega)]
      · rw [hW1]
        have hg := grownBy_sets w.drew g (0 + i * 2) ((i + (n - (i + 1))) * 2) news [.int .i64 0, .int .u32 0]
        exact ⟨hg.os, hg.tape, hg.output, hg.size, hg.block⟩
    have hdl' : Hid ((delS S i).length = n - 1) := by show (delS S i).length = n - 1; rw [delS_length hi, hn]
    rw [hdl'.out]
    obtain ⟨X, hX⟩ : ∃ X, flatG Sp.cs (delS S i) = X := ⟨_, rfl⟩
    rw [hX] at FIN ⊢
    rw [hn] at hi hl h4 ⊢
    clear h h3 h6 h7 hread hcellS hfz hdrop hnews hnl hW1 hn hX hdl' e1
    have j1 : (i : Int) ≤ (n : Int) := by omega
    have j2 : (i : Int) + 1 ≤ (n : Int) := by omega
    have j3 : ¬ ((i : Int) = (i : Int) + 1) := by omega
    have j4 : i ≤ cap := by omega
    have j5 : i + 1 ≤ cap := by omega
    have j6 : i + 1 ≤ n := by omega
    have j7 : (n : Int) ≤ (cap : Int) := by omega
    have j8 : (0 : Int) ≤ (i : Int) + 1 := by omega
    go_enter Tryz.func119, Tryz.ntmps119
    go_wp2_with fail
    go_region_law (refine step_append_room rfl (.tmp 22) (.tmp 25) 83 rfl 90 i0 2 Tryz.underlying83 hi0 hz1 g 0 i cap (by simp [Act.eval, Act.put]) A (n - (i + 1)) (cap - (i + 1)) news (by simp [Act.eval, Act.put]) s1.out hsrc.out s2.out (by omega) s3.out ?_; rw [← hW.out])
    go_wp2
    go_ret
    refine ⟨_, rfl, ?_, FIN.out.2, rfl⟩
    have := FIN.out.1
    rwa [show n - 1 = i + (n - (i + 1)) by omega] at this ⊢
end
section
open Go.RowKit
set_option linter.unusedVariables false
theorem Tryz.size90 (w : World) : (Go.sizeOf 90).run Tryz.prog w = .ok 2 w := by kernel_rfl
theorem Tryz.map90 : (Tryz.prog.info? 90).map (·.size) = some 2 := by kernel_rfl
theorem insS_end {α : Type} (S : List α) (s : α) : insS S S.length s = S ++ [s] := by simp [insS]
def InsPost (w : World) (base : Nat) (v : Value) (S : List Sp) (i : Nat) (s : Sp) : Ending → World → Prop := fun e w' => ∃ g' cap', e = .returned (.slice (some ⟨g', 0, none⟩) (S.length + 1) cap') ∧ w'.ownsRow base 90 2 (.slice (some ⟨g', 0, none⟩) (S.length + 1) cap') (S.length + 1) (flatG Sp.cs (insS S i s)) ∧ w.grownBy w' v.ownBlock ∧ (v.ownBlock = some g' ∨ w.heap.size ≤ g')
set_option maxHeartbeats 2000000 in
set_option maxRecDepth 100000 in
theorem insert_end {w : World} {base vb : Nat} {v : Value} {S : List Sp} {s : Sp} (h : w.ownsRow base 90 2 v S.length (flatG Sp.cs S)) (hl : S.length ≤ 1000) (hv : w.heap[vb]? = some (.cells #[.int .i64 s.id, .int .u32 (s.c : Nat)] 90 (0, 0))) (hbase : base ≤ w.heap.size) :
    Calls Tryz.prog 121 #[v, .int .i64 (S.length : Nat), .slice (some ⟨vb, 0, none⟩) 1 1] w (InsPost w base v S S.length s) := by
  obtain ⟨i0, hi0, hz0, hz1, hz2⟩ := info_parts3 Tryz.info90
  have HO := hid h
  have HV := hid (show ∀ j u, (Sp.cs s)[j]? = some u → w.cell? ((⟨vb, 0, none⟩ : Addr).add j) = some u from World.news_of_block hv)
  have hfin : ∀ g' cap' w', w'.ownsRow base 90 2 (.slice (some ⟨g', 0, none⟩) (S.length + 1) cap') (S.length + 1) (flatG Sp.cs S ++ Sp.cs s) → w.grownBy w' v.ownBlock → (v.ownBlock = some g' ∨ g' = w.heap.size) → InsPost w base v S S.length s (.returned (.slice (some ⟨g', 0, none⟩) (S.length + 1) cap')) w' := fun g' cap' w' h1 h2 h3 =>
    ⟨g', cap', rfl, by rw [insS_end, flatG_append, flatG_one]; exact h1, h2, h3.imp id (fun e => by omega)⟩
  have FIN := hid hfin
  clear hfin
  have hvs := owns_slice h
  have hcp : ∀ p c, v = .slice p S.length c → S.length ≤ c ∧ c ≤ maxLen ∧ ∀ q, p ≠ some q ∨ ∃ g, p = some ⟨g, 0, none⟩ := by
    intro p c e
    subst e
    rcases h.2 with ⟨h1, h2⟩ | ⟨g, cap', cur, h1, _, _, h2, h3, _⟩
    · simp only [Value.slice.injEq] at h1
      obtain ⟨rfl, _, rfl⟩ := h1
      exact ⟨by omega, by unfold maxLen; omega, fun q => .inl (by simp)⟩
    · simp only [Value.slice.injEq] at h1
      obtain ⟨rfl, _, rfl⟩ := h1
      exact ⟨h2, h3, fun q => .inr ⟨g, rfl⟩⟩
  obtain ⟨p, c, rfl⟩ := hvs
  obtain ⟨q1, q2, -⟩ := hcp p c rfl
  have q3 : c ≤ 9223372036854775807 := by unfold maxLen at q2; omega
  clear hcp h hv
  obtain ⟨n, hn⟩ : ∃ n, S.length = n := ⟨_, rfl⟩
  obtain ⟨X, hX⟩ : ∃ X, flatG Sp.cs S = X := ⟨_, rfl⟩
  obtain ⟨Y, hY⟩ : ∃ Y, Sp.cs s = Y := ⟨_, rfl⟩
  have hYl : Hid (Y.length = 1 * 2) := by rw [← hY]; rfl
  have hY1 : Hid (∀ u ∈ Y, u.oneCell' = true) := by rw [← hY, ← flatG_one Sp.cs s]; exact spots_cell _
  rw [hn] at HO FIN q1 hl ⊢
  rw [hX] at HO FIN
  rw [hY] at HV FIN
  clear hn hX hY
  have j1 : (n : Int) ≤ (c : Int) := by omega
  cases p with
  | none =>
    go_enter Tryz.func121, Tryz.ntmps121
    go_wp2_with (at_builtin; refine wpList_append_lies _ rfl _ _ 83 rfl base 90 i0 (.agg #[.int .i64 0, .int .u32 0]) 2 16 Tryz.underlying83 hi0 hz0 hz1 hz2 rfl (by decide) _ _ _ rfl HO.out ⟨vb, 0, none⟩ 1 1 Y rfl hYl.out HV.out hY1.out (by decide) (by unfold maxLen; omega) (by omega) hbase _ rfl ?_)
    all_goals (intro g' cap' w' a1 a2 a3 a4; go_wp2; go_ret; exact FIN.out g' cap' w' a1 a2 a3)
  | some a =>
    obtain ⟨ab, ao, asp⟩ := a
    go_enter Tryz.func121, Tryz.ntmps121
    go_wp2_with (at_builtin; refine wpList_append_lies _ rfl _ _ 83 rfl base 90 i0 (.agg #[.int .i64 0, .int .u32 0]) 2 16 Tryz.underlying83 hi0 hz0 hz1 hz2 rfl (by decide) _ _ _ rfl HO.out ⟨vb, 0, none⟩ 1 1 Y rfl hYl.out HV.out hY1.out (by decide) (by unfold maxLen; omega) (by omega) hbase _ rfl ?_)
    all_goals (intro g' cap' w' a1 a2 a3 a4; go_wp2; go_ret; exact FIN.out g' cap' w' a1 a2 a3)
end
section
open Go.RowKit
set_option linter.unusedVariables false
theorem insS_flat (S : List Sp) (i : Nat) (s : Sp) : flatG Sp.cs (insS S i s) = flatG Sp.cs (S.take i) ++ (Sp.cs s ++ flatG Sp.cs (S.drop i)) := by
  unfold insS
  rw [flatG_append]
  rfl
/-- a row behind two stores: what stood from i on one place further, then s at i -/
theorem shift_row (A B R Y L1 L2 : List Value) (a b : Nat) (hA : A.length = a) (hB : B.length = b) (hY : Y.length = 2) (h1 : L1 = (A ++ (B ++ R)).take (a + 2) ++ B ++ (A ++ (B ++ R)).drop (a + 2 + B.length)) (h2 : L2 = L1.take a ++ Y ++ L1.drop (a + Y.length)) (hR : 2 ≤ R.length) :
    L2.take (a + 2 + b) = A ++ (Y ++ B) := by
  have l1 : ((A ++ (B ++ R)).take (a + 2)).length = a + 2 := by
    rw [List.length_take, List.length_append, List.length_append]; omega
  have e1 : L1.take a = A := by
    rw [h1, List.append_assoc, List.take_append_of_le_length (by omega), List.take_take, Nat.min_eq_left (by omega), List.take_append_of_le_length (by omega), List.take_of_length_le (by omega)]
  have e2 : L1.drop (a + Y.length) = B ++ (A ++ (B ++ R)).drop (a + 2 + B.length) := by
    rw [h1, hY, List.append_assoc, List.drop_append_of_le_length (by omega), List.drop_of_length_le (by omega), List.nil_append]
  rw [h2, e1, e2, ← List.append_assoc, List.append_assoc A, List.append_assoc A]
  have : (A ++ (Y ++ B) ++ (A ++ (B ++ R)).drop (a + 2 + B.length)).take (a + 2 + b) = A ++ (Y ++ B) := by
    rw [List.take_append_of_le_length (by rw [List.length_append, List.length_append]; omega), List.take_of_length_le (by rw [List.length_append, List.length_append]; omega)]
  simpa [List.append_assoc] using this
set_option maxHeartbeats 4000000 in
set_option maxRecDepth 100000 in
theorem insert_shift {w : World} {base vb i g cap : Nat} {S : List Sp} {s : Sp} (h : w.ownsRow base 90 2 (.slice (some ⟨g, 0, none⟩) S.length cap) S.length (flatG Sp.cs S)) (hl : S.length ≤ 1000) (hi : i < S.length) (hroom : S.length + 1 ≤ cap) (hv : w.heap[vb]? = some (.cells #[.int .i64 s.id, .int .u32 (s.c : Nat)] 90 (0, 0))) (hne : vb ≠ g) (hbase : base ≤ w.heap.size) :
    Calls Tryz.prog 121 #[.slice (some ⟨g, 0, none⟩) S.length cap, .int .i64 (i : Nat), .slice (some ⟨vb, 0, none⟩) 1 1] w (InsPost w base (.slice (some ⟨g, 0, none⟩) S.length cap) S i s) := by
  rcases h.2 with ⟨h1, h2⟩ | ⟨g', cap', cur, h1, h2, h3, h4, h5, h6, h7⟩
  · omega
  · simp only [Value.slice.injEq, Option.some.injEq, Addr.mk.injEq, and_true, true_and] at h1
    obtain ⟨rfl, rfl⟩ := h1
    obtain ⟨n, hn⟩ : ∃ n, S.length = n := ⟨_, rfl⟩
    have hi' : i < n := by rw [← hn]; exact hi
    have hr' : n + 1 ≤ cap := by rw [← hn]; exact hroom
    have hcap : cap ≤ 9223372036854775807 := by unfold maxLen at h5; omega
    obtain ⟨B, hB⟩ : ∃ B, B = flatG Sp.cs (S.drop i) := ⟨_, rfl⟩
    have hBl : B.length = (n - i) * 2 := by rw [hB, flatG_length Sp.z, List.length_drop, hn]
    have hBd : (flatG Sp.cs S).drop (i * 2) = B := by rw [flatG_drop Sp.z, hB]
    have hread := owns_read h
    have hcellS : ∀ j, j < cap * 2 → (w.cell? ⟨g, j, none⟩).isSome = true := fun j hj => by
      rw [Go.Joins.cell_of_block h3 j, Array.getElem?_eq_getElem (by rw [h6]; exact hj)]; rfl
    have hfz : ∀ j, w.frozen? ⟨g, j, none⟩ = false := fun j => Go.Joins.unfrozen_of_block h3 j
    have hB1 : ∀ u ∈ B, u.oneCell' = true := by rw [hB]; exact spots_cell _
    have hVr : ∀ j u, (Sp.cs s)[j]? = some u → w.cell? ((⟨vb, 0, none⟩ : Addr).add j) = some u := World.news_of_block hv
    have hs1 : ∀ u ∈ Sp.cs s, u.oneCell' = true := by rw [← flatG_one Sp.cs s]; exact spots_cell _
    obtain ⟨W1, hW1⟩ : ∃ W1, W1 = w.drew.setCells g ((i + 1) * 2) B := ⟨_, rfl⟩
    have hcp1 : ∀ ty dc sc, (Builtin.copy_ #[83, 83] ty #[.slice (some ⟨g, (i + 1) * 2, none⟩) (n + 1 - (i + 1)) dc, .slice (some ⟨g, i * 2, none⟩) (n + 1 - i) sc]).run Tryz.prog w.drew = .ok (goInt ((n - i : Nat) : Int)) W1 := fun ty dc sc => by
      rw [hW1]
      exact run_copy_z w.drew 83 83 ty 90 2 g ((i + 1) * 2) (n + 1 - (i + 1)) dc ⟨g, i * 2, none⟩ (n + 1 - i) sc (n - i) B Tryz.underlying83 Tryz.map90 (by simp only [Nat.min_def]; split <;> omega) hBl
        (fun j u hj => by
          rw [Addr.add_lit]
          refine hread _ _ ?_
          rw [← hBd, List.getElem?_drop] at hj
          exact hj)
        (fun j hj => hcellS _ (by rw [hBl] at hj; omega)) (fun j hj => hfz _) hB1
    have hcp2 : ∀ (W : World), (∀ x, W.cell? x = W1.cell? x) → (∀ x, W.frozen? x = W1.frozen? x) → ∀ ty dc, (Builtin.copy_ #[83, 83] ty #[.slice (some ⟨g, i * 2, none⟩) (n + 1 - i) dc, .slice (some ⟨vb, 0, none⟩) 1 1]).run Tryz.prog W = .ok (goInt 1) (W.setCells g (i * 2) (Sp.cs s)) := fun W hWc hWf ty dc =>
      run_copy_z W 83 83 ty 90 2 g (i * 2) (n + 1 - i) dc ⟨vb, 0, none⟩ 1 1 1 (Sp.cs s) Tryz.underlying83 Tryz.map90 (by simp only [Nat.min_def]; split <;> omega) rfl
        (fun j u hj => by
          rw [hWc, hW1, Addr.add_lit, World.cell?_setCells_out g _ _ _ _ (fun h _ => absurd h hne)]
          have := hVr j u hj
          rwa [Addr.add_lit] at this)
        (fun j hj => by
          have hj' : j < 2 := hj
          rw [hWc, hW1]
          exact isSome_setCells g B ((i + 1) * 2) w.drew (fun t ht => hcellS ((i + 1) * 2 + t) (by rw [hBl] at ht; omega)) (i * 2 + j) (hcellS (i * 2 + j) (by omega)))
        (fun j hj => by rw [hWf, hW1, World.frozen?_setCells]; exact hfz _) hs1
    have hov : ∀ lb cb, (callFunc 132 #[.slice (some ⟨vb, 0, none⟩) 1 1, .slice (some ⟨g, (i + 1) * 2, none⟩) lb cb]).run Tryz.prog w = .ok (.value (.bool false)) w := fun lb cb => by
      rw [run_callFunc_extern Tryz.func132 (by kernel_rfl) (by kernel_rfl) (by kernel_rfl) (e := Extern.SlicesOverlaps.overlaps #[83, 83] #[4]) (by kernel_rfl),
        Lib.run_overlaps_apart w 83 4 90 Tryz.underlying83 2 Tryz.size90 ⟨vb, 0, none⟩ ⟨g, (i + 1) * 2, none⟩ 1 1 lb cb hne 90 90 2 (cap * 2) (by simp [World.shape?, hv]) (by simp [World.shape?, h3, h6]) (by omega) (Go.Joins.unfrozen_of_block hv 0) (Go.Joins.unfrozen_of_block hv 2)]
      rfl
    have FIN : Hid (∀ W2 : World, W2 = W1.setCells g (i * 2) (Sp.cs s) → InsPost w base (.slice (some ⟨g, 0, none⟩) S.length cap) S i s (.returned (.slice (some ⟨g, 0, none⟩) (n + 1) cap)) W2) := fun W2 hW2 => by
      obtain ⟨cur1, b1, b2⟩ := setCells_block g (e := 90) (fr := (0, 0)) B ((i + 1) * 2) w.drew cur h3 (by rw [hBl, h6]; omega)
      have hc0 : cur.toList.length = cap * 2 := by simpa using h6
      have hc1 : cur1.toList.length = cap * 2 := by
        rw [b2, List.length_append, List.length_append, List.length_take, List.length_drop, hBl]; omega
      have hcs1 : cur1.size = cap * 2 := by simpa using hc1
      obtain ⟨cur2, c1, c2⟩ := setCells_block g (e := 90) (fr := (0, 0)) (Sp.cs s) (i * 2) W1 cur1 (by rw [hW1]; exact b1) (by rw [hcs1, Sp.z]; omega)
      have hc2 : cur2.toList.length = cap * 2 := by
        rw [c2, List.length_append, List.length_append, List.length_take, List.length_drop, Sp.z]; omega
      have hA : (flatG Sp.cs (S.take i)).length = i * 2 := by rw [flatG_length Sp.z, List.length_take, hn]; omega
      have hsplit : cur.toList = flatG Sp.cs (S.take i) ++ (B ++ cur.toList.drop (n * 2)) := by
        rw [← List.append_assoc, hB, ← flatG_append, List.take_append_drop, ← h7, hn, List.take_append_drop]
      have hrow := shift_row (flatG Sp.cs (S.take i)) B (cur.toList.drop (n * 2)) (Sp.cs s) cur1.toList cur2.toList (i * 2) ((n - i) * 2) hA hBl rfl (by rw [← hsplit, b2, show (i + 1) * 2 = i * 2 + 2 by omega]) (by rw [c2]) (by rw [List.length_drop]; omega)
      rw [hW2]
      refine ⟨g, cap, by rw [hn], ⟨?_, .inr ⟨g, cap, cur2, rfl, h2, c1, by omega, h5, by simpa using hc2, ?_⟩⟩, ?_, .inl rfl⟩
      · rw [flatG_length Sp.z, insS_length (by omega)]
      · rw [hn, show (n + 1) * 2 = i * 2 + 2 + (n - i) * 2 by omega, hrow, insS_flat, hB]
      · rw [hW1]
        have hg := grownBy_sets w.drew g ((i + 1) * 2) (i * 2) B (Sp.cs s)
        exact ⟨hg.os, hg.tape, hg.output, hg.size, hg.block⟩
    obtain ⟨Y, hY⟩ : ∃ Y, Sp.cs s = Y := ⟨_, rfl⟩
    rw [hY] at FIN hcp2
    rw [hn] at FIN ⊢
    clear h h3 h6 h7 hread hcellS hfz hBd hB hBl hB1 hVr hs1 hW1 hY hv hi hroom
    have j1 : (i : Int) ≤ (n : Int) := by omega
    have j2 : ¬ ((i : Int) = (n : Int)) := by omega
    have j3 : ¬ ((cap : Int) < (n : Int) + 1) := by omega
    have j4 : (n : Int) + 1 ≤ (cap : Int) := by omega
    have j5 : (i : Int) + 1 ≤ (n : Int) + 1 := by omega
    have j6 : (i : Int) ≤ (n : Int) + 1 := by omega
    have j7 : ¬ (cap = i + 1) := by omega
    have j8 : ¬ (cap = i) := by omega
    have j9 : (0 : Int) ≤ (i : Int) + 1 := by omega
    have k1 : IntKind.i64.wrap ((i : Int) + 1) = (i : Int) + 1 := by rw [IntKind.wrap_i64]; omega
    have k2 : ((i : Int) + 1).toNat = i + 1 := by omega
    go_enter Tryz.func121, Tryz.ntmps121
    go_wp2_with (simp only [hov])
    go_region_law (refine step_copy_runI rfl _ _ 83 83 rfl (.slice (some ⟨g, (i + 1) * 2, none⟩) (n + 1 - (i + 1)) (cap - (i + 1))) (.slice (some ⟨g, i * 2, none⟩) (n + 1 - i) (cap - i)) (by simp [Act.eval, Act.put]) (by simp [Act.eval, Act.put]) (hcp1 _ _ _) ?_)
    go_wp2_with (at_builtin; refine wpList_copy_runI _ rfl _ _ 83 83 rfl _ _ rfl rfl (hcp2 _ (fun _ => rfl) (fun _ => rfl) _ _) ?_)
    go_ret
    exact FIN.out _ rfl
end
section
open Go.RowKit Go.Lib Go.Shelf
set_option linter.unusedVariables false
theorem zero_size (z : Value) (k : Nat) (hz : z.cells.size = 2) : (Builtin.zeroCells z.cells k).size = k * 2 := by
  simp [Builtin.zeroCells, hz]
/-- a new row behind two stores: s at i, then what stood from i on -/
theorem fresh_row (A B Z Y L1 L2 : List Value) (a b : Nat) (hA : A.length = a) (hB : B.length = b) (hY : Y.length = 2) (hZ : 2 + b ≤ Z.length) (h1 : L1 = (A ++ Z).take a ++ Y ++ (A ++ Z).drop (a + Y.length)) (h2 : L2 = L1.take (a + 2) ++ B ++ L1.drop (a + 2 + B.length)) :
    L2.take (a + 2 + b) = A ++ (Y ++ B) := by
  have e0 : (A ++ Z).take a = A := by rw [List.take_append_of_le_length (by omega), List.take_of_length_le (by omega)]
  have e1 : L1.take (a + 2) = A ++ Y := by
    rw [h1, e0, List.take_append_of_le_length (by rw [List.length_append]; omega), List.take_of_length_le (by rw [List.length_append]; omega)]
  rw [h2, e1, List.take_append_of_le_length (by rw [List.length_append, List.length_append]; omega), List.take_of_length_le (by rw [List.length_append, List.length_append]; omega), List.append_assoc]
set_option maxHeartbeats 4000000 in
set_option maxRecDepth 100000 in
theorem insert_grow {w : World} {base vb i g cap : Nat} {S : List Sp} {s : Sp} (h : w.ownsRow base 90 2 (.slice (some ⟨g, 0, none⟩) S.length cap) S.length (flatG Sp.cs S)) (hl : S.length ≤ 1000) (hi : i < S.length) (hroom : cap < S.length + 1) (hv : w.heap[vb]? = some (.cells #[.int .i64 s.id, .int .u32 (s.c : Nat)] 90 (0, 0))) (hbase : base ≤ w.heap.size) :
    Calls Tryz.prog 121 #[.slice (some ⟨g, 0, none⟩) S.length cap, .int .i64 (i : Nat), .slice (some ⟨vb, 0, none⟩) 1 1] w (InsPost w base (.slice (some ⟨g, 0, none⟩) S.length cap) S i s) := by
  obtain ⟨i0, hi0, hz0, hz1, hz2⟩ := info_parts3 Tryz.info90
  have hgl := (h.lt g rfl).2
  have hvl := lt_of_at hv
  have hnc : S.length ≤ cap := by
    rcases h.2 with ⟨h1, h2⟩ | ⟨g', cap', cur, h1, h2, h3, h4, h5, h6, h7⟩
    · omega
    · simp only [Value.slice.injEq, Option.some.injEq, Addr.mk.injEq, and_true, true_and] at h1
      obtain ⟨rfl, rfl⟩ := h1
      exact h4
  obtain ⟨n, hn⟩ : ∃ n, S.length = n := ⟨_, rfl⟩
  have hi' : i < n := by rw [← hn]; exact hi
  have hr' : cap < n + 1 := by rw [← hn]; exact hroom
  have hnc' : n ≤ cap := by rw [← hn]; exact hnc
  have hn1000 : n ≤ 1000 := by rw [← hn]; exact hl
  obtain ⟨B, hB⟩ : ∃ B, B = flatG Sp.cs (S.drop i) := ⟨_, rfl⟩
  obtain ⟨A, hA⟩ : ∃ A, A = flatG Sp.cs (S.take i) := ⟨_, rfl⟩
  have hBl : B.length = (n - i) * 2 := by rw [hB, flatG_length Sp.z, List.length_drop, hn]
  have hAl : A.length = i * 2 := by rw [hA, flatG_length Sp.z, List.length_take, hn]; omega
  have hBd : (flatG Sp.cs S).drop (i * 2) = B := by rw [flatG_drop Sp.z, hB]
  have hAt : (flatG Sp.cs S).take (i * 2) = A := by rw [flatG_take Sp.z, hA]
  have hread := owns_read h
  have hB1 : ∀ u ∈ B, u.oneCell' = true := by rw [hB]; exact spots_cell _
  have hVr : ∀ j u, (Sp.cs s)[j]? = some u → w.cell? ((⟨vb, 0, none⟩ : Addr).add j) = some u := World.news_of_block hv
  have hs1 : ∀ u ∈ Sp.cs s, u.oneCell' = true := by rw [← flatG_one Sp.cs s]; exact spots_cell _
  have hold : (Builtin.firstCells i0.size i (.slice (some ⟨g, 0, none⟩) i cap)).run Tryz.prog w.drew = .ok A.toArray w.drew := by
    rw [hz1]
    exact run_firstCells_some w.drew 2 i ⟨g, 0, none⟩ i cap A (by rw [hAl]) (fun j v hj => by
      rw [Addr.add_lit, Nat.zero_add]
      refine hread _ _ ?_
      rw [← hAt, List.getElem?_take] at hj
      split at hj
      · exact hj
      · cases hj)
  have hik : i + (n + 1 - i) = n + 1 := by omega
  have hkk : (n : Int) + 1 - (i : Int) = ((n + 1 - i : Nat) : Int) := by omega
  obtain ⟨G, hG⟩ : ∃ G, G = grownCap w (n + 1) cap 90 := ⟨_, rfl⟩
  have hGn : n + 1 ≤ G := by rw [hG]; exact grownCap_ge w _ _ _
  have hGm : G ≤ maxLen := by rw [hG]; exact grownCap_le_maxLen w (n + 1) cap 90 (by unfold maxLen; omega)
  have hG63 : G ≤ 9223372036854775807 := by unfold maxLen at hGm; omega
  obtain ⟨Z, hZ⟩ : ∃ Z : List Value, Z = (Builtin.zeroCells (Value.agg #[.int .i64 0, .int .u32 0]).cells (n + 1 - i)).toList ++ (Builtin.zeroCells (Value.agg #[.int .i64 0, .int .u32 0]).cells (G - (n + 1))).toList := ⟨_, rfl⟩
  have hZl : Z.length = (G - i) * 2 := by
    rw [hZ, List.length_append, Array.length_toList, Array.length_toList, zero_size _ _ rfl, zero_size _ _ rfl]; omega
  obtain ⟨ROW, hROW⟩ : ∃ ROW : Array Value, ROW = (A ++ Z).toArray := ⟨_, rfl⟩
  have hRs : ROW.size = G * 2 := by rw [hROW]; simp [hAl, hZl]; omega
  have hrz : ∀ ty, (Builtin.append_ #[83, 3] ty #[.slice (some ⟨g, 0, none⟩) i cap, .int .i64 ((n : Int) + 1 - (i : Int))]).run Tryz.prog w =
      .ok (.slice (some ⟨w.heap.size, 0, none⟩) (n + 1) G) (w.drew.alloc (.cells ROW 90)) := fun ty => by
    have hh := Lib.run_append_grow_zeros w 83 3 ty 90 i0 _ .i64 .i64 Tryz.underlying83 Tryz.underlying3 hi0 hz0 (some ⟨g, 0, none⟩) i cap A hold (n + 1 - i) (by omega) (by omega) (by omega) (by omega) (by rw [hz2]; omega) (by rw [hz2, hik]; exact growslice_fits hr' (by omega))
    rw [hik, ← hG] at hh
    have hrow' : A.toArray ++ Builtin.zeroCells (Value.agg #[.int .i64 0, .int .u32 0]).cells (n + 1 - i) ++ Builtin.zeroCells (Value.agg #[.int .i64 0, .int .u32 0]).cells (G - (n + 1)) = ROW := by
      rw [hROW, hZ]
      apply Array.ext'
      simp
    rw [hkk, hh, hrow']
  obtain ⟨W1, hW1⟩ : ∃ W1, W1 = w.drew.alloc (.cells ROW 90) := ⟨_, rfl⟩
  have hWat : W1.heap[w.heap.size]? = some (.cells ROW 90 (0, 0)) := by rw [hW1]; exact new_at _ _ _ rfl
  have hN : ∀ j, j < G * 2 → (W1.cell? ⟨w.heap.size, j, none⟩).isSome = true := fun j hj => by
    rw [Go.Joins.cell_of_block hWat j, Array.getElem?_eq_getElem (by rw [hRs]; exact hj)]; rfl
  have hNf : ∀ j, W1.frozen? ⟨w.heap.size, j, none⟩ = false := fun j => Go.Joins.unfrozen_of_block hWat j
  have hBel : Below w.heap.size w W1 := by rw [hW1]; exact (below1 w (.cells ROW 90)).drew
  have hcpA : ∀ (W : World), (∀ x, W.cell? x = W1.cell? x) → (∀ x, W.frozen? x = W1.frozen? x) → ∀ ty dc, (Builtin.copy_ #[83, 83] ty #[.slice (some ⟨w.heap.size, i * 2, none⟩) (n + 1 - i) dc, .slice (some ⟨vb, 0, none⟩) 1 1]).run Tryz.prog W = .ok (goInt 1) (W.setCells w.heap.size (i * 2) (Sp.cs s)) := fun W hWc hWf ty dc =>
    run_copy_z W 83 83 ty 90 2 w.heap.size (i * 2) (n + 1 - i) dc ⟨vb, 0, none⟩ 1 1 1 (Sp.cs s) Tryz.underlying83 Tryz.map90 (by simp only [Nat.min_def]; split <;> omega) rfl
      (fun j u hj => by rw [hWc]; exact cell_below hBel (hVr j u hj))
      (fun j hj => by
        have hj' : j < 2 := hj
        rw [hWc]; exact hN _ (by omega))
      (fun j hj => by rw [hWf]; exact hNf _) hs1
  have hne : g ≠ w.heap.size := by omega
  have hcpB : ∀ (W : World), (∀ x, W.cell? x = (W1.setCells w.heap.size (i * 2) (Sp.cs s)).cell? x) → (∀ x, W.frozen? x = (W1.setCells w.heap.size (i * 2) (Sp.cs s)).frozen? x) → ∀ ty dc sc, (Builtin.copy_ #[83, 83] ty #[.slice (some ⟨w.heap.size, (i + 1) * 2, none⟩) (n + 1 - (i + 1)) dc, .slice (some ⟨g, i * 2, none⟩) (n - i) sc]).run Tryz.prog W = .ok (goInt ((n - i : Nat) : Int)) (W.setCells w.heap.size ((i + 1) * 2) B) := fun W hWc hWf ty dc sc =>
    run_copy_z W 83 83 ty 90 2 w.heap.size ((i + 1) * 2) (n + 1 - (i + 1)) dc ⟨g, i * 2, none⟩ (n - i) sc (n - i) B Tryz.underlying83 Tryz.map90 (by simp only [Nat.min_def]; split <;> omega) hBl
      (fun j u hj => by
        rw [Addr.add_lit, hWc, World.cell?_setCells_out _ _ _ _ _ (fun h _ => absurd h hne)]
        refine cell_below hBel (hread _ _ ?_)
        rw [← hBd, List.getElem?_drop] at hj
        exact hj)
      (fun j hj => by
        rw [hBl] at hj
        rw [hWc]
        exact isSome_setCells w.heap.size (Sp.cs s) (i * 2) W1 (fun t ht => hN (i * 2 + t) (by have : t < 2 := ht; omega)) ((i + 1) * 2 + j) (hN ((i + 1) * 2 + j) (by omega)))
      (fun j hj => by rw [hWf, World.frozen?_setCells]; exact hNf _) hB1
  have FIN : Hid (∀ W2 : World, W2 = (((w.alloc (.cells ROW 90)).drew.setCells w.heap.size (i * 2) (Sp.cs s)).drew).setCells w.heap.size ((i + 1) * 2) B → InsPost w base (.slice (some ⟨g, 0, none⟩) S.length cap) S i s (.returned (.slice (some ⟨w.heap.size, 0, none⟩) (n + 1) G)) W2) := fun W2 hW2 => by
    obtain ⟨cur1, b1, b2⟩ := setCells_block w.heap.size (e := 90) (fr := (0, 0)) (Sp.cs s) (i * 2) (w.alloc (.cells ROW 90)).drew ROW (new_at w _ _ rfl) (by rw [Sp.z, hRs]; omega)
    have hR0 : ROW.toList = A ++ Z := by rw [hROW]
    have hc1 : cur1.toList.length = G * 2 := by
      rw [b2, List.length_append, List.length_append, List.length_take, List.length_drop, Sp.z, Array.length_toList, hRs]; omega
    have hcs1 : cur1.size = G * 2 := by simpa using hc1
    obtain ⟨cur2, c1, c2⟩ := setCells_block w.heap.size (e := 90) (fr := (0, 0)) B ((i + 1) * 2) (((w.alloc (.cells ROW 90)).drew.setCells w.heap.size (i * 2) (Sp.cs s)).drew) cur1 b1 (by rw [hcs1, hBl]; omega)
    have hc2 : cur2.toList.length = G * 2 := by
      rw [c2, List.length_append, List.length_append, List.length_take, List.length_drop, hBl]; omega
    have hrow := fresh_row A B Z (Sp.cs s) cur1.toList cur2.toList (i * 2) ((n - i) * 2) hAl hBl rfl (by rw [hZl]; omega) (by rw [b2, hR0]) (by rw [c2, show (i + 1) * 2 = i * 2 + 2 by omega])
    rw [hW2]
    refine ⟨w.heap.size, G, by rw [hn], ⟨?_, .inr ⟨w.heap.size, G, cur2, rfl, hbase, c1, by omega, hGm, by simpa using hc2, ?_⟩⟩, ?_, .inr (Nat.le_refl _)⟩
    · rw [flatG_length Sp.z, insS_length (by omega)]
    · rw [hn, show (n + 1) * 2 = i * 2 + 2 + (n - i) * 2 by omega, hrow, insS_flat, hB, hA]
    · have hg := grownBy_sets (w.alloc (.cells ROW 90)) w.heap.size (i * 2) ((i + 1) * 2) (Sp.cs s) B
      obtain ⟨a1, a2, a3⟩ := setCells_rest w.heap.size (Sp.cs s) (i * 2) (w.alloc (.cells ROW 90)).drew
      obtain ⟨d1, d2, d3⟩ := setCells_rest w.heap.size B ((i + 1) * 2) (((w.alloc (.cells ROW 90)).drew.setCells w.heap.size (i * 2) (Sp.cs s)).drew)
      refine ⟨d1.trans a1, d2.trans a2, d3.trans a3, ?_, fun k hk _ => ?_⟩
      · rw [setCells_size]
        show _ ≤ ((w.alloc (.cells ROW 90)).drew.setCells w.heap.size (i * 2) (Sp.cs s)).heap.size
        rw [setCells_size]
        show w.heap.size ≤ (w.alloc (.cells ROW 90)).heap.size
        simp
      · rw [setCells_other _ _ _ _ k (by omega)]
        show ((w.alloc (.cells ROW 90)).drew.setCells w.heap.size (i * 2) (Sp.cs s)).heap[k]? = _
        rw [setCells_other _ _ _ _ k (by omega)]
        exact Below.heap_alloc w _ k hk
  obtain ⟨Y, hY⟩ : ∃ Y, Sp.cs s = Y := ⟨_, rfl⟩
  rw [hY] at FIN hcpA hcpB
  rw [hn] at FIN ⊢
  clear h hread hBd hAt hAl hA hB hBl hB1 hVr hs1 hY hv hi hroom hold hZ hZl hROW hRs hN hNf hWat hG hnc hGm hBel hik
  subst hW1
  have hE1 : ∀ x, ((w.alloc (.cells ROW 90)).drew).cell? x = (w.drew.alloc (.cells ROW 90)).cell? x := fun x => rfl
  have hE2 : ∀ x, ((w.alloc (.cells ROW 90)).drew).frozen? x = (w.drew.alloc (.cells ROW 90)).frozen? x := fun x => rfl
  have hF1 : ∀ x, (((w.alloc (.cells ROW 90)).drew.setCells w.heap.size (i * 2) Y).drew).cell? x = ((w.drew.alloc (.cells ROW 90)).setCells w.heap.size (i * 2) Y).cell? x := fun x => rfl
  have hF2 : ∀ x, (((w.alloc (.cells ROW 90)).drew.setCells w.heap.size (i * 2) Y).drew).frozen? x = ((w.drew.alloc (.cells ROW 90)).setCells w.heap.size (i * 2) Y).frozen? x := fun x => rfl
  have k1 : IntKind.i64.wrap ((i : Int) + 1) = (i : Int) + 1 := by rw [IntKind.wrap_i64]; omega
  have k2 : ((i : Int) + 1).toNat = i + 1 := by omega
  have j1 : (i : Int) ≤ (n : Int) := by omega
  have j2 : ¬ ((i : Int) = (n : Int)) := by omega
  have j3 : (cap : Int) < (n : Int) + 1 := by omega
  have j5 : (i : Int) + 1 ≤ (n : Int) + 1 := by omega
  have j6 : (i : Int) ≤ (n : Int) + 1 := by omega
  have j7 : ¬ (G = i + 1) := by omega
  have j8 : ¬ (G = i) := by omega
  have j9 : (0 : Int) ≤ (i : Int) + 1 := by omega
  have j10 : ¬ (cap = i) := by omega
  have j11 : i ≤ cap := by omega
  have j12 : i ≤ n := by omega
  clear hkk
  go_enter Tryz.func121, Tryz.ntmps121
  go_wp2_with (first
    | (at_builtin; refine Lib.wpList_append_run _ rfl _ _ _ _ rfl _ _ rfl rfl _ _ (hrz _) ?_)
    | (at_builtin; refine wpList_copy_runI _ rfl _ _ 83 83 rfl _ _ rfl rfl (hcpA _ hE1 hE2 _ _) ?_))
  go_region_law (refine step_copy_runI rfl _ _ 83 83 rfl (.slice (some ⟨w.heap.size, (i + 1) * 2, none⟩) (n + 1 - (i + 1)) (G - (i + 1))) (.slice (some ⟨g, i * 2, none⟩) (n - i) (cap - i)) (by simp [Act.eval, Act.put]) (by simp [Act.eval, Act.put]) (hcpB _ hF1 hF2 3 (G - (i + 1)) (cap - i)) ?_)
  go_wp2
  go_ret
  exact FIN.out _ rfl
theorem insert_at {w : World} {base vb i : Nat} {v : Value} {S : List Sp} {s : Sp} (h : w.ownsRow base 90 2 v S.length (flatG Sp.cs S)) (hl : S.length ≤ 1000) (hi : i ≤ S.length) (hv : w.heap[vb]? = some (.cells #[.int .i64 s.id, .int .u32 (s.c : Nat)] 90 (0, 0))) (hne : v.ownBlock ≠ some vb) (hbase : base ≤ w.heap.size) :
    Calls Tryz.prog 121 #[v, .int .i64 (i : Nat), .slice (some ⟨vb, 0, none⟩) 1 1] w (InsPost w base v S i s) := by
  by_cases he : i = S.length
  · subst he
    exact insert_end h hl hv hbase
  · obtain ⟨p, c, rfl⟩ := owns_slice h
    obtain ⟨g, rfl, -⟩ := owns_some h (by omega)
    by_cases hr : S.length + 1 ≤ c
    · exact insert_shift h hl (by omega) hr hv (fun e => hne (by rw [e]; rfl)) hbase
    · exact insert_grow h hl (by omega) (by omega) hv hbase
end
end Go.Proofs.YtfoncphdbaaedaaGreatDoor
