/- Contracts of slices.Clone, slices.Delete at things over this translation: the row that they leave; nothing else that was there is changed. -/
import Derived.Test.YtjdlcocncacmlaaXD
namespace Go.Proofs.Ytjdlcocncacmlaa
open Go.RowKit
set_option linter.unusedVariables false
theorem Th.z (t : Th) : t.cs.length = 11 := rfl
theorem flatT_take (l : List Th) (k : Nat) : (flatT l).take (k * 11) = flatT (l.take k) := flatG_take Th.z l k
theorem flatT_drop (l : List Th) (k : Nat) : (flatT l).drop (k * 11) = flatT (l.drop k) := flatG_drop Th.z l k
theorem Try.infoTh : (Try.prog.info? 40).map (fun i => (i.zero, i.size, i.bytes)) = some (some zT.v, 11, 120) := by kernel_rfl
theorem Try.zeroTh (w : World) : (zeroValue 40).run Try.prog w = .ok zT.v w := by kernel_rfl
theorem cs_oneT (t : Th) : ∀ u ∈ t.cs, u.oneCell' = true := by
  intro u hu
  simp only [Th.cs, List.mem_cons, List.not_mem_nil, or_false] at hu
  rcases hu with rfl | rfl | rfl | rfl | rfl | rfl | rfl | rfl | rfl | rfl | rfl <;> rfl
theorem ths_cell (L : List Th) : ∀ u ∈ flatT L, u.oneCell' = true := by
  intro u hu
  obtain ⟨a, _, hu⟩ := List.mem_flatMap.1 hu
  exact cs_oneT a u hu
theorem run_clear_oneG {P : Program} (w : World) (t e ty : TypeId) (z : Value) (zs : List Value) (ht : P.underlying t = some (.slice e)) (hv : ∀ w, (zeroValue e).run P w = .ok z w) (hz : z.cells.toList = zs) (hx : ∀ v ∈ zs, v.oneCell' = true) (b o c : Nat)
    (hc : ∀ j, j < zs.length → (w.cell? ⟨b, o + j, none⟩).isSome = true) (hf : ∀ j, j < zs.length → w.frozen? ⟨b, o + j, none⟩ = false) :
    (Builtin.clear_ #[t] ty #[.slice (some ⟨b, o, none⟩) 1 c]).run P w = .ok (.tuple #[]) (w.setCells b o zs) := by
  have hzc : (Builtin.zeroCells z.cells 1).toList = zs := by
    rw [← hz]
    apply List.ext_getElem
    · simp [Builtin.zeroCells]
    · intro i h1 h2
      have hi : i < z.cells.size := by simpa using h2
      simp [Builtin.zeroCells, Nat.mod_eq_of_lt hi, hi]
  have hst := run_storeCells_cells (P := P) b o zs 0 w (by simpa using hc) (by simpa using hf) hx
  simp only [Nat.add_zero] at hst
  simp [Builtin.clear_, run_underlying ht, hv, hzc, hst]
theorem RowT.read {w : World} {a : Addr} {L : List Th} (h : RowT w (some a) L) : ∀ j u, (flatT L)[j]? = some u → w.cell? (a.add j) = some u := by
  intro j u hu
  rcases h with h | ⟨b, off, h, hc⟩
  · subst h; simp [flatT] at hu
  · simp only [Option.some.injEq] at h
    subst h
    have hj : j < L.length * 11 := by rw [← flatT_length]; exact (List.getElem?_eq_some_iff.1 hu).1
    obtain ⟨t, ht⟩ := get_th L (j / 11) (by omega)
    have hd : j = j / 11 * 11 + j % 11 := by omega
    have hm : j % 11 < 11 := by omega
    rw [hd, flatT_get L (j / 11) t ht (j % 11) hm] at hu
    obtain ⟨h0, h1, h2, h3, h4, h5, h6, h7, h8, h9, h10⟩ := hc _ t ht
    have e : (⟨b, off, none⟩ : Addr).add j = ⟨b, off + j / 11 * 11 + j % 11, none⟩ := by
      rw [Addr.add_lit]; congr 1; omega
    rw [e]
    generalize j / 11 = q at *
    have hk : j % 11 = 0 ∨ j % 11 = 1 ∨ j % 11 = 2 ∨ j % 11 = 3 ∨ j % 11 = 4 ∨ j % 11 = 5 ∨ j % 11 = 6 ∨ j % 11 = 7 ∨ j % 11 = 8 ∨ j % 11 = 9 ∨ j % 11 = 10 := by omega
    rcases hk with k | k | k | k | k | k | k | k | k | k | k <;> rw [k] at hu ⊢ <;> simp only [Th.cs, List.getElem?_cons_zero, List.getElem?_cons_succ, Option.some.injEq] at hu <;> subst hu <;> assumption
set_option maxHeartbeats 1000000 in
theorem clone_t {w : World} {p : Option Addr} {n cap : Nat} {L : List Th} (hr : RowT w p L) (hn : Hid (L.length = n)) (hl : n ≤ 1000) :
    Calls Try.prog 28 #[.slice p n cap] w fun e w' => ∃ v', e = .returned v' ∧ w'.ownsRow w.heap.size 40 11 v' n (flatT L) ∧ Below w.heap.size w w' := by
  obtain ⟨i0, hi, hz0, hz1, hz2⟩ := info_parts3 Try.infoTh
  have q57 : ∀ (w : World) (a : Option Addr) (n c n' c' : Nat), (binOp .eql 22 (.slice a n c) (.slice none n' c')).run Try.prog w = .ok (.bool a.isNone) w := fun w a n c n' c' => Lib.run_eql_slice_nil w _ _ a n c n' c' Try.underlying22
  cases p with
  | none =>
    have hL : L = [] := by
      rcases hr with h | ⟨b, off, h, _⟩
      · exact h
      · cases h
    subst hL
    have hn0 : n = 0 := by rw [← hn.out]; rfl
    subst hn0
    clear hr hn
    go_enter Try.func28, Try.ntmps28
    go_wp2
    go_ret
    exact ⟨_, rfl, World.ownsRow_nil _ _ _ _, Below.refl _ _⟩
  | some a =>
    have A := hid hr.read
    have hfl := hid (show (flatT L).length = n * 11 by rw [flatT_length, hn.out])
    have h1c := hid (ths_cell L)
    clear hr
    obtain ⟨X, hX⟩ : ∃ X, flatT L = X := ⟨_, rfl⟩
    rw [hX] at A hfl h1c ⊢
    clear hX
    go_enter Try.func28, Try.ntmps28
    go_wp2_with (at_builtin; refine wpList_append_own _ rfl _ _ 22 rfl w.heap.size 40 i0 zT.v 11 120 Try.underlying22 hi hz0 hz1 hz2 rfl (by decide) _ _ _ rfl (World.ownsRow_made w #[] 0 (Nat.le_refl _) (Nat.zero_le _) (by simp)) a n cap X rfl hfl.out (fun j u hj => cell_below (below1 _ _) (A.out j u hj)) h1c.out (by unfold maxLen; omega) (by omega) (by simp) ?_)
    intro v' w1 hown hgrow hnil
    go_wp2
    go_ret
    exact ⟨v', rfl, by simpa using hown, ((Below.refl _ w).alloc (Nat.le_refl _) _).grown hgrow (by simp) (by intro k hk; simp [Value.ownBlock] at hk; omega)⟩
set_option maxHeartbeats 4000000 in
set_option maxRecDepth 100000 in
theorem delete_at {w : World} {base : Nat} {v : Value} {S : List Th} {i : Nat} (h : w.ownsRow base 40 11 v S.length (flatT S)) (hl : S.length ≤ 1000) (hi : i < S.length) :
    Calls Try.prog 32 #[v, .int .i64 (i : Nat), .int .i64 (i + 1 : Nat)] w fun e w' => ∃ v', e = .returned v' ∧ w'.ownsRow base 40 11 v' (delS S i).length (flatT (delS S i)) ∧ w.grownBy w' v.ownBlock ∧ v'.ownBlock = v.ownBlock := by
  obtain ⟨i0, hi0, hz0, hz1, hz2⟩ := info_parts3 Try.infoTh
  rcases h.2 with ⟨rfl, h2⟩ | ⟨g, cap, cur, rfl, h2, h3, h4, h5, h6, h7⟩
  · omega
  · obtain ⟨n, hn⟩ : ∃ n, S.length = n := ⟨_, rfl⟩
    have hcap : cap ≤ 9223372036854775807 := by unfold maxLen at h5; omega
    have h4' : n ≤ cap := by rw [← hn]; exact h4
    have hi' : i < n := by rw [← hn]; exact hi
    obtain ⟨news, hnews⟩ : ∃ news, news = flatT (S.drop (i + 1)) := ⟨_, rfl⟩
    have hnl : news.length = (n - (i + 1)) * 11 := by rw [hnews, flatT_length, List.length_drop, hn]
    have hdrop : (flatT S).drop ((i + 1) * 11) = news := by rw [flatT_drop, hnews]
    have hread := owns_read h
    have hcellS : ∀ j, j < cap * 11 → (w.cell? ⟨g, j, none⟩).isSome = true := fun j hj => by
      rw [Go.Joins.cell_of_block h3 j, Array.getElem?_eq_getElem (by rw [h6]; exact hj)]; rfl
    have hfz : ∀ j, w.frozen? ⟨g, j, none⟩ = false := fun j => Go.Joins.unfrozen_of_block h3 j
    obtain ⟨A, hA, hsrc⟩ : ∃ A : Addr, (if cap = i + 1 then some (⟨g, 0, none⟩ : Addr) else some ⟨g, (i + 1) * 11, none⟩) = some A ∧ Hid (∀ t u, news[t]? = some u → w.drew.cell? (A.add t) = some u) := by
      by_cases hc : cap = i + 1
      · refine ⟨⟨g, 0, none⟩, by simp [hc], fun t u hu => ?_⟩
        have h0 : news.length = 0 := by rw [hnl]; omega
        rw [List.length_eq_zero_iff.1 h0] at hu
        simp at hu
      · refine ⟨⟨g, (i + 1) * 11, none⟩, by simp [hc], fun t u hu => ?_⟩
        rw [Addr.add_lit]
        refine hread _ _ ?_
        rw [← hdrop, List.getElem?_drop] at hu
        exact hu
    have s1 := hid hnl
    have s2 : Hid (∀ u ∈ news, u.oneCell' = true) := by rw [hnews]; exact ths_cell _
    have s3 : Hid (∀ t, t < news.length → (w.drew.cell? ⟨g, 0 + i * 11 + t, none⟩).isSome = true ∧ w.drew.frozen? ⟨g, 0 + i * 11 + t, none⟩ = false) := by
      intro t ht
      rw [hnl] at ht
      exact ⟨hcellS _ (by omega), hfz _⟩
    obtain ⟨W1, hW1⟩ : ∃ W1, W1 = w.drew.setCells g (0 + i * 11) news := ⟨_, rfl⟩
    have hcl : ∀ ty c, (Builtin.clear_ #[22] ty #[.slice (some ⟨g, (i + (n - (i + 1))) * 11, none⟩) (n - (i + (n - (i + 1)))) c]).run Try.prog W1 = .ok (.tuple #[]) (W1.setCells g ((i + (n - (i + 1))) * 11) zT.cs) := fun ty c => by
      rw [show n - (i + (n - (i + 1))) = 1 by omega]
      exact run_clear_oneG W1 22 40 ty zT.v zT.cs Try.underlying22 Try.zeroTh rfl (cs_oneT zT) g _ c (fun j hj => by
        have hj : j < 11 := hj
        rw [hW1]
        exact isSome_setCells g news (0 + i * 11) w.drew (fun t ht => hcellS (0 + i * 11 + t) (by rw [hnl] at ht; omega)) ((i + (n - (i + 1))) * 11 + j) (hcellS ((i + (n - (i + 1))) * 11 + j) (by omega))) (fun j hj => by
        rw [hW1, World.frozen?_setCells]; exact hfz _)
    have hW := hid hW1
    have e1 : i + (n - (i + 1)) = n - 1 := by omega
    have FIN : Hid ((W1.setCells g ((i + (n - (i + 1))) * 11) zT.cs).ownsRow base 40 11 (.slice (some ⟨g, 0, none⟩) (n - 1) cap) (n - 1) (flatT (delS S i)) ∧ w.grownBy (W1.setCells g ((i + (n - (i + 1))) * 11) zT.cs) (some g)) := by
      obtain ⟨cur1, b1, b2⟩ := setCells_block g (e := 40) (fr := (0, 0)) news (0 + i * 11) w.drew cur h3 (by rw [hnl, h6]; omega)
      have hs1 : cur1.size = cap * 11 := by
        have : cur1.toList.length = cap * 11 := by
          rw [b2, List.length_append, List.length_append, List.length_take, List.length_drop, hnl]
          have : cur.toList.length = cap * 11 := by simpa using h6
          omega
        simpa using this
      obtain ⟨cur2, c1, c2⟩ := setCells_block g (e := 40) (fr := (0, 0)) zT.cs ((i + (n - (i + 1))) * 11) W1 cur1 (by rw [hW1]; exact b1) (by rw [hs1, Th.z]; omega)
      have hs2 : cur2.size = cap * 11 := by
        have : cur2.toList.length = cap * 11 := by
          rw [c2, List.length_append, List.length_append, List.length_take, List.length_drop]
          have : cur1.toList.length = cap * 11 := by simpa using hs1
          rw [Th.z]
          omega
        simpa using this
      have hdl : (delS S i).length = n - 1 := by rw [delS_length hi, hn]
      refine ⟨⟨by rw [flatT_length, hdl], .inr ⟨g, cap, cur2, rfl, h2, c1, by omega, h5, hs2, ?_⟩⟩, ?_⟩
      · have hcl1 : cur.toList.length = cap * 11 := by simpa using h6
        have t1 : cur.toList.take (0 + i * 11) = flatT (S.take i) := by
          have : cur.toList.take (0 + i * 11) = (cur.toList.take (n * 11)).take (i * 11) := by rw [List.take_take, Nat.zero_add, Nat.min_eq_left (by omega)]
          rw [this, ← hn, h7, flatT_take]
        have l1 : (flatT (S.take i)).length = i * 11 := by rw [flatT_length, List.length_take]; omega
        rw [c2, e1]
        rw [t1] at b2
        have t2 : cur1.toList.take ((n - 1) * 11) = flatT (delS S i) := by
          rw [b2]
          unfold delS
          rw [flatT_append, ← hnews]
          rw [List.take_append_of_le_length (by rw [List.length_append, l1, hnl]; omega), List.take_of_length_le (by rw [List.length_append, l1, hnl]; omega)]
        rw [t2, List.append_assoc, List.take_append_of_le_length (by rw [flatT_length, hdl]; omega), List.take_of_length_le (by rw [flatT_length, hdl]; omega)]
      · rw [hW1]
        have hg := grownBy_sets w.drew g (0 + i * 11) ((i + (n - (i + 1))) * 11) news zT.cs
        exact ⟨hg.os, hg.tape, hg.output, hg.size, hg.block⟩
    have hdl' : Hid ((delS S i).length = n - 1) := by show (delS S i).length = n - 1; rw [delS_length hi, hn]
    rw [hdl'.out]
    obtain ⟨X, hX⟩ : ∃ X, flatT (delS S i) = X := ⟨_, rfl⟩
    rw [hX] at FIN ⊢
    rw [hn] at hi hl h4 ⊢
    clear h h3 h6 h7 hread hcellS hfz hdrop hnews hnl hW1 hn hX hdl' e1
    have j1 : (i : Int) ≤ (n : Int) := by omega
    have j2 : (i : Int) + 1 ≤ (n : Int) := by omega
    have j3 : ¬ ((i : Int) = (i : Int) + 1) := by omega
    have j4 : i ≤ cap := by omega
    have j5 : i + 1 ≤ cap := by omega
    have j6 : i + 1 ≤ n := by omega
    have j7 : (n : Int) ≤ (cap : Int) := by omega
    have j8 : (0 : Int) ≤ (i : Int) + 1 := by omega
    go_enter Try.func32, Try.ntmps32
    go_wp2_with fail
    go_region_law (refine step_append_room rfl (.tmp 22) (.tmp 25) 22 rfl 40 i0 11 Try.underlying22 hi0 hz1 g 0 i cap (by simp [Act.eval, Act.put]) A (n - (i + 1)) (cap - (i + 1)) news (by simp [Act.eval, Act.put]) s1.out hsrc.out s2.out (by omega) s3.out ?_; rw [← hW.out])
    go_wp2
    go_ret
    refine ⟨_, rfl, ?_, FIN.out.2, rfl⟩
    have := FIN.out.1
    rwa [show n - 1 = i + (n - (i + 1)) by omega] at this ⊢
end Go.Proofs.Ytjdlcocncacmlaa
