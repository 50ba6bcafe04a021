/- Contracts of slices.Delete and slices.Insert at spots over this translation, of one element: the row that they leave; nothing else that was there is changed. -/
import Derived.Test.YtildhbkcpehobaaGreatDoorQdC
namespace Go.Proofs.YtildhbkcpehobaaGreatDoor
open Go.RowKit
set_option linter.unusedVariables false
def delS {α : Type} (S : List α) (i : Nat) : List α := S.take i ++ S.drop (i + 1)
def insS {α : Type} (S : List α) (i : Nat) (s : α) : List α := S.take i ++ s :: S.drop i
theorem delS_length {α : Type} {S : List α} {i : Nat} (h : i < S.length) : (delS S i).length = S.length - 1 := by
  unfold delS
  rw [List.length_append, List.length_take, List.length_drop]; omega
theorem insS_length {α : Type} {S : List α} {i : Nat} {s : α} (h : i ≤ S.length) : (insS S i s).length = S.length + 1 := by
  unfold insS
  rw [List.length_append, List.length_take, List.length_cons, List.length_drop]; omega
theorem Tryz.zero82 (w : World) : (zeroValue 82).run Tryz.prog w = .ok (.agg #[.int .i64 0, .int .u32 0]) w := by kernel_rfl
theorem grownBy_sets (W : World) (g : Nat) (o1 o2 : Nat) (v1 v2 : List Value) : W.grownBy ((W.setCells g o1 v1).setCells g o2 v2) (some g) := by
  obtain ⟨a1, a2, a3⟩ := setCells_rest g v1 o1 W
  obtain ⟨b1, b2, b3⟩ := setCells_rest g v2 o2 (W.setCells g o1 v1)
  refine ⟨b1.trans a1, b2.trans a2, b3.trans a3, by rw [setCells_size, setCells_size]; exact Nat.le_refl _, fun k hk hne => ?_⟩
  have h : k ≠ g := fun e => hne (by rw [e])
  rw [setCells_other g _ _ _ k h, setCells_other g _ _ _ k h]
set_option maxHeartbeats 4000000 in
set_option maxRecDepth 100000 in
theorem delete_at {w : World} {base : Nat} {v : Value} {S : List Sp} {i : Nat} (h : w.ownsRow base 82 2 v S.length (flatG Sp.cs S)) (hl : S.length ≤ 1000) (hi : i < S.length) :
    Calls Tryz.prog 67 #[v, .int .i64 (i : Nat), .int .i64 (i + 1 : Nat)] w fun e w' => ∃ v', e = .returned v' ∧ w'.ownsRow base 82 2 v' (delS S i).length (flatG Sp.cs (delS S i)) ∧ w.grownBy w' v.ownBlock ∧ v'.ownBlock = v.ownBlock := by
  obtain ⟨i0, hi0, hz0, hz1, hz2⟩ := info_parts3 Tryz.info82
  rcases h.2 with ⟨rfl, h2⟩ | ⟨g, cap, cur, rfl, h2, h3, h4, h5, h6, h7⟩
  · omega
  · obtain ⟨n, hn⟩ : ∃ n, S.length = n := ⟨_, rfl⟩
    have hcap : cap ≤ 9223372036854775807 := by unfold maxLen at h5; omega
    have h4' : n ≤ cap := by rw [← hn]; exact h4
    have hi' : i < n := by rw [← hn]; exact hi
    obtain ⟨news, hnews⟩ : ∃ news, news = flatG Sp.cs (S.drop (i + 1)) := ⟨_, rfl⟩
    have hnl : news.length = (n - (i + 1)) * 2 := by rw [hnews, flatG_length Sp.z, List.length_drop, hn]
    have hdrop : (flatG Sp.cs S).drop ((i + 1) * 2) = news := by rw [flatG_drop Sp.z, hnews]
    have hread := owns_read h
    have hcellS : ∀ j, j < cap * 2 → (w.cell? ⟨g, j, none⟩).isSome = true := fun j hj => by
      rw [Go.Joins.cell_of_block h3 j, Array.getElem?_eq_getElem (by rw [h6]; exact hj)]; rfl
    have hfz : ∀ j, w.frozen? ⟨g, j, none⟩ = false := fun j => Go.Joins.unfrozen_of_block h3 j
    obtain ⟨A, hA, hsrc⟩ : ∃ A : Addr, (if cap = i + 1 then some (⟨g, 0, none⟩ : Addr) else some ⟨g, (i + 1) * 2, none⟩) = some A ∧ Hid (∀ t u, news[t]? = some u → w.drew.cell? (A.add t) = some u) := by
      by_cases hc : cap = i + 1
      · refine ⟨⟨g, 0, none⟩, by simp [hc], fun t u hu => ?_⟩
        have h0 : news.length = 0 := by rw [hnl]; omega
        rw [List.length_eq_zero_iff.1 h0] at hu
        simp at hu
      · refine ⟨⟨g, (i + 1) * 2, none⟩, by simp [hc], fun t u hu => ?_⟩
        rw [Addr.add_lit]
        refine hread _ _ ?_
        rw [← hdrop, List.getElem?_drop] at hu
        exact hu
    have s1 := hid hnl
    have s2 : Hid (∀ u ∈ news, u.oneCell' = true) := by rw [hnews]; exact spots_cell _
    have s3 : Hid (∀ t, t < news.length → (w.drew.cell? ⟨g, 0 + i * 2 + t, none⟩).isSome = true ∧ w.drew.frozen? ⟨g, 0 + i * 2 + t, none⟩ = false) := by
      intro t ht
      rw [hnl] at ht
      exact ⟨hcellS _ (by omega), hfz _⟩
    obtain ⟨W1, hW1⟩ : ∃ W1, W1 = w.drew.setCells g (0 + i * 2) news := ⟨_, rfl⟩
    have hcl : ∀ ty c, (Builtin.clear_ #[75] ty #[.slice (some ⟨g, (i + (n - (i + 1))) * 2, none⟩) (n - (i + (n - (i + 1)))) c]).run Tryz.prog W1 = .ok (.tuple #[]) (W1.setCells g ((i + (n - (i + 1))) * 2) [.int .i64 0, .int .u32 0]) := fun ty c => by
      rw [show n - (i + (n - (i + 1))) = 1 by omega]
      exact run_clear_one W1 75 82 ty _ _ _ Tryz.underlying75 Tryz.zero82 rfl rfl rfl g _ c (fun j hj => by
        rw [hW1]
        exact isSome_setCells g news (0 + i * 2) w.drew (fun t ht => hcellS (0 + i * 2 + t) (by rw [hnl] at ht; omega)) ((i + (n - (i + 1))) * 2 + j) (hcellS ((i + (n - (i + 1))) * 2 + j) (by omega))) (fun j hj => by
        rw [hW1, World.frozen?_setCells]; exact hfz _)
    have hW := hid hW1
    have e1 : i + (n - (i + 1)) = n - 1 := by omega
    have FIN : Hid ((W1.setCells g ((i + (n - (i + 1))) * 2) [.int .i64 0, .int .u32 0]).ownsRow base 82 2 (.slice (some ⟨g, 0, none⟩) (n - 1) cap) (n - 1) (flatG Sp.cs (delS S i)) ∧ w.grownBy (W1.setCells g ((i + (n - (i + 1))) * 2) [.int .i64 0, .int .u32 0]) (some g)) := by
      obtain ⟨cur1, b1, b2⟩ := setCells_block g (e := 82) (fr := (0, 0)) news (0 + i * 2) w.drew cur h3 (by rw [hnl, h6]; omega)
      have hs1 : cur1.size = cap * 2 := by
        have : cur1.toList.length = cap * 2 := by
          rw [b2, List.length_append, List.length_append, List.length_take, List.length_drop, hnl]
          have : cur.toList.length = cap * 2 := by simpa using h6
          omega
        simpa using this
      obtain ⟨cur2, c1, c2⟩ := setCells_block g (e := 82) (fr := (0, 0)) [.int .i64 0, .int .u32 0] ((i + (n - (i + 1))) * 2) W1 cur1 (by rw [hW1]; exact b1) (by rw [hs1]; simp; omega)
      have hs2 : cur2.size = cap * 2 := by
        have : cur2.toList.length = cap * 2 := by
          rw [c2, List.length_append, List.length_append, List.length_take, List.length_drop]
          have : cur1.toList.length = cap * 2 := by simpa using hs1
          simp
          omega
        simpa using this
      have hdl : (delS S i).length = n - 1 := by rw [delS_length hi, hn]
      refine ⟨⟨by rw [flatG_length Sp.z, hdl], .inr ⟨g, cap, cur2, rfl, h2, c1, by omega, h5, hs2, ?_⟩⟩, ?_⟩
      · have hcl1 : cur.toList.length = cap * 2 := by simpa using h6
        have t1 : cur.toList.take (0 + i * 2) = flatG Sp.cs (S.take i) := by
          have : cur.toList.take (0 + i * 2) = (cur.toList.take (n * 2)).take (i * 2) := by rw [List.take_take, Nat.zero_add, Nat.min_eq_left (by omega)]
          rw [this, ← hn, h7, flatG_take Sp.z]
        have l1 : (flatG Sp.cs (S.take i)).length = i * 2 := by rw [flatG_length Sp.z, List.length_take]; omega
        rw [c2, e1]
        rw [t1] at b2
        have t2 : cur1.toList.take ((n - 1) * 2) = flatG Sp.cs (delS S i) := by
          rw [b2]
          unfold delS
          rw [flatG_append, ← hnews]
          rw [List.take_append_of_le_length (by rw [List.length_append, l1, hnl]; omega), List.take_of_length_le (by rw [List.length_append, l1, hnl]; omega)]
        rw [t2, List.append_assoc, List.take_append_of_le_length (by rw [flatG_length Sp.z, hdl]; omega), List.take_of_length_le (by rw [flatG_length Sp.z, hdl]; omega)]
      · rw [hW1]
        have hg := grownBy_sets w.drew g (0 + i * 2) ((i + (n - (i + 1))) * 2) news [.int .i64 0, .int .u32 0]
        exact ⟨hg.os, hg.tape, hg.output, hg.size, hg.block⟩
    have hdl' : Hid ((delS S i).length = n - 1) := by show (delS S i).length = n - 1; rw [delS_length hi, hn]
    rw [hdl'.out]
    obtain ⟨X, hX⟩ : ∃ X, flatG Sp.cs (delS S i) = X := ⟨_, rfl⟩
    rw [hX] at FIN ⊢
    rw [hn] at hi hl h4 ⊢
    clear h h3 h6 h7 hread hcellS hfz hdrop hnews hnl hW1 hn hX hdl' e1
    have j1 : (i : Int) ≤ (n : Int) := by omega
    have j2 : (i : Int) + 1 ≤ (n : Int) := by omega
    have j3 : ¬ ((i : Int) = (i : Int) + 1) := by omega
    have j4 : i ≤ cap := by omega
    have j5 : i + 1 ≤ cap := by omega
    have j6 : i + 1 ≤ n := by omega
    have j7 : (n : Int) ≤ (cap : Int) := by omega
    have j8 : (0 : Int) ≤ (i : Int) + 1 := by omega
    go_enter Tryz.func67, Tryz.ntmps67
    go_wp2_with fail
    go_region_law (refine step_append_room rfl (.tmp 22) (.tmp 25) 75 rfl 82 i0 2 Tryz.underlying75 hi0 hz1 g 0 i cap (by simp [Act.eval, Act.put]) A (n - (i + 1)) (cap - (i + 1)) news (by simp [Act.eval, Act.put]) s1.out hsrc.out s2.out (by omega) s3.out ?_; rw [← hW.out])
    go_wp2
    go_ret
    refine ⟨_, rfl, ?_, FIN.out.2, rfl⟩
    have := FIN.out.1
    rwa [show n - 1 = i + (n - (i + 1)) by omega] at this ⊢
end Go.Proofs.YtildhbkcpehobaaGreatDoor
