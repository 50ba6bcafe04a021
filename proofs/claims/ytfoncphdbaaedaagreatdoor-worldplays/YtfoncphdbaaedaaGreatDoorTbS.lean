/- Contract of the reference's With over rows of things that rise: it returns the row with the thing at its place, in new memory; nothing that was there is changed. -/
import Derived.Test.YtfoncphdbaaedaaGreatDoorTbR
namespace Go.Proofs.YtfoncphdbaaedaaGreatDoor
open Go.RowKit Go.Maps
set_option linter.unusedVariables false
/-- one round of With: what is out so far, whether the thing is -/
def wS (t : Th) (p : List Th × Bool) (a : Th) : List Th × Bool :=
  (if a.id = t.id then (if (!p.2 && decide (t.id ≤ a.id)) = true then p.1 ++ [t] else p.1) else (if (!p.2 && decide (t.id ≤ a.id)) = true then p.1 ++ [t] else p.1) ++ [a], p.2 || decide (t.id ≤ a.id))
def wF (t : Th) (L : List Th) : List Th × Bool := L.foldl (wS t) ([], false)
theorem wF_take {t : Th} {L : List Th} {k : Nat} {a : Th} (h : L[k]? = some a) : wF t (L.take (k + 1)) = wS t (wF t (L.take k)) a := by
  unfold wF
  rw [List.take_add_one, h, Option.toList_some, List.foldl_append]
  rfl
theorem fold_done (t : Th) : ∀ (L : List Th) (o : List Th), L.foldl (wS t) (o, true) = (o ++ outT t.id L, true)
  | [], o => by simp [outT]
  | a :: r, o => by
    have e : wS t (o, true) a = (if a.id = t.id then o else o ++ [a], true) := by simp [wS]
    rw [List.foldl_cons, e]
    by_cases h : a.id = t.id
    · rw [if_pos h, fold_done t r]
      simp [outT, h]
    · rw [if_neg h, fold_done t r]
      simp [outT, h]
theorem ins_front {t : Th} {M : List Th} (h : ∀ b ∈ M, t.id < b.id) : insT t M = t :: M := by
  cases M with
  | nil => rfl
  | cons a r => unfold insT; rw [if_pos (h a List.mem_cons_self)]
theorem fold_with (t : Th) : ∀ (L : List Th) (o : List Th), Rise L → (if (L.foldl (wS t) (o, false)).2 = true then (L.foldl (wS t) (o, false)).1 else (L.foldl (wS t) (o, false)).1 ++ [t]) = o ++ witT t L
  | [], o, _ => by simp [witT, outT, insT]
  | a :: r, o, h => by
    obtain ⟨h1, h2⟩ := List.pairwise_cons.1 h
    rw [List.foldl_cons]
    by_cases hle : t.id ≤ a.id
    · have hb : ∀ b ∈ outT t.id r, t.id < b.id := fun b hb => by have := h1 b (out_mem.1 hb).1; omega
      by_cases he : a.id = t.id
      · have e : wS t (o, false) a = (o ++ [t], true) := by simp [wS, he]
        rw [e, fold_done, if_pos rfl]
        have : outT t.id (a :: r) = outT t.id r := by simp [outT, he]
        unfold witT
        rw [this, ins_front hb]
        simp
      · have e : wS t (o, false) a = (o ++ [t] ++ [a], true) := by simp [wS, he, hle]
        rw [e, fold_done, if_pos rfl]
        have : outT t.id (a :: r) = a :: outT t.id r := by simp [outT, he]
        unfold witT
        rw [this]
        unfold insT
        rw [if_pos (by omega)]
        simp
    · have he : ¬ a.id = t.id := by omega
      have e : wS t (o, false) a = (o ++ [a], false) := by simp [wS, he, hle]
      rw [e, fold_with t r _ h2]
      have : outT t.id (a :: r) = a :: outT t.id r := by simp [outT, he]
      unfold witT
      rw [this]
      rw [show insT t (a :: outT t.id r) = a :: insT t (outT t.id r) by rw [insT, if_neg (by omega)]]
      simp
theorem with_end {t : Th} {L : List Th} (h : Rise L) {o : List Th} {d : Bool} (hF : wF t L = (o, d)) : (if d = true then o else o ++ [t]) = witT t L := by
  have := fold_with t L [] h
  rw [show L.foldl (wS t) ([], false) = (o, d) from hF] at this
  simpa using this
theorem wS_len (t : Th) (p : List Th × Bool) (a : Th) : (wS t p a).1.length ≤ p.1.length + 2 := by
  unfold wS
  simp only
  split <;> split <;> simp
set_option maxRecDepth 100000 in
set_option maxHeartbeats 2000000 in
theorem ref_with {w : World} {p : Option Addr} {cap : Nat} {L : List Th} (hr : RowT w p L) (hR : Rise L) {n : Nat} (hn : Hid (L.length = n)) (hl : n ≤ 999) {t : Th} {M : List Th} (hM : Hid (witT t L = M)) {m : Nat} (hm : Hid (M.length = m)) :
    Calls Tryz.prog 37 #[.slice p n cap, t.v] w fun e w' => ∃ p' cap', e = .returned (.slice p' m cap') ∧ RowT w' p' M ∧ (∀ k, k ∈ rowB p' → w.heap.size ≤ k ∧ k < w'.heap.size) ∧ Below w.heap.size w w' := by
  obtain ⟨i0, hi, hz0, hz1, hz2⟩ := info_parts Tryz.infoT
  have HR := hid hr
  have HRi := hid hR
  have K0 : Hid ((w.alloc t.o).heap[w.heap.size]? = some t.o) := new_at _ _ _ rfl
  have hB0 := below1 w t.o
  clear hr hR
  go_enter Tryz.func37, Tryz.ntmps37
  go_wp2_with fail
  go_loopw [7, 5, 6] (fun s7 s5 s6 wr => ∃ (k : Nat) (A : List Th) (d : Bool), k ≤ n ∧ s7 = .int .i64 (k : Nat) ∧ s6 = .bool d ∧ Hid (wF t (L.take k) = (A, d)) ∧ A.length ≤ 2 * k ∧ wr.ownsRow (w.heap.size + 1) 54 11 s5 A.length (flatT A) ∧ Hid (wr.heap[w.heap.size]? = some t.o) ∧ Below w.heap.size w wr) (fun s7 _ _ _ => n - (intOf s7).toNat)
  case atStart => exact ⟨0, [], false, by omega, rfl, rfl, (show Hid _ from rfl), by simp, World.ownsRow_nil _ _ _ _, K0, hB0⟩
  case round =>
    obtain ⟨k, A, d, hk, rfl, rfl, hA, hAl, ho, K, hb⟩ := hrel
    obtain ⟨p5, c5, rfl⟩ := owns_slice ho
    clear K0 hB0
    have hs : w.heap.size + 1 ≤ wr.heap.size := lt_of_at K.out
    by_cases hlt : k < n
    · have hlt' : (k : Int) < (n : Int) := by omega
      obtain ⟨a, ha⟩ := get_th L k (by rw [hn.out]; exact hlt)
      obtain ⟨b, off, rfl, hc⟩ := (HR.out.later hb).at ha
      have HT := hid ha
      clear ha
      have ck := cells_at K.out
      have hstep := hid (show wF t (L.take (k + 1)) = wS t (A, d) a by rw [wF_take HT.out, hA.out])
      cases d
      · by_cases hle : t.id ≤ a.id
        · go_upto_region 6 with fail
          go_quiet (fail)
          generalize hW2 : wr.drewN nq = W2
          have hb1 : Below wr.heap.size wr W2 := by rw [← hW2]; exact below_drewN (Below.refl _ _) _
          have ho2 := owns_on ho hb1
          have K2 := hid (var_on hb1 K.out (lt_of_at K.out))
          have hB2 := below_on hb hb1
          have hs2 : w.heap.size + 1 ≤ W2.heap.size := lt_of_at K2.out
          clear hW2 ho K hb ck hc hb1
          have ck := cells_at K2.out
          go_upto_region 9 with (at_builtin; refine wpList_append_lies _ rfl _ _ 29 rfl (w.heap.size + 1) 54 i0 zT.v 11 120 Tryz.underlying29 hi hz0 hz1 hz2 rfl (by decide) _ _ _ rfl (ho2.alloc _) ⟨W2.heap.size, 0, none⟩ 1 1 t.cs rfl rfl (World.news_of_block (heap_alloc_new _ _)) (cs_one t) (by decide) (by unfold maxLen; omega) (by omega) (by simp; omega) (W2.heap.size + 1) (by simp) ?_; intro g cap' W3 hown hgrow hat hg5)
          have K3 := hid ((hgrow.block w.heap.size (by simp; omega) (fun e => by have := (ho2.lt w.heap.size e.symm).1; omega)).trans (old_at K2.out _))
          have hB3 : Below w.heap.size w W3 := (hB2.alloc (by omega) _).grown hgrow (by simp; omega) (fun k hk => by have := (ho2.lt k hk).1; omega)
          rw [← flatT_one t, ← flatT_append] at hown
          have hs3 : w.heap.size + 1 ≤ W3.heap.size := lt_of_at K3.out
          clear ho2 K2 hB2 ck hgrow hat hg5 hs2
          have ck := cells_at K3.out
          obtain ⟨b1, off1, e1, hc⟩ := (HR.out.later hB3).at HT.out
          simp only [Option.some.injEq, Addr.mk.injEq, and_true] at e1
          obtain ⟨rfl, rfl⟩ := e1
          by_cases he : a.id = t.id
          · have he' : (a.id != t.id) = false := by simpa using he
            have e := hid (show wF t (L.take (k + 1)) = (A ++ [t], true) by rw [hstep.out]; simp [wS, he])
            clear he
            go_quiet (fail)
            go_wp2_with fail
            go_roundw
            case rel =>
              refine ⟨k + 1, A ++ [t], true, by omega, by go_num, rfl, e, by simp; omega, ?_, K3, below_drewN hB3 _⟩
              rw [List.length_append]; exact hown
            case measure => simp [intOf]; omega
          · have he' : (a.id != t.id) = true := by simpa using he
            have e := hid (show wF t (L.take (k + 1)) = (A ++ [t] ++ [a], true) by rw [hstep.out]; simp [wS, he, hle])
            clear he
            go_quiet (fail)
            generalize hW4 : W3.drewN nq = W4
            have hb4 : Below W3.heap.size W3 W4 := by rw [← hW4]; exact below_drewN (Below.refl _ _) _
            have ho4 := owns_on hown hb4
            have K4 := hid (var_on hb4 K3.out (lt_of_at K3.out))
            have hB4 := below_on hB3 hb4
            have hs4 : w.heap.size + 1 ≤ W4.heap.size := lt_of_at K4.out
            have hc4 := hid (cellsT_later hc hb4)
            clear hW4 hown K3 hB3 ck hc hb4
            have hc := hc4.out
            go_wp2_with (at_builtin; refine wpList_append_lies _ rfl _ _ 29 rfl (w.heap.size + 1) 54 i0 zT.v 11 120 Tryz.underlying29 hi hz0 hz1 hz2 rfl (by decide) _ _ _ rfl (ho4.alloc _) ⟨W4.heap.size, 0, none⟩ 1 1 a.cs rfl rfl (World.news_of_block (heap_alloc_new _ _)) (cs_one a) (by decide) (by unfold maxLen; omega) (by omega) (by simp; omega) (W4.heap.size + 1) (by simp) ?_; intro g5 cap5 W5 hown5 hgrow5 hat5 hg5)
            go_roundw
            case rel =>
              refine ⟨k + 1, A ++ [t] ++ [a], true, by omega, by go_num, rfl, e, by simp; omega, ?_, ?_, ?_⟩
              · rw [flatT_append, flatT_one, List.length_append, List.length_append]; exact hown5
              · exact (hgrow5.block w.heap.size (by simp; omega) (fun e => by have := (ho4.lt w.heap.size e.symm).1; omega)).trans (old_at K4.out _)
              · exact (hB4.alloc (by omega) _).grown hgrow5 (by simp; omega) (fun k hk => by have := (ho4.lt k hk).1; omega)
            case measure => simp [intOf]; omega
        · have hle' : decide (t.id ≤ a.id) = false := by simpa using hle
          have he : ¬ a.id = t.id := by omega
          have he' : (a.id != t.id) = true := by simpa using he
          have e := hid (show wF t (L.take (k + 1)) = (A ++ [a], false) by rw [hstep.out]; simp [wS, he, hle])
          clear he hle
          go_upto_region 6 with fail
          go_quiet (fail)
          go_upto_region 9 with fail
          go_quiet (fail)
          generalize hW4 : (wr.drewN _).drewN nq = W4
          have hb4 : Below wr.heap.size wr W4 := by rw [← hW4]; exact below_drewN (below_drewN (Below.refl _ _) _) _
          have ho4 := owns_on ho hb4
          have K4 := hid (var_on hb4 K.out (lt_of_at K.out))
          have hB4 := below_on hb hb4
          have hs4 : w.heap.size + 1 ≤ W4.heap.size := lt_of_at K4.out
          have hc4 := hid (cellsT_later hc hb4)
          clear hW4 ho K hb ck hc hb4
          have hc := hc4.out
          go_wp2_with (at_builtin; refine wpList_append_lies _ rfl _ _ 29 rfl (w.heap.size + 1) 54 i0 zT.v 11 120 Tryz.underlying29 hi hz0 hz1 hz2 rfl (by decide) _ _ _ rfl (ho4.alloc _) ⟨W4.heap.size, 0, none⟩ 1 1 a.cs rfl rfl (World.news_of_block (heap_alloc_new _ _)) (cs_one a) (by decide) (by unfold maxLen; omega) (by omega) (by simp; omega) (W4.heap.size + 1) (by simp) ?_; intro g5 cap5 W5 hown5 hgrow5 hat5 hg5)
          go_roundw
          case rel =>
            refine ⟨k + 1, A ++ [a], false, by omega, by go_num, rfl, e, by simp; omega, ?_, ?_, ?_⟩
            · rw [flatT_append, flatT_one, List.length_append]; exact hown5
            · exact (hgrow5.block w.heap.size (by simp; omega) (fun e => by have := (ho4.lt w.heap.size e.symm).1; omega)).trans (old_at K4.out _)
            · exact (hB4.alloc (by omega) _).grown hgrow5 (by simp; omega) (fun k hk => by have := (ho4.lt k hk).1; omega)
          case measure => simp [intOf]; omega
      · by_cases he : a.id = t.id
        · have he' : (a.id != t.id) = false := by simpa using he
          have e := hid (show wF t (L.take (k + 1)) = (A, true) by rw [hstep.out]; simp [wS, he])
          clear he
          go_upto_region 6 with fail
          go_quiet (fail)
          go_upto_region 9 with fail
          go_quiet (fail)
          go_wp2_with fail
          go_roundw
          case rel => exact ⟨k + 1, A, true, by omega, by go_num, rfl, e, by omega, ho, K, below_drewN hb _⟩
          case measure => simp [intOf]; omega
        · have he' : (a.id != t.id) = true := by simpa using he
          have e := hid (show wF t (L.take (k + 1)) = (A ++ [a], true) by rw [hstep.out]; simp [wS, he])
          clear he
          go_upto_region 6 with fail
          go_quiet (fail)
          go_upto_region 9 with fail
          go_quiet (fail)
          generalize hW4 : (wr.drewN _).drewN nq = W4
          have hb4 : Below wr.heap.size wr W4 := by rw [← hW4]; exact below_drewN (below_drewN (Below.refl _ _) _) _
          have ho4 := owns_on ho hb4
          have K4 := hid (var_on hb4 K.out (lt_of_at K.out))
          have hB4 := below_on hb hb4
          have hs4 : w.heap.size + 1 ≤ W4.heap.size := lt_of_at K4.out
          have hc4 := hid (cellsT_later hc hb4)
          clear hW4 ho K hb ck hc hb4
          have hc := hc4.out
          go_wp2_with (at_builtin; refine wpList_append_lies _ rfl _ _ 29 rfl (w.heap.size + 1) 54 i0 zT.v 11 120 Tryz.underlying29 hi hz0 hz1 hz2 rfl (by decide) _ _ _ rfl (ho4.alloc _) ⟨W4.heap.size, 0, none⟩ 1 1 a.cs rfl rfl (World.news_of_block (heap_alloc_new _ _)) (cs_one a) (by decide) (by unfold maxLen; omega) (by omega) (by simp; omega) (W4.heap.size + 1) (by simp) ?_; intro g5 cap5 W5 hown5 hgrow5 hat5 hg5)
          go_roundw
          case rel =>
            refine ⟨k + 1, A ++ [a], true, by omega, by go_num, rfl, e, by simp; omega, ?_, ?_, ?_⟩
            · rw [flatT_append, flatT_one, List.length_append]; exact hown5
            · exact (hgrow5.block w.heap.size (by simp; omega) (fun e => by have := (ho4.lt w.heap.size e.symm).1; omega)).trans (old_at K4.out _)
            · exact (hB4.alloc (by omega) _).grown hgrow5 (by simp; omega) (fun k hk => by have := (ho4.lt k hk).1; omega)
          case measure => simp [intOf]; omega
    · obtain rfl : k = n := by omega
      have hlt' : ¬ (k : Int) < (k : Int) := by omega
      have hF : wF t L = (A, d) := by rw [← hA.out, List.take_of_length_le (by rw [hn.out]; omega)]
      have e := hid ((with_end HRi.out hF).trans hM.out)
      clear hF
      have ck := cells_at K.out
      cases d
      · have e2 : M = A ++ [t] := e.out.symm
        subst e2
        have hm2 : A.length + 1 = m := by have := hm.out; simpa using this
        go_wp2_with (at_builtin; refine wpList_append_lies _ rfl _ _ 29 rfl (w.heap.size + 1) 54 i0 zT.v 11 120 Tryz.underlying29 hi hz0 hz1 hz2 rfl (by decide) _ _ _ rfl (ho.alloc _) ⟨wr.heap.size, 0, none⟩ 1 1 t.cs rfl rfl (World.news_of_block (heap_alloc_new _ _)) (cs_one t) (by decide) (by unfold maxLen; omega) (by omega) (by simp; omega) (wr.heap.size + 1) (by simp) ?_; intro g5 cap5 W5 hown5 hgrow5 hat5 hg5)
        rw [← flatT_one t, ← flatT_append] at hown5
        have hB5 : Below w.heap.size w W5 := (hb.alloc (by omega) _).grown hgrow5 (by simp; omega) (fun k hk => by have := (ho.lt k hk).1; omega)
        go_ret
        exact ⟨_, ⟨_, by rw [← hm2]; rfl⟩, rowT_own hown5 (by simp), fun k hk => ⟨Nat.le_of_succ_le (rowB_own hown5 k hk).1, (rowB_own hown5 k hk).2⟩, hB5⟩
      · have e2 : M = A := e.out.symm
        subst e2
        go_wp2_with fail
        go_ret
        exact ⟨p5, ⟨c5, by rw [← hm.out]; rfl⟩, rowT_own ho rfl, fun k hk => ⟨Nat.le_of_succ_le (rowB_own ho k hk).1, (rowB_own ho k hk).2⟩, hb⟩
end Go.Proofs.YtfoncphdbaaedaaGreatDoor
