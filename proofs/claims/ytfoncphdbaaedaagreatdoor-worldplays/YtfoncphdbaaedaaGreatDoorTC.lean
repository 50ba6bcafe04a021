/- Contracts of the package table over this translation, third part: Put, Set, Drop: each returns what the plain functions say; beyond the table's own blocks nothing that was there has turned. Contracts of the package table over this translation, fourth part: Put, Copy, Of. Each returns what the plain functions say; beyond the table's own blocks nothing that was there has turned. A table beside other blocks, over this translation: what is done with it leaves them as they were; and the statements' known examples. No conditions beyond those typed. -/
import Derived.Shelf.SlMaps.Clone
import Derived.Test.YtfoncphdbaaedaaGreatDoorTB
import Derived.Deep.RegionLaw
namespace Go.Proofs.YtfoncphdbaaedaaGreatDoor
section
open Go.RowKit Go.Maps
set_option linter.unusedVariables false
theorem TBT.pre {W0 w W : World} {tb : Nat} {L : List Th} {X : List Nat} {w' : World} (h : TBT W0 W tb L X w') (hb : Below w.heap.size w W) : TBT W0 w tb L X w' := by
  obtain ⟨X', h1, h2, h3⟩ := h
  have hs := hb.size
  refine ⟨X', h1, (Off.of_below hb X).trans h2 (fun y hy => .inl hy), fun k hk => ?_⟩
  rcases h3 k hk with h | h
  · exact .inl h
  · exact .inr (by omega)
theorem TBT.same {W0 w w' : World} {tb : Nat} {L : List Th} {X : List Nat} (h : TB W0 w tb L X) (hb : Below w.heap.size w w') : TBT W0 w tb L X w' :=
  ⟨X, h.later hb, Off.of_below hb X, fun k hk => .inl hk⟩
/-- the map has turned to L', the tree with it -/
theorem TB0.turn {W0 w w1 w' : World} {tb bm qb : Nat} {v : Value} {L L' : List Th} (h : TB0 W0 w tb bm qb v L) (hO : OM w1 bm L') (ho : Off [bm] w w1) (hT : TTurned w1 W0.heap.size qb v (marks L') w') (hG : Good L') : TBT W0 w tb L' (tb :: bm :: qb :: ob v) w' := by
  obtain ⟨v', h1, h2, h3⟩ := hT
  have hs := ho.size
  have hlt := h.lt
  have nb : bm ≠ tb := om_ne h.map h.at_
  have hoff : Off (tb :: bm :: qb :: ob v) w w' := by
    refine Off.trans (Y := qb :: ob v) ⟨ho.os, ho.tape, ho.output, ho.size, fun k hk hx => ho.block k hk (fun hm => hx (by simp at hm; subst hm; simp))⟩ h2 (fun y hy => .inl (List.mem_cons_of_mem _ (List.mem_cons_of_mem _ hy)))
  have htb : tb ∉ qb :: ob v := h.ne1
  refine ⟨tb :: bm :: qb :: ob v', ⟨bm, qb, v', ⟨?_, ?_, h1, hG, h.lo, h.lom, ?_, ?_, ?_, h.masks⟩, rfl⟩, hoff, ?_⟩
  · exact ⟨_, at_off (at_off h.at_ ho (by simp; exact fun e => nb e.symm)) h2 htb⟩
  · exact hO.off h2 h.ne2
  · intro hm
    rcases List.mem_cons.1 hm with e | hm
    · exact htb (by rw [e]; exact List.mem_cons_self)
    · rcases h3 tb hm with hm | hm
      · exact htb (List.mem_cons_of_mem _ hm)
      · have := (hlt tb (by simp)).2; omega
  · intro hm
    rcases List.mem_cons.1 hm with e | hm
    · exact h.ne2 (by rw [e]; exact List.mem_cons_self)
    · rcases h3 bm hm with hm | hm
      · exact h.ne2 (List.mem_cons_of_mem _ hm)
      · have := (hlt bm (by simp)).2; omega
  · exact h.below.trans (hoff.below h.below.size (fun x hx => (hlt x hx).1))
  · intro k hk
    rcases List.mem_cons.1 hk with rfl | hk
    · exact .inl (by simp)
    · rcases List.mem_cons.1 hk with rfl | hk
      · exact .inl (by simp)
      · rcases List.mem_cons.1 hk with rfl | hk
        · exact .inl (by simp)
        · rcases h3 k hk with hk | hk
          · exact .inl (List.mem_cons_of_mem _ (List.mem_cons_of_mem _ (List.mem_cons_of_mem _ hk)))
          · exact .inr (by omega)
theorem TB0.mask1 {W0 w w1 : World} {tb bm qb : Nat} {v : Value} {L : List Th} (h : TB0 W0 w tb bm qb v L) (ho : Off [bm] w w1) : Masks w1 :=
  h.masks.below (h.below.trans (ho.below h.below.size (fun x hx => by simp at hx; subst hx; exact h.lom)))
theorem Off.then {X : List Nat} {w w1 w2 : World} (h : Off X w w1) (hb : Below w1.heap.size w1 w2) : Off X w w2 := h.trans (Off.of_below hb []) (fun y hy => by cases hy)
theorem TB0.tree1 {W0 w w1 : World} {tb bm qb : Nat} {v : Value} {L : List Th} (h : TB0 W0 w tb bm qb v L) (ho : Off [bm] w w1) : TS w1 W0.heap.size qb v (marks L) :=
  h.tree.off ho (fun k hk hm => by simp at hm; subst hm; exact h.ne2 hk)
theorem cell_off {X : List Nat} {w w' : World} (ho : Off X w w') {g i : Nat} {u : Value} (h : w.cell? ⟨g, i, none⟩ = some u) (hx : g ∉ X) : w'.cell? ⟨g, i, none⟩ = some u := by
  have hl : g < w.heap.size := World.block_lt_of_cell? w ⟨g, i, none⟩ h
  rw [← h]
  unfold World.cell?
  rw [ho.block g hl hx]
theorem tb0_put {W0 w w1 w2 : World} {tb bm qb : Nat} {v : Value} {L : List Th} {t : Th} (h : TB0 W0 w tb bm qb v L) (hO : OM w1 bm (witT t L)) (ho : Off [bm] w w1) (hb : Below w1.heap.size w1 w2) (ht : isT t = true) (hf : inT t) (hh : hasT t.id L = false) (hl : L.length < 200) :
    Calls Tryz.prog 70 #[.pointer (some ⟨qb, 0, none⟩), .int .i64 t.id, pt t.x t.y] w2 fun e w' => e = .returned (.int .i64 0) ∧ TBT W0 w tb (witT t L) (tb :: bm :: qb :: ob v) w' ∧ Off (qb :: ob v) w2 w' := by
  have ho2 := ho.then hb
  obtain ⟨i1, _, i3⟩ := isT_parts ht
  obtain ⟨e1, e2⟩ := marks_put h.good.rise hl i1 i3 hh
  have C := ts_put (h.tree1 ho2) h.len9 (h.mask1 ho2) (Nat.le_trans h.below.size ho2.size) t.id t.x t.y
  rw [e1, e2] at C
  refine C.mono ?_
  rintro e w' ⟨rfl, hT⟩
  exact ⟨rfl, h.turn (hO.later hb) ho2 hT (h.good.put ht hf hh hl), by obtain ⟨_, _, h2, _⟩ := hT; exact h2⟩
theorem tb0_move {W0 w w1 w2 : World} {tb bm qb : Nat} {v : Value} {L : List Th} {t : Th} (h : TB0 W0 w tb bm qb v L) (hO : OM w1 bm (witT t L)) (ho : Off [bm] w w1) (hb : Below w1.heap.size w1 w2) (ht : isT t = true) (hf : inT t) (hh : hasT t.id L = true) :
    Calls Tryz.prog 69 #[.pointer (some ⟨qb, 0, none⟩), .int .i64 t.id, pt t.x t.y] w2 fun e w' => e = .returned (.int .i64 0) ∧ TBT W0 w tb (witT t L) (tb :: bm :: qb :: ob v) w' ∧ Off (qb :: ob v) w2 w' := by
  have ho2 := ho.then hb
  obtain ⟨i1, _, i3⟩ := isT_parts ht
  obtain ⟨e1, e2⟩ := marks_set h.good.rise i3 hh
  have C := ts_move (h.tree1 ho2) h.len9 (h.mask1 ho2) (Nat.le_trans h.below.size ho2.size) h.zero t.id t.x t.y
  rw [e1, e2] at C
  refine C.mono ?_
  rintro e w' ⟨rfl, hT⟩
  exact ⟨rfl, h.turn (hO.later hb) ho2 hT (h.good.set ht hf hh), by obtain ⟨_, _, h2, _⟩ := hT; exact h2⟩
theorem tb0_drop {W0 w w1 : World} {tb bm qb : Nat} {v : Value} {L : List Th} {id : Int} (h : TB0 W0 w tb bm qb v L) (hO : OM w1 bm (outT id L)) (ho : Off [bm] w w1) (hh : hasT id L = true) :
    Calls Tryz.prog 89 #[.pointer (some ⟨qb, 0, none⟩), .int .i64 id] w1 fun e w' => e = .returned (.int .i64 0) ∧ TBT W0 w tb (outT id L) (tb :: bm :: qb :: ob v) w' := by
  obtain ⟨e1, e2⟩ := marks_drop h.good.rise hh
  have C := ts_drop (h.tree1 ho) h.len9 id
  rw [e1, e2] at C
  refine C.mono ?_
  rintro e w' ⟨rfl, hT⟩
  exact ⟨rfl, h.turn hO ho hT (h.good.out id)⟩
set_option maxHeartbeats 1000000 in
theorem tb_drop {W0 w : World} {tb : Nat} {L : List Th} {X : List Nat} (h : TB W0 w tb L X) {id : Int} (hi : inI id) :
    Calls Tryz.prog 66 #[.pointer (some ⟨tb, 0, none⟩), .int .i64 id] w fun e w' => e = .returned (.int .i64 (tdE id L)) ∧ TBT W0 w tb (tdL id L) X w' := by
  obtain ⟨q, hq⟩ : ∃ q, Hid (hasT id L = q) := ⟨_, rfl⟩
  have C1 := tb_has h hi hq
  cases q
  · have H := hid h
    have e1 : tdE id L = 15 := by unfold tdE; rw [hq.out]; rfl
    have e2 : tdL id L = L := out_no hq.out
    rw [e1, e2]
    clear h e1 e2
    go_enter Tryz.func66, Tryz.ntmps66
    go_wp2_with fail
    refine C1.mono ?_
    rintro x w1 ⟨rfl, hb1⟩
    go_wp2_with fail
    go_ret
    exact ⟨rfl, TBT.same H.out hb1⟩
  · have e1 : tdE id L = 0 := by unfold tdE; rw [hq.out]; rfl
    rw [e1]
    unfold tdL
    clear e1
    obtain ⟨bm, qb, v, h, rfl⟩ := h
    have H := hid h
    clear h
    go_enter Tryz.func66, Tryz.ntmps66
    go_wp2_with fail
    refine C1.mono ?_
    rintro x w1 ⟨rfl, hb1⟩
    have T1 := hid (H.out.later hb1)
    have c1 := cells_at T1.out.at_
    clear C1 H
    go_upto_region 4 with (at_delete; refine wp_del rfl _ _ rfl rfl T1.out.map rfl hi ?_; intro w2 hO2 ho2)
    have c2 := cells_at (at_off T1.out.at_ ho2 (by simp; exact fun e => om_ne T1.out.map T1.out.at_ e.symm))
    have C2 := tb0_drop T1.out hO2 ho2 hq.out
    clear c1
    go_wp2_with fail
    refine C2.mono ?_
    rintro x w3 ⟨rfl, hT⟩
    go_wp2_with fail
    go_ret
    exact ⟨rfl, hT.pre hb1⟩
theorem eq_nil (b : Nat) (W : World) : (binOp .eql 56 (.map (some b)) (.map none)).run Tryz.prog W = .ok (.bool false) W :=
  run_eql_map_nil_sl W 56 _ _ (some b) Tryz.underlying56
set_option maxHeartbeats 2000000 in
theorem tb_set {W0 w : World} {tb : Nat} {L : List Th} {X : List Nat} (h : TB W0 w tb L X) {t : Th} (hf : inT t) :
    Calls Tryz.prog 48 #[.pointer (some ⟨tb, 0, none⟩), t.v] w fun e w' => e = .returned (.int .i64 (tsE t L)) ∧ TBT W0 w tb (tsL t L) X w' := by
  obtain ⟨q, hq⟩ : ∃ q, Hid (isT t = q) := ⟨_, rfl⟩
  have K0 : Hid ((w.alloc t.o).heap[w.heap.size]? = some t.o) := new_at _ _ _ rfl
  have hB0 := below1 w t.o
  cases q
  · have H := hid h
    have e1 : tsE t L = 11 := by unfold tsE; rw [if_pos hq.out]
    have e2 : tsL t L = L := by unfold tsL; rw [e1]; rfl
    rw [e1, e2]
    clear h e1 e2
    go_enter Tryz.func48, Tryz.ntmps48
    go_wp2_with fail
    refine (isT_at hq _ hf).mono ?_
    rintro x w1 ⟨rfl, hb1⟩
    go_wp2_with fail
    go_ret
    exact ⟨rfl, TBT.same H.out (below_on hB0 hb1)⟩
  · have hi : inI t.id := isT_inI hq.out
    obtain ⟨p, hp⟩ : ∃ p, Hid (hasT t.id L = p) := ⟨_, rfl⟩
    obtain ⟨bm, qb, v, h, rfl⟩ := h
    have H := hid h
    clear h
    cases p
    · have e1 : tsE t L = 15 := by unfold tsE; rw [if_neg (by rw [hq.out]; simp), if_pos hp.out]
      have e2 : tsL t L = L := by unfold tsL; rw [e1]; rfl
      rw [e1, e2]
      clear e1 e2
      go_enter Tryz.func48, Tryz.ntmps48
      go_wp2_with fail
      refine (isT_at hq _ hf).mono ?_
      rintro x w1 ⟨rfl, hb1⟩
      have hB1 := below_on hB0 hb1
      have K1 := hid (var_on hb1 K0.out (at_lt K0.out))
      have c1 := cells_at K1.out
      have T1 := hid (H.out.later hB1)
      clear hb1 K0 hB0
      go_wp2_with fail
      refine (tb_has ⟨_, _, _, T1.out, rfl⟩ hi hp).mono ?_
      rintro x w2 ⟨rfl, hb2⟩
      go_wp2_with fail
      go_ret
      exact ⟨rfl, TBT.same ⟨_, _, _, H.out, rfl⟩ (below_on hB1 hb2)⟩
    · have e1 : tsE t L = 0 := by unfold tsE; rw [if_neg (by rw [hq.out]; simp), if_neg (by rw [hp.out]; simp)]
      have e2 : tsL t L = witT t L := by unfold tsL; rw [e1]; rfl
      rw [e1, e2]
      clear e1 e2
      go_enter Tryz.func48, Tryz.ntmps48
      go_wp2_with fail
      refine (isT_at hq _ hf).mono ?_
      rintro x w1 ⟨rfl, hb1⟩
      have hB1 := below_on hB0 hb1
      have K1 := hid (var_on hb1 K0.out (at_lt K0.out))
      have c1 := cells_at K1.out
      have T1 := hid (H.out.later hB1)
      clear hb1 K0 hB0
      go_wp2_with fail
      refine (tb_has ⟨_, _, _, T1.out, rfl⟩ hi hp).mono ?_
      rintro x w2 ⟨rfl, hb2⟩
      have hB2 := below_on hB1 hb2
      have K2 := hid (var_on hb2 K1.out (at_lt K1.out))
      have T2 := hid (T1.out.later hb2)
      have c2 := cells_at K2.out
      have d2 := cells_at T2.out.at_
      have hl9 : L.length ≤ 999 := by have := T2.out.good.len; omega
      have n1 := hid T2.out.ne1
      have n2 : Hid (w.heap.size ∉ qb :: ob v) := fun hm => by have := (H.out.tree.lt _ hm).2; omega
      clear hb2 K1 T1 c1 hB1
      go_wp2_with fail
      obtain ⟨w3, hr3, hO3, ho3⟩ := om_put (T2.out.map.later (W' := w2.drew) ((Below.refl _ _).drew)) hl9 (t := t) hi
      unfold Th.v at hr3
      have HO3 := hid hO3
      have ho : Hid (Off [bm] w2 w3) := (Off.of_below ((Below.refl w2.heap.size w2).drew) [bm]).trans ho3 (fun y hy => .inl hy)
      clear hO3 ho3
      go_region
      all_goals
        have K3 := at_off K2.out ho.out (by simp; exact fun e => om_ne T2.out.map K2.out e.symm)
        have J3 := at_off T2.out.at_ ho.out (by simp; exact fun e => om_ne T2.out.map T2.out.at_ e.symm)
        have c3 := cells_at K3
        have d3 := cells_at J3
        clear c2 d2 hr3
        have q1 : w3.cell? ⟨tb, 1, none⟩ = some (.pointer (some ⟨qb, 0, none⟩)) := d3.1 1
        have q2 : w3.cell? ⟨w.heap.size, 0, none⟩ = some (.int .i64 t.id) := c3.1 0
        have q3 : w3.cell? ⟨w.heap.size, 1, none⟩ = some (.int .i64 t.x) := c3.1 1
        have q4 : w3.cell? ⟨w.heap.size, 2, none⟩ = some (.int .i64 t.y) := c3.1 2
        clear c3 d3 K3 J3
        go_wp2_with fail
        go_region_held3 (fun w' => w'.cell? ⟨tb, 1, none⟩ = some (.pointer (some ⟨qb, 0, none⟩)) ∧ w'.cell? ⟨w.heap.size, 0, none⟩ = some (.int .i64 t.id) ∧ w'.cell? ⟨w.heap.size, 1, none⟩ = some (.int .i64 t.x) ∧ w'.cell? ⟨w.heap.size, 2, none⟩ = some (.int .i64 t.y))
          (first | go_keep | (go_split_ands; exact ⟨cell_off hoK (by assumption) n1.out, cell_off hoK (by assumption) n2.out, cell_off hoK (by assumption) n2.out, cell_off hoK (by assumption) n2.out⟩))
          (first
            | (go_at_call 69; with_reducible refine (tb0_move T2.out HO3.out ho.out (by first | exact Below.refl _ _ | exact (Below.refl _ _).drew) hq.out hf hp.out).mono ?_; rintro z w4 ⟨rfl, hT4, hoK⟩))
        all_goals
          go_wp2_with fail
          go_ret
          exact ⟨rfl, hT4.pre hB2⟩
end
section
open Go.RowKit Go.Maps
set_option linter.unusedVariables false
set_option maxRecDepth 100000 in
set_option maxHeartbeats 2000000 in
theorem tb_put {W0 w : World} {tb : Nat} {L : List Th} {X : List Nat} (h : TB W0 w tb L X) {t : Th} (hf : inT t) :
    Calls Tryz.prog 49 #[.pointer (some ⟨tb, 0, none⟩), t.v] w fun e w' => e = .returned (.int .i64 (tpE t L)) ∧ TBT W0 w tb (tpL t L) X w' := by
  obtain ⟨q, hq⟩ : ∃ q, Hid (isT t = q) := ⟨_, rfl⟩
  have K0 : Hid ((w.alloc t.o).heap[w.heap.size]? = some t.o) := new_at _ _ _ rfl
  have hB0 := below1 w t.o
  cases q
  · have H := hid h
    have e1 : tpE t L = 11 := tpE_bad hq.out
    have e2 : tpL t L = L := by unfold tpL; rw [e1]; rfl
    rw [e1, e2]
    clear h e1 e2
    go_enter Tryz.func49, Tryz.ntmps49
    go_wp2_with fail
    refine (isT_at hq _ hf).mono ?_
    rintro x w1 ⟨rfl, hb1⟩
    go_wp2_with fail
    go_ret
    exact ⟨rfl, TBT.same H.out (below_on hB0 hb1)⟩
  · have hi : inI t.id := isT_inI hq.out
    obtain ⟨p, hp⟩ : ∃ p, Hid (hasT t.id L = p) := ⟨_, rfl⟩
    obtain ⟨bm, qb, v, h, rfl⟩ := h
    have H := hid h
    clear h
    obtain ⟨n, hn⟩ : ∃ n, Hid (L.length = n) := ⟨_, rfl⟩
    cases p
    · by_cases h2 : 200 ≤ n
      · have e1 : tpE t L = 16 := tpE_full hq.out hp.out (by rw [hn.out]; exact h2)
        have e2 : tpL t L = L := by unfold tpL; rw [e1]; rfl
        have h2' : (200 : Int) ≤ (n : Int) := by omega
        rw [e1, e2]
        clear e1 e2 h2
        go_enter Tryz.func49, Tryz.ntmps49
        go_wp2_with fail
        refine (isT_at hq _ hf).mono ?_
        rintro x w1 ⟨rfl, hb1⟩
        have hB1 := below_on hB0 hb1
        have K1 := hid (var_on hb1 K0.out (at_lt K0.out))
        have c1 := cells_at K1.out
        have T1 := hid (H.out.later hB1)
        clear hb1 K0 hB0
        go_wp2_with fail
        refine (tb_has ⟨_, _, _, T1.out, rfl⟩ hi hp).mono ?_
        rintro x w2 ⟨rfl, hb2⟩
        have T2 := hid (T1.out.later hb2)
        go_wp2_with fail
        refine (tb_len ⟨_, _, _, T2.out, rfl⟩ hn).mono ?_
        rintro x w3 ⟨rfl, hw3⟩
        rw [hw3]
        go_wp2_with fail
        go_ret
        exact ⟨rfl, TBT.same ⟨_, _, _, H.out, rfl⟩ (below_on hB1 hb2)⟩
      · have hl : L.length < 200 := by rw [hn.out]; omega
        have e1 : tpE t L = 0 := tpE_ok hq.out hp.out hl
        have e2 : tpL t L = witT t L := by unfold tpL; rw [e1]; rfl
        have h2' : ¬ (200 : Int) ≤ (n : Int) := by omega
        have hnil := eq_nil bm
        have hl9 : L.length ≤ 999 := by omega
        have HL := hid hl
        rw [e1, e2]
        clear e1 e2 h2 hl
        go_enter Tryz.func49, Tryz.ntmps49
        go_wp2_with fail
        refine (isT_at hq _ hf).mono ?_
        rintro x w1 ⟨rfl, hb1⟩
        have hB1 := below_on hB0 hb1
        have K1 := hid (var_on hb1 K0.out (at_lt K0.out))
        have c1 := cells_at K1.out
        have T1 := hid (H.out.later hB1)
        clear hb1 K0 hB0
        go_wp2_with fail
        refine (tb_has ⟨_, _, _, T1.out, rfl⟩ hi hp).mono ?_
        rintro x w2 ⟨rfl, hb2⟩
        have hB2 := below_on hB1 hb2
        have K2 := hid (var_on hb2 K1.out (at_lt K1.out))
        have T2 := hid (T1.out.later hb2)
        have n1 := hid T2.out.ne1
        have n2 : Hid (w.heap.size ∉ qb :: ob v) := fun hm => by have := (H.out.tree.lt _ hm).2; omega
        clear hb2 K1 T1 c1 hB1
        go_wp2_with fail
        refine (tb_len ⟨_, _, _, T2.out, rfl⟩ hn).mono ?_
        rintro x w3 ⟨rfl, hw3⟩
        rw [hw3]
        clear hw3 w3
        have c2 := cells_at K2.out
        have d2 := cells_at T2.out.at_
        go_wp2_with fail
        obtain ⟨w3, hr3, hO3, ho3⟩ := om_put (T2.out.map.later (W' := w2.drew) ((Below.refl _ _).drew)) hl9 (t := t) hi
        unfold Th.v at hr3
        have HO3 := hid hO3
        have ho : Hid (Off [bm] w2 w3) := (Off.of_below ((Below.refl w2.heap.size w2).drew) [bm]).trans ho3 (fun y hy => .inl hy)
        clear hO3 ho3
        go_region
        all_goals
          have K3 := at_off K2.out ho.out (by simp; exact fun e => om_ne T2.out.map K2.out e.symm)
          have J3 := at_off T2.out.at_ ho.out (by simp; exact fun e => om_ne T2.out.map T2.out.at_ e.symm)
          have c3 := cells_at K3
          have d3 := cells_at J3
          clear c2 d2 hr3
          have q1 : w3.cell? ⟨tb, 1, none⟩ = some (.pointer (some ⟨qb, 0, none⟩)) := d3.1 1
          have q2 : w3.cell? ⟨w.heap.size, 0, none⟩ = some (.int .i64 t.id) := c3.1 0
          have q3 : w3.cell? ⟨w.heap.size, 1, none⟩ = some (.int .i64 t.x) := c3.1 1
          have q4 : w3.cell? ⟨w.heap.size, 2, none⟩ = some (.int .i64 t.y) := c3.1 2
          clear c3 d3 K3 J3
          go_wp2_with fail
          go_region_held3 (fun w' => w'.cell? ⟨tb, 1, none⟩ = some (.pointer (some ⟨qb, 0, none⟩)) ∧ w'.cell? ⟨w.heap.size, 0, none⟩ = some (.int .i64 t.id) ∧ w'.cell? ⟨w.heap.size, 1, none⟩ = some (.int .i64 t.x) ∧ w'.cell? ⟨w.heap.size, 2, none⟩ = some (.int .i64 t.y))
            (first | go_keep | (go_split_ands; exact ⟨cell_off hoK (by assumption) n1.out, cell_off hoK (by assumption) n2.out, cell_off hoK (by assumption) n2.out, cell_off hoK (by assumption) n2.out⟩))
            (first
              | (go_at_call 70; with_reducible refine (tb0_put T2.out HO3.out ho.out (by first | exact Below.refl _ _ | exact (Below.refl _ _).drew) hq.out hf hp.out HL.out).mono ?_; rintro z w4 ⟨rfl, hT4, hoK⟩))
          all_goals
            go_wp2_with fail
            go_ret
            exact ⟨rfl, hT4.pre hB2⟩
    · have e1 : tpE t L = 11 := tpE_has hp.out
      have e2 : tpL t L = L := by unfold tpL; rw [e1]; rfl
      rw [e1, e2]
      clear e1 e2
      go_enter Tryz.func49, Tryz.ntmps49
      go_wp2_with fail
      refine (isT_at hq _ hf).mono ?_
      rintro x w1 ⟨rfl, hb1⟩
      have hB1 := below_on hB0 hb1
      have K1 := hid (var_on hb1 K0.out (at_lt K0.out))
      have c1 := cells_at K1.out
      have T1 := hid (H.out.later hB1)
      clear hb1 K0 hB0
      go_wp2_with fail
      refine (tb_has ⟨_, _, _, T1.out, rfl⟩ hi hp).mono ?_
      rintro x w2 ⟨rfl, hb2⟩
      go_wp2_with fail
      go_ret
      exact ⟨rfl, TBT.same ⟨_, _, _, H.out, rfl⟩ (below_on hB1 hb2)⟩
theorem tb0_clone {W0 w : World} {tb bm qb : Nat} {v : Value} {L : List Th} (h : TB0 W0 w tb bm qb v L) {N : Nat} (hN : w.heap.size = N) :
    Calls Tryz.prog 30 #[.map (some bm)] w fun e w' => e = .returned (.map (some N)) ∧ OM w' N L ∧ TB0 W0 w' tb bm qb v L ∧ Below w.heap.size w w' := by
  subst hN
  refine (Tryz.maps_Clone 3 RV bm L.length (DM L) w h.map).mono ?_
  rintro e w' ⟨rfl, h1, h2, hb⟩
  exact ⟨rfl, h1, h.later hb, hb⟩
theorem tb0_qcopy {W0 w : World} {tb bm qb : Nat} {v : Value} {L : List Th} (h : TB0 W0 w tb bm qb v L) :
    Calls Tryz.prog 31 #[.pointer (some ⟨qb, 0, none⟩)] w fun e w' => ∃ cb v', e = .returned (.pointer (some ⟨cb, 0, none⟩)) ∧ TS w' w.heap.size cb v' (marks L) ∧ Below w.heap.size w w' := ts_copy h.tree h.len9
set_option maxRecDepth 100000 in
set_option maxHeartbeats 2000000 in
theorem tb_copy {W0 w : World} {tb : Nat} {L : List Th} {X : List Nat} (h : TB W0 w tb L X) :
    Calls Tryz.prog 20 #[.pointer (some ⟨tb, 0, none⟩)] w fun e w' => ∃ cb Y, e = .returned (.pointer (some ⟨cb, 0, none⟩)) ∧ TB w w' cb L Y := by
  obtain ⟨n, hn⟩ : ∃ n, Hid (L.length = n) := ⟨_, rfl⟩
  have C1 := tb_len h hn
  have HMk := hid h.mask
  by_cases h0 : n = 0
  · subst h0
    have hL : L = [] := List.eq_nil_of_length_eq_zero hn.out
    subst hL
    clear h
    go_enter Tryz.func20, Tryz.ntmps20
    go_wp2_with fail
    refine C1.mono ?_
    rintro x w2 ⟨rfl, hw2⟩
    rw [hw2]
    go_wp2_with fail
    refine (tb_new HMk.out).mono ?_
    rintro x w3 ⟨cb, Y, rfl, hT⟩
    go_wp2_with fail
    go_ret
    exact ⟨cb, Y, rfl, hT⟩
  · have hn0 : ((n : Int) == 0) = false := by simpa using h0
    obtain ⟨bm, qb, v, h, rfl⟩ := h
    have T1 := hid h
    obtain ⟨cT, -⟩ := cells_at h.at_
    have t0 : w.cell? ⟨tb, 0, none⟩ = some (.map (some bm)) := cT 0
    have t1 : w.cell? ⟨tb, 1, none⟩ = some (.pointer (some ⟨qb, 0, none⟩)) := cT 1
    clear h cT h0
    go_enter Tryz.func20, Tryz.ntmps20
    go_wp2_with fail
    refine C1.mono ?_
    rintro x w2 ⟨rfl, hw2⟩
    rw [hw2]
    clear hw2 w2 C1
    go_wp2_with fail
    go_region_held3 (fun w' => w'.cell? ⟨tb, 0, none⟩ = some (.map (some bm)) ∧ w'.cell? ⟨tb, 1, none⟩ = some (.pointer (some ⟨qb, 0, none⟩)))
      (first | go_keep | (go_split_ands; refine ⟨?_, ?_⟩ <;> exact cell_below hbK (by assumption)) | (go_split_ands; refine ⟨?_, ?_⟩ <;> exact cell_below (below1 _ _) (by assumption)))
      (first
        | (go_at_call 30; with_reducible refine (tb0_clone (T1.out.later (by first | exact Below.refl _ _ | exact (Below.refl _ _).drew)) (N := w.heap.size) (by first | rfl | simp)).mono ?_; rintro z W2 ⟨rfl, hO2, T2, hbK⟩
           have hB2 : Below w.heap.size w W2 := (by first | exact hbK | exact (Below.refl w.heap.size w).drew.trans hbK)
           have H2 := hid T2
           have HO2 := hid hO2)
        | (go_at_call 31; with_reducible refine (tb0_qcopy H2.out).mono ?_; rintro z W3 ⟨cb, v3, rfl, hT3, hbK⟩
           have hB3 := below_on hB2 hbK
           have HO3 := hid (HO2.out.later hbK)
           have HT3 := hid hT3
           have hlt := hid hT3.lt
           have hs2 := hB2.size
           have hlm := hid HO2.out.lt))
    all_goals
      go_wp2_with fail
      go_ret
      refine ⟨_, _, rfl, w.heap.size, cb, v3, ⟨⟨_, new_at _ _ _ rfl⟩, HO3.out.later (below1 _ _), (HT3.out.later (below1 _ _)).base hs2, T1.out.good, hB3.size, Nat.le_refl _, ?_, ?_, hB3.alloc hB3.size _, HMk.out⟩, rfl⟩
      · intro hm
        have := (hlt.out _ hm).2
        omega
      · intro hm
        have h1 := (hlt.out _ hm).1
        have h2 := hlm.out
        omega
end
section
open Go.RowKit Go.Maps
set_option linter.unusedVariables false
/-- a table made behind W0; the blocks K are none of its own -/
structure TK (W0 W : World) (tb : Nat) (L : List Th) (K : List Nat) : Prop where
  has : ∃ X, TB W0 W tb L X ∧ ∀ k, k ∈ K → k < W.heap.size ∧ k ∉ X
theorem TK.good {W0 W : World} {tb : Nat} {L : List Th} {K : List Nat} (h : TK W0 W tb L K) : Good L := by
  obtain ⟨X, h1, _⟩ := h.has
  exact h1.good
theorem TK.below {W0 W : World} {tb : Nat} {L : List Th} {K : List Nat} (h : TK W0 W tb L K) : Below W0.heap.size W0 W := by
  obtain ⟨X, h1, _⟩ := h.has
  exact h1.below
theorem TK.mask {W0 W : World} {tb : Nat} {L : List Th} {K : List Nat} (h : TK W0 W tb L K) : Masks W := by
  obtain ⟨X, h1, _⟩ := h.has
  exact h1.mask
theorem TK.later {W0 W W' : World} {tb : Nat} {L : List Th} {K : List Nat} (h : TK W0 W tb L K) (hb : Below W.heap.size W W') : TK W0 W' tb L K := by
  obtain ⟨X, h1, h2⟩ := h.has
  exact ⟨X, h1.later hb, fun k hk => ⟨Nat.lt_of_lt_of_le (h2 k hk).1 hb.size, (h2 k hk).2⟩⟩
theorem TK.also {W0 W W' : World} {tb : Nat} {L : List Th} {K : List Nat} (h : TK W0 W tb L K) (hb : Below W.heap.size W W') {g : Nat} (h1 : W.heap.size ≤ g) (h2 : g < W'.heap.size) : TK W0 W' tb L (g :: K) := by
  obtain ⟨X, h3, h4⟩ := h.has
  refine ⟨X, h3.later hb, fun k hk => ?_⟩
  rcases List.mem_cons.1 hk with rfl | hk
  · exact ⟨h2, fun hm => by have := (h3.lt k hm).2; omega⟩
  · exact ⟨Nat.lt_of_lt_of_le (h4 k hk).1 hb.size, (h4 k hk).2⟩
theorem TK.less {W0 W : World} {tb : Nat} {L : List Th} {K : List Nat} (h : TK W0 W tb L K) : TK W0 W tb L [] := by
  obtain ⟨X, h1, h2⟩ := h.has
  exact ⟨X, h1, fun k hk => by cases hk⟩
theorem TK.turned {W0 w w' : World} {tb : Nat} {L L' : List Th} {K X : List Nat} (h1 : TB W0 w tb L X) (h2 : ∀ k, k ∈ K → k < w.heap.size ∧ k ∉ X) (ht : TBT W0 w tb L' X w') : TK W0 w' tb L' K ∧ Kept K w w' := by
  obtain ⟨X', k1, k2, k3⟩ := ht
  refine ⟨⟨X', k1, fun k hk => ⟨Nat.lt_of_lt_of_le (h2 k hk).1 k2.size, fun hm => ?_⟩⟩, fun k hk => k2.block k (h2 k hk).1 (h2 k hk).2⟩
  rcases k3 k hm with h | h
  · exact (h2 k hk).2 h
  · have := (h2 k hk).1; omega
theorem Kept.at {K : List Nat} {w w' : World} (h : Kept K w w') {g : Nat} {o : Obj} (hg : g ∈ K) (ho : w.heap[g]? = some o) : w'.heap[g]? = some o := by rw [h g hg]; exact ho
theorem Kept.cell {K : List Nat} {w w' : World} (h : Kept K w w') {g i : Nat} {u : Value} (hg : g ∈ K) (ho : w.cell? ⟨g, i, none⟩ = some u) : w'.cell? ⟨g, i, none⟩ = some u := by
  rw [World.cell?_of_block (h g hg)]; exact ho
theorem tk_new {w : World} (hM : Masks w) : Calls Tryz.prog 19 #[] w fun e w' => ∃ tb, e = .returned (.pointer (some ⟨tb, 0, none⟩)) ∧ TK w w' tb [] [] := by
  refine (tb_new hM).mono ?_
  rintro e w' ⟨tb, X, rfl, hT⟩
  exact ⟨tb, rfl, X, hT, fun k hk => by cases hk⟩
theorem tk_put {W0 w : World} {tb : Nat} {L : List Th} {K : List Nat} (h : TK W0 w tb L K) {t : Th} (hf : inT t) {x : Int} {L' : List Th} (he : Hid (tpE t L = x)) (hL : Hid (tpL t L = L')) :
    Calls Tryz.prog 49 #[.pointer (some ⟨tb, 0, none⟩), t.v] w fun e w' => e = .returned (.int .i64 x) ∧ TK W0 w' tb L' K ∧ Kept K w w' := by
  obtain ⟨X, h1, h2⟩ := h.has
  rw [← he.out, ← hL.out]
  refine (tb_put h1 hf).mono ?_
  rintro e w' ⟨rfl, hT⟩
  exact ⟨rfl, TK.turned h1 h2 hT⟩
theorem tk_set {W0 w : World} {tb : Nat} {L : List Th} {K : List Nat} (h : TK W0 w tb L K) {t : Th} (hf : inT t) {x : Int} {L' : List Th} (he : Hid (tsE t L = x)) (hL : Hid (tsL t L = L')) :
    Calls Tryz.prog 48 #[.pointer (some ⟨tb, 0, none⟩), t.v] w fun e w' => e = .returned (.int .i64 x) ∧ TK W0 w' tb L' K ∧ Kept K w w' := by
  obtain ⟨X, h1, h2⟩ := h.has
  rw [← he.out, ← hL.out]
  refine (tb_set h1 hf).mono ?_
  rintro e w' ⟨rfl, hT⟩
  exact ⟨rfl, TK.turned h1 h2 hT⟩
theorem tk_drop {W0 w : World} {tb : Nat} {L : List Th} {K : List Nat} (h : TK W0 w tb L K) {id : Int} (hi : inI id) {x : Int} {L' : List Th} (he : Hid (tdE id L = x)) (hL : Hid (tdL id L = L')) :
    Calls Tryz.prog 66 #[.pointer (some ⟨tb, 0, none⟩), .int .i64 id] w fun e w' => e = .returned (.int .i64 x) ∧ TK W0 w' tb L' K ∧ Kept K w w' := by
  obtain ⟨X, h1, h2⟩ := h.has
  rw [← he.out, ← hL.out]
  refine (tb_drop h1 hi).mono ?_
  rintro e w' ⟨rfl, hT⟩
  exact ⟨rfl, TK.turned h1 h2 hT⟩
theorem tk_len {W0 w : World} {tb : Nat} {L : List Th} {K : List Nat} (h : TK W0 w tb L K) {n : Nat} (hn : Hid (L.length = n)) :
    Calls Tryz.prog 28 #[.pointer (some ⟨tb, 0, none⟩)] w fun e w' => e = .returned (.int .i64 (n : Nat)) ∧ w' = w := by
  obtain ⟨X, h1, h2⟩ := h.has
  exact tb_len h1 hn
theorem tk_get {W0 w : World} {tb : Nat} {L : List Th} {K : List Nat} (h : TK W0 w tb L K) {id : Int} (hi : inI id) {t : Th} {q : Bool} (ht : Hid ((findT id L).getD zT = t)) (hq : Hid (hasT id L = q)) :
    Calls Tryz.prog 47 #[.pointer (some ⟨tb, 0, none⟩), .int .i64 id] w fun e w' => e = .returned (.tuple #[t.v, .bool q]) ∧ Below w.heap.size w w' := by
  obtain ⟨X, h1, h2⟩ := h.has
  exact tb_get h1 hi ht hq
theorem tk_in {W0 w : World} {tb : Nat} {L : List Th} {K : List Nat} (h : TK W0 w tb L K) (r0 r1 r2 r3 : Int) {M : List Th} (hM : Hid (inT_r ⟨r0, r1, r2, r3⟩ L = M)) {n : Nat} (hn : Hid (M.length = n)) :
    Calls Tryz.prog 26 #[.pointer (some ⟨tb, 0, none⟩), rc r0 r1 r2 r3] w fun e w' => ∃ p cap, e = .returned (.slice p n cap) ∧ RowT w' p M ∧ Below w.heap.size w w' := by
  obtain ⟨X, h1, h2⟩ := h.has
  rw [← hn.out]
  refine (tb_in h1 r0 r1 r2 r3 hM).mono ?_
  rintro e w' ⟨p, cap, rfl, ho, hb⟩
  exact ⟨p, cap, rfl, rowT_own ho rfl, hb⟩
theorem tk_cell {W0 w : World} {tb : Nat} {L : List Th} {K : List Nat} (h : TK W0 w tb L K) (c : Int) {M : List Th} (hM : Hid (inT_r (cellR c) L = M)) {n : Nat} (hn : Hid (M.length = n)) :
    Calls Tryz.prog 115 #[.pointer (some ⟨tb, 0, none⟩), .int .i64 c] w fun e w' => ∃ p cap, e = .returned (.slice p n cap) ∧ RowT w' p M ∧ Below w.heap.size w w' := by
  obtain ⟨X, h1, h2⟩ := h.has
  rw [← hn.out]
  refine (tb_cell h1 c hM).mono ?_
  rintro e w' ⟨p, cap, rfl, ho, hb⟩
  exact ⟨p, cap, rfl, rowT_own ho rfl, hb⟩
theorem tk_all {W0 w : World} {tb : Nat} {L : List Th} {K : List Nat} (h : TK W0 w tb L K) {n : Nat} (hn : Hid (L.length = n)) :
    Calls Tryz.prog 25 #[.pointer (some ⟨tb, 0, none⟩)] w fun e w' => ∃ p cap, e = .returned (.slice p n cap) ∧ RowT w' p L ∧ Below w.heap.size w w' := by
  obtain ⟨X, h1, h2⟩ := h.has
  rw [← hn.out]
  refine (tb_all h1).mono ?_
  rintro e w' ⟨p, cap, rfl, ho, hb⟩
  exact ⟨p, cap, rfl, rowT_own ho rfl, hb⟩
theorem tk_copy {W0 w : World} {tb : Nat} {L : List Th} {K : List Nat} (h : TK W0 w tb L K) :
    Calls Tryz.prog 20 #[.pointer (some ⟨tb, 0, none⟩)] w fun e w' => ∃ cb, e = .returned (.pointer (some ⟨cb, 0, none⟩)) ∧ TK w w' cb L [] := by
  obtain ⟨X, h1, h2⟩ := h.has
  refine (tb_copy h1).mono ?_
  rintro e w' ⟨cb, Y, rfl, hT⟩
  exact ⟨cb, rfl, Y, hT, fun k hk => by cases hk⟩
abbrev kx : Th := ⟨5, 3, 3, ⟨0, ⟨#[]⟩⟩, ⟨0, ⟨#[]⟩⟩, ⟨0, ⟨#[]⟩⟩, ⟨0, ⟨#[]⟩⟩⟩
abbrev thN (id x y : Int) : Th := ⟨id, x, y, ⟨0, ⟨#[]⟩⟩, ⟨0, ⟨#[]⟩⟩, ⟨0, ⟨#[]⟩⟩, ⟨0, ⟨#[]⟩⟩⟩
theorem zF_in : inF ⟨0, ⟨#[]⟩⟩ := ⟨by decide, by decide, by decide⟩
theorem thN_in (id x y : Int) : inT (thN id x y) := ⟨zF_in, zF_in, zF_in, zF_in⟩
theorem inI_small {x : Int} (h1 : -1000000 ≤ x) (h2 : x ≤ 1000000) : inI x := ⟨by omega, by omega⟩
theorem k1 : tpE kx [] = 0 ∧ tpE kx [kx] = 11 ∧ tsE (thN 6 0 0) [kx] = 15 ∧ tdE 7 [kx] = 15 ∧ hasT 5 [kx] = true := by decide +kernel
theorem k2 : tpL kx [] = [kx] ∧ tpL kx [kx] = [kx] ∧ tsL (thN 6 0 0) [kx] = [kx] ∧ tdL 7 [kx] = [kx] ∧ (findT 5 [kx]).getD zT = kx := by
  refine ⟨?_, ?_, ?_, ?_, ?_⟩ <;> kernel_rfl
theorem k3 : inT_r (cellR 0) [kx] = [kx] ∧ inT_r (cellR 1) [kx] = [] ∧ inT_r ⟨0, 0, 4, 4⟩ [kx] = [kx] ∧ ofT [kx, kx] = [kx] := by
  refine ⟨?_, ?_, ?_, ?_⟩ <;> kernel_rfl
end
end Go.Proofs.YtfoncphdbaaedaaGreatDoor
