/- Contracts of the package table over this translation, third part: Put, Set, Drop: each returns what the plain functions say; beyond the table's own blocks nothing that was there has turned. -/
import Derived.Test.YtildhbkcpehobaaGreatDoorTbU
import Derived.Deep.RegionLaw
namespace Go.Proofs.YtildhbkcpehobaaGreatDoor
open Go.RowKit Go.Maps
set_option linter.unusedVariables false
theorem TBT.pre {W0 w W : World} {tb : Nat} {L : List Th} {X : List Nat} {w' : World} (h : TBT W0 W tb L X w') (hb : Below w.heap.size w W) : TBT W0 w tb L X w' := by
  obtain ⟨X', h1, h2, h3⟩ := h
  have hs := hb.size
  refine ⟨X', h1, (Off.of_below hb X).trans h2 (fun y hy => .inl hy), fun k hk => ?_⟩
  rcases h3 k hk with h | h
  · exact .inl h
  · exact .inr (by omega)
theorem TBT.same {W0 w w' : World} {tb : Nat} {L : List Th} {X : List Nat} (h : TB W0 w tb L X) (hb : Below w.heap.size w w') : TBT W0 w tb L X w' :=
  ⟨X, h.later hb, Off.of_below hb X, fun k hk => .inl hk⟩
/-- the map has turned to L', the tree with it -/
theorem TB0.turn {W0 w w1 w' : World} {tb bm qb : Nat} {v : Value} {L L' : List Th} (h : TB0 W0 w tb bm qb v L) (hO : OM w1 bm L') (ho : Off [bm] w w1) (hT : TTurned w1 W0.heap.size qb v (marks L') w') (hG : Good L') : TBT W0 w tb L' (tb :: bm :: qb :: ob v) w' := by
  obtain ⟨v', h1, h2, h3⟩ := hT
  have hs := ho.size
  have hlt := h.lt
  have nb : bm ≠ tb := om_ne h.map h.at_
  have hoff : Off (tb :: bm :: qb :: ob v) w w' := by
    refine Off.trans (Y := qb :: ob v) ⟨ho.os, ho.tape, ho.output, ho.size, fun k hk hx => ho.block k hk (fun hm => hx (by simp at hm; subst hm; simp))⟩ h2 (fun y hy => .inl (List.mem_cons_of_mem _ (List.mem_cons_of_mem _ hy)))
  have htb : tb ∉ qb :: ob v := h.ne1
  refine ⟨tb :: bm :: qb :: ob v', ⟨bm, qb, v', ⟨?_, ?_, h1, hG, h.lo, h.lom, ?_, ?_, ?_, h.masks⟩, rfl⟩, hoff, ?_⟩
  · exact at_off (at_off h.at_ ho (by simp; exact fun e => nb e.symm)) h2 htb
  · exact hO.off h2 h.ne2
  · intro hm
    rcases List.mem_cons.1 hm with e | hm
    · exact htb (by rw [e]; exact List.mem_cons_self)
    · rcases h3 tb hm with hm | hm
      · exact htb (List.mem_cons_of_mem _ hm)
      · have := (hlt tb (by simp)).2; omega
  · intro hm
    rcases List.mem_cons.1 hm with e | hm
    · exact h.ne2 (by rw [e]; exact List.mem_cons_self)
    · rcases h3 bm hm with hm | hm
      · exact h.ne2 (List.mem_cons_of_mem _ hm)
      · have := (hlt bm (by simp)).2; omega
  · exact h.below.trans (hoff.below h.below.size (fun x hx => (hlt x hx).1))
  · intro k hk
    rcases List.mem_cons.1 hk with rfl | hk
    · exact .inl (by simp)
    · rcases List.mem_cons.1 hk with rfl | hk
      · exact .inl (by simp)
      · rcases List.mem_cons.1 hk with rfl | hk
        · exact .inl (by simp)
        · rcases h3 k hk with hk | hk
          · exact .inl (List.mem_cons_of_mem _ (List.mem_cons_of_mem _ (List.mem_cons_of_mem _ hk)))
          · exact .inr (by omega)
theorem TB0.mask1 {W0 w w1 : World} {tb bm qb : Nat} {v : Value} {L : List Th} (h : TB0 W0 w tb bm qb v L) (ho : Off [bm] w w1) : Masks w1 :=
  h.masks.below (h.below.trans (ho.below h.below.size (fun x hx => by simp at hx; subst hx; exact h.lom)))
theorem Off.then {X : List Nat} {w w1 w2 : World} (h : Off X w w1) (hb : Below w1.heap.size w1 w2) : Off X w w2 := h.trans (Off.of_below hb []) (fun y hy => by cases hy)
theorem TB0.tree1 {W0 w w1 : World} {tb bm qb : Nat} {v : Value} {L : List Th} (h : TB0 W0 w tb bm qb v L) (ho : Off [bm] w w1) : TS w1 W0.heap.size qb v (marks L) :=
  h.tree.off ho (fun k hk hm => by simp at hm; subst hm; exact h.ne2 hk)
theorem cell_off {X : List Nat} {w w' : World} (ho : Off X w w') {g i : Nat} {u : Value} (h : w.cell? ⟨g, i, none⟩ = some u) (hx : g ∉ X) : w'.cell? ⟨g, i, none⟩ = some u := by
  have hl : g < w.heap.size := World.block_lt_of_cell? w ⟨g, i, none⟩ h
  rw [← h]
  unfold World.cell?
  rw [ho.block g hl hx]
theorem tb0_put {W0 w w1 w2 : World} {tb bm qb : Nat} {v : Value} {L : List Th} {t : Th} (h : TB0 W0 w tb bm qb v L) (hO : OM w1 bm (witT t L)) (ho : Off [bm] w w1) (hb : Below w1.heap.size w1 w2) (ht : isT t = true) (hf : inT t) (hh : hasT t.id L = false) (hl : L.length < 200) :
    Calls Tryz.prog 29 #[.pointer (some ⟨qb, 0, none⟩), .int .i64 t.id, pt t.x t.y] w2 fun e w' => e = .returned (.int .i64 0) ∧ TBT W0 w tb (witT t L) (tb :: bm :: qb :: ob v) w' ∧ Off (qb :: ob v) w2 w' := by
  have ho2 := ho.then hb
  obtain ⟨i1, _, i3⟩ := isT_parts ht
  obtain ⟨e1, e2⟩ := marks_put h.good.rise hl i1 i3 hh
  have C := ts_put (h.tree1 ho2) h.len9 (h.mask1 ho2) (Nat.le_trans h.below.size ho2.size) t.id t.x t.y
  rw [e1, e2] at C
  refine C.mono ?_
  rintro e w' ⟨rfl, hT⟩
  exact ⟨rfl, h.turn (hO.later hb) ho2 hT (h.good.put ht hf hh hl), by obtain ⟨_, _, h2, _⟩ := hT; exact h2⟩
theorem tb0_move {W0 w w1 w2 : World} {tb bm qb : Nat} {v : Value} {L : List Th} {t : Th} (h : TB0 W0 w tb bm qb v L) (hO : OM w1 bm (witT t L)) (ho : Off [bm] w w1) (hb : Below w1.heap.size w1 w2) (ht : isT t = true) (hf : inT t) (hh : hasT t.id L = true) :
    Calls Tryz.prog 32 #[.pointer (some ⟨qb, 0, none⟩), .int .i64 t.id, pt t.x t.y] w2 fun e w' => e = .returned (.int .i64 0) ∧ TBT W0 w tb (witT t L) (tb :: bm :: qb :: ob v) w' ∧ Off (qb :: ob v) w2 w' := by
  have ho2 := ho.then hb
  obtain ⟨i1, _, i3⟩ := isT_parts ht
  obtain ⟨e1, e2⟩ := marks_set h.good.rise i3 hh
  have C := ts_move (h.tree1 ho2) h.len9 (h.mask1 ho2) (Nat.le_trans h.below.size ho2.size) h.zero t.id t.x t.y
  rw [e1, e2] at C
  refine C.mono ?_
  rintro e w' ⟨rfl, hT⟩
  exact ⟨rfl, h.turn (hO.later hb) ho2 hT (h.good.set ht hf hh), by obtain ⟨_, _, h2, _⟩ := hT; exact h2⟩
theorem tb0_drop {W0 w w1 : World} {tb bm qb : Nat} {v : Value} {L : List Th} {id : Int} (h : TB0 W0 w tb bm qb v L) (hO : OM w1 bm (outT id L)) (ho : Off [bm] w w1) (hh : hasT id L = true) :
    Calls Tryz.prog 33 #[.pointer (some ⟨qb, 0, none⟩), .int .i64 id] w1 fun e w' => e = .returned (.int .i64 0) ∧ TBT W0 w tb (outT id L) (tb :: bm :: qb :: ob v) w' := by
  obtain ⟨e1, e2⟩ := marks_drop h.good.rise hh
  have C := ts_drop (h.tree1 ho) h.len9 id
  rw [e1, e2] at C
  refine C.mono ?_
  rintro e w' ⟨rfl, hT⟩
  exact ⟨rfl, h.turn hO ho hT (h.good.out id)⟩
set_option maxHeartbeats 1000000 in
theorem tb_drop {W0 w : World} {tb : Nat} {L : List Th} {X : List Nat} (h : TB W0 w tb L X) {id : Int} (hi : inI id) :
    Calls Tryz.prog 13 #[.pointer (some ⟨tb, 0, none⟩), .int .i64 id] w fun e w' => e = .returned (.int .i64 (tdE id L)) ∧ TBT W0 w tb (tdL id L) X w' := by
  obtain ⟨q, hq⟩ : ∃ q, Hid (hasT id L = q) := ⟨_, rfl⟩
  have C1 := tb_has h hi hq
  cases q
  · have H := hid h
    have e1 : tdE id L = 15 := by unfold tdE; rw [hq.out]; rfl
    have e2 : tdL id L = L := out_no hq.out
    rw [e1, e2]
    clear h e1 e2
    go_enter Tryz.func13, Tryz.ntmps13
    go_wp2_with fail
    refine C1.mono ?_
    rintro x w1 ⟨rfl, hb1⟩
    go_wp2_with fail
    go_ret
    exact ⟨rfl, TBT.same H.out hb1⟩
  · have e1 : tdE id L = 0 := by unfold tdE; rw [hq.out]; rfl
    rw [e1]
    unfold tdL
    clear e1
    obtain ⟨bm, qb, v, h, rfl⟩ := h
    have H := hid h
    clear h
    go_enter Tryz.func13, Tryz.ntmps13
    go_wp2_with fail
    refine C1.mono ?_
    rintro x w1 ⟨rfl, hb1⟩
    have T1 := hid (H.out.later hb1)
    have c1 := cells_at T1.out.at_
    clear C1 H
    go_upto_region 4 with (at_delete; refine wp_del rfl _ _ rfl rfl T1.out.map rfl hi ?_; intro w2 hO2 ho2)
    have c2 := cells_at (at_off T1.out.at_ ho2 (by simp; exact fun e => om_ne T1.out.map T1.out.at_ e.symm))
    have C2 := tb0_drop T1.out hO2 ho2 hq.out
    clear c1
    go_wp2_with fail
    refine C2.mono ?_
    rintro x w3 ⟨rfl, hT⟩
    go_wp2_with fail
    go_ret
    exact ⟨rfl, hT.pre hb1⟩
theorem eq_nil (b : Nat) (W : World) : (binOp .eql 55 (.map (some b)) (.map none)).run Tryz.prog W = .ok (.bool false) W :=
  run_eql_map_nil_sl W 55 _ _ (some b) Tryz.underlying55
set_option maxHeartbeats 2000000 in
theorem tb_set {W0 w : World} {tb : Nat} {L : List Th} {X : List Nat} (h : TB W0 w tb L X) {t : Th} (hf : inT t) :
    Calls Tryz.prog 12 #[.pointer (some ⟨tb, 0, none⟩), t.v] w fun e w' => e = .returned (.int .i64 (tsE t L)) ∧ TBT W0 w tb (tsL t L) X w' := by
  obtain ⟨q, hq⟩ : ∃ q, Hid (isT t = q) := ⟨_, rfl⟩
  have K0 : Hid ((w.alloc t.o).heap[w.heap.size]? = some t.o) := new_at _ _ _ rfl
  have hB0 := below1 w t.o
  cases q
  · have H := hid h
    have e1 : tsE t L = 11 := by unfold tsE; rw [if_pos hq.out]
    have e2 : tsL t L = L := by unfold tsL; rw [e1]; rfl
    rw [e1, e2]
    clear h e1 e2
    go_enter Tryz.func12, Tryz.ntmps12
    go_wp2_with fail
    refine (isT_at hq _ hf).mono ?_
    rintro x w1 ⟨rfl, hb1⟩
    go_wp2_with fail
    go_ret
    exact ⟨rfl, TBT.same H.out (below_on hB0 hb1)⟩
  · have hi : inI t.id := isT_inI hq.out
    obtain ⟨p, hp⟩ : ∃ p, Hid (hasT t.id L = p) := ⟨_, rfl⟩
    obtain ⟨bm, qb, v, h, rfl⟩ := h
    have H := hid h
    clear h
    cases p
    · have e1 : tsE t L = 15 := by unfold tsE; rw [if_neg (by rw [hq.out]; simp), if_pos hp.out]
      have e2 : tsL t L = L := by unfold tsL; rw [e1]; rfl
      rw [e1, e2]
      clear e1 e2
      go_enter Tryz.func12, Tryz.ntmps12
      go_wp2_with fail
      refine (isT_at hq _ hf).mono ?_
      rintro x w1 ⟨rfl, hb1⟩
      have hB1 := below_on hB0 hb1
      have K1 := hid (var_on hb1 K0.out (at_lt K0.out))
      have c1 := cells_at K1.out
      have T1 := hid (H.out.later hB1)
      clear hb1 K0 hB0
      go_wp2_with fail
      refine (tb_has ⟨_, _, _, T1.out, rfl⟩ hi hp).mono ?_
      rintro x w2 ⟨rfl, hb2⟩
      go_wp2_with fail
      go_ret
      exact ⟨rfl, TBT.same ⟨_, _, _, H.out, rfl⟩ (below_on hB1 hb2)⟩
    · have e1 : tsE t L = 0 := by unfold tsE; rw [if_neg (by rw [hq.out]; simp), if_neg (by rw [hp.out]; simp)]
      have e2 : tsL t L = witT t L := by unfold tsL; rw [e1]; rfl
      rw [e1, e2]
      clear e1 e2
      go_enter Tryz.func12, Tryz.ntmps12
      go_wp2_with fail
      refine (isT_at hq _ hf).mono ?_
      rintro x w1 ⟨rfl, hb1⟩
      have hB1 := below_on hB0 hb1
      have K1 := hid (var_on hb1 K0.out (at_lt K0.out))
      have c1 := cells_at K1.out
      have T1 := hid (H.out.later hB1)
      clear hb1 K0 hB0
      go_wp2_with fail
      refine (tb_has ⟨_, _, _, T1.out, rfl⟩ hi hp).mono ?_
      rintro x w2 ⟨rfl, hb2⟩
      have hB2 := below_on hB1 hb2
      have K2 := hid (var_on hb2 K1.out (at_lt K1.out))
      have T2 := hid (T1.out.later hb2)
      have c2 := cells_at K2.out
      have d2 := cells_at T2.out.at_
      have hl9 : L.length ≤ 999 := by have := T2.out.good.len; omega
      have n1 := hid T2.out.ne1
      have n2 : Hid (w.heap.size ∉ qb :: ob v) := fun hm => by have := (H.out.tree.lt _ hm).2; omega
      clear hb2 K1 T1 c1 hB1
      go_wp2_with fail
      obtain ⟨w3, hr3, hO3, ho3⟩ := om_put (T2.out.map.later (W' := w2.drew) ((Below.refl _ _).drew)) hl9 (t := t) hi
      unfold Th.v at hr3
      have HO3 := hid hO3
      have ho : Hid (Off [bm] w2 w3) := (Off.of_below ((Below.refl w2.heap.size w2).drew) [bm]).trans ho3 (fun y hy => .inl hy)
      clear hO3 ho3
      go_region
      all_goals
        have K3 := at_off K2.out ho.out (by simp; exact fun e => om_ne T2.out.map K2.out e.symm)
        have J3 := at_off T2.out.at_ ho.out (by simp; exact fun e => om_ne T2.out.map T2.out.at_ e.symm)
        have c3 := cells_at K3
        have d3 := cells_at J3
        clear c2 d2 hr3
        have q1 : w3.cell? ⟨tb, 1, none⟩ = some (.pointer (some ⟨qb, 0, none⟩)) := d3.1 1
        have q2 : w3.cell? ⟨w.heap.size, 0, none⟩ = some (.int .i64 t.id) := c3.1 0
        have q3 : w3.cell? ⟨w.heap.size, 1, none⟩ = some (.int .i64 t.x) := c3.1 1
        have q4 : w3.cell? ⟨w.heap.size, 2, none⟩ = some (.int .i64 t.y) := c3.1 2
        clear c3 d3 K3 J3
        go_wp2_with fail
        go_region_held3 (fun w' => w'.cell? ⟨tb, 1, none⟩ = some (.pointer (some ⟨qb, 0, none⟩)) ∧ w'.cell? ⟨w.heap.size, 0, none⟩ = some (.int .i64 t.id) ∧ w'.cell? ⟨w.heap.size, 1, none⟩ = some (.int .i64 t.x) ∧ w'.cell? ⟨w.heap.size, 2, none⟩ = some (.int .i64 t.y))
          (first | go_keep | (go_split_ands; exact ⟨cell_off hoK (by assumption) n1.out, cell_off hoK (by assumption) n2.out, cell_off hoK (by assumption) n2.out, cell_off hoK (by assumption) n2.out⟩))
          (first
            | (go_at_call 32; with_reducible refine (tb0_move T2.out HO3.out ho.out (by first | exact Below.refl _ _ | exact (Below.refl _ _).drew) hq.out hf hp.out).mono ?_; rintro z w4 ⟨rfl, hT4, hoK⟩))
        all_goals
          go_wp2_with fail
          go_ret
          exact ⟨rfl, hT4.pre hB2⟩
end Go.Proofs.YtildhbkcpehobaaGreatDoor
