/- Contracts of the package table over this translation, fourth part: Put, Copy, Of. Each returns what the plain functions say; beyond the table's own blocks nothing that was there has turned. -/
import Derived.Test.YtildhbkcpehobaaGreatDoorTbV
namespace Go.Proofs.YtildhbkcpehobaaGreatDoor
open Go.RowKit Go.Maps
set_option linter.unusedVariables false
set_option maxRecDepth 100000 in
set_option maxHeartbeats 2000000 in
theorem tb_put {W0 w : World} {tb : Nat} {L : List Th} {X : List Nat} (h : TB W0 w tb L X) {t : Th} (hf : inT t) :
    Calls Tryz.prog 9 #[.pointer (some ⟨tb, 0, none⟩), t.v] w fun e w' => e = .returned (.int .i64 (tpE t L)) ∧ TBT W0 w tb (tpL t L) X w' := by
  obtain ⟨q, hq⟩ : ∃ q, Hid (isT t = q) := ⟨_, rfl⟩
  have K0 : Hid ((w.alloc t.o).heap[w.heap.size]? = some t.o) := new_at _ _ _ rfl
  have hB0 := below1 w t.o
  cases q
  · have H := hid h
    have e1 : tpE t L = 11 := tpE_bad hq.out
    have e2 : tpL t L = L := by unfold tpL; rw [e1]; rfl
    rw [e1, e2]
    clear h e1 e2
    go_enter Tryz.func9, Tryz.ntmps9
    go_wp2_with fail
    refine (isT_at hq _ hf).mono ?_
    rintro x w1 ⟨rfl, hb1⟩
    go_wp2_with fail
    go_ret
    exact ⟨rfl, TBT.same H.out (below_on hB0 hb1)⟩
  · have hi : inI t.id := isT_inI hq.out
    obtain ⟨p, hp⟩ : ∃ p, Hid (hasT t.id L = p) := ⟨_, rfl⟩
    obtain ⟨bm, qb, v, h, rfl⟩ := h
    have H := hid h
    clear h
    obtain ⟨n, hn⟩ : ∃ n, Hid (L.length = n) := ⟨_, rfl⟩
    cases p
    · by_cases h2 : 200 ≤ n
      · have e1 : tpE t L = 16 := tpE_full hq.out hp.out (by rw [hn.out]; exact h2)
        have e2 : tpL t L = L := by unfold tpL; rw [e1]; rfl
        have h2' : (200 : Int) ≤ (n : Int) := by omega
        rw [e1, e2]
        clear e1 e2 h2
        go_enter Tryz.func9, Tryz.ntmps9
        go_wp2_with fail
        refine (isT_at hq _ hf).mono ?_
        rintro x w1 ⟨rfl, hb1⟩
        have hB1 := below_on hB0 hb1
        have K1 := hid (var_on hb1 K0.out (at_lt K0.out))
        have c1 := cells_at K1.out
        have T1 := hid (H.out.later hB1)
        clear hb1 K0 hB0
        go_wp2_with fail
        refine (tb_has ⟨_, _, _, T1.out, rfl⟩ hi hp).mono ?_
        rintro x w2 ⟨rfl, hb2⟩
        have T2 := hid (T1.out.later hb2)
        go_wp2_with fail
        refine (tb_len ⟨_, _, _, T2.out, rfl⟩ hn).mono ?_
        rintro x w3 ⟨rfl, hw3⟩
        rw [hw3]
        go_wp2_with fail
        go_ret
        exact ⟨rfl, TBT.same ⟨_, _, _, H.out, rfl⟩ (below_on hB1 hb2)⟩
      · have hl : L.length < 200 := by rw [hn.out]; omega
        have e1 : tpE t L = 0 := tpE_ok hq.out hp.out hl
        have e2 : tpL t L = witT t L := by unfold tpL; rw [e1]; rfl
        have h2' : ¬ (200 : Int) ≤ (n : Int) := by omega
        have hnil := eq_nil bm
        have hl9 : L.length ≤ 999 := by omega
        have HL := hid hl
        rw [e1, e2]
        clear e1 e2 h2 hl
        go_enter Tryz.func9, Tryz.ntmps9
        go_wp2_with fail
        refine (isT_at hq _ hf).mono ?_
        rintro x w1 ⟨rfl, hb1⟩
        have hB1 := below_on hB0 hb1
        have K1 := hid (var_on hb1 K0.out (at_lt K0.out))
        have c1 := cells_at K1.out
        have T1 := hid (H.out.later hB1)
        clear hb1 K0 hB0
        go_wp2_with fail
        refine (tb_has ⟨_, _, _, T1.out, rfl⟩ hi hp).mono ?_
        rintro x w2 ⟨rfl, hb2⟩
        have hB2 := below_on hB1 hb2
        have K2 := hid (var_on hb2 K1.out (at_lt K1.out))
        have T2 := hid (T1.out.later hb2)
        have n1 := hid T2.out.ne1
        have n2 : Hid (w.heap.size ∉ qb :: ob v) := fun hm => by have := (H.out.tree.lt _ hm).2; omega
        clear hb2 K1 T1 c1 hB1
        go_wp2_with fail
        refine (tb_len ⟨_, _, _, T2.out, rfl⟩ hn).mono ?_
        rintro x w3 ⟨rfl, hw3⟩
        rw [hw3]
        clear hw3 w3
        have c2 := cells_at K2.out
        have d2 := cells_at T2.out.at_
        go_wp2_with fail
        obtain ⟨w3, hr3, hO3, ho3⟩ := om_put (T2.out.map.later (W' := w2.drew) ((Below.refl _ _).drew)) hl9 (t := t) hi
        unfold Th.v at hr3
        have HO3 := hid hO3
        have ho : Hid (Off [bm] w2 w3) := (Off.of_below ((Below.refl w2.heap.size w2).drew) [bm]).trans ho3 (fun y hy => .inl hy)
        clear hO3 ho3
        go_region
        all_goals
          have K3 := at_off K2.out ho.out (by simp; exact fun e => om_ne T2.out.map K2.out e.symm)
          have J3 := at_off T2.out.at_ ho.out (by simp; exact fun e => om_ne T2.out.map T2.out.at_ e.symm)
          have c3 := cells_at K3
          have d3 := cells_at J3
          clear c2 d2 hr3
          have q1 : w3.cell? ⟨tb, 1, none⟩ = some (.pointer (some ⟨qb, 0, none⟩)) := d3.1 1
          have q2 : w3.cell? ⟨w.heap.size, 0, none⟩ = some (.int .i64 t.id) := c3.1 0
          have q3 : w3.cell? ⟨w.heap.size, 1, none⟩ = some (.int .i64 t.x) := c3.1 1
          have q4 : w3.cell? ⟨w.heap.size, 2, none⟩ = some (.int .i64 t.y) := c3.1 2
          clear c3 d3 K3 J3
          go_wp2_with fail
          go_region_held3 (fun w' => w'.cell? ⟨tb, 1, none⟩ = some (.pointer (some ⟨qb, 0, none⟩)) ∧ w'.cell? ⟨w.heap.size, 0, none⟩ = some (.int .i64 t.id) ∧ w'.cell? ⟨w.heap.size, 1, none⟩ = some (.int .i64 t.x) ∧ w'.cell? ⟨w.heap.size, 2, none⟩ = some (.int .i64 t.y))
            (first | go_keep | (go_split_ands; exact ⟨cell_off hoK (by assumption) n1.out, cell_off hoK (by assumption) n2.out, cell_off hoK (by assumption) n2.out, cell_off hoK (by assumption) n2.out⟩))
            (first
              | (go_at_call 29; with_reducible refine (tb0_put T2.out HO3.out ho.out (by first | exact Below.refl _ _ | exact (Below.refl _ _).drew) hq.out hf hp.out HL.out).mono ?_; rintro z w4 ⟨rfl, hT4, hoK⟩))
          all_goals
            go_wp2_with fail
            go_ret
            exact ⟨rfl, hT4.pre hB2⟩
    · have e1 : tpE t L = 11 := tpE_has hp.out
      have e2 : tpL t L = L := by unfold tpL; rw [e1]; rfl
      rw [e1, e2]
      clear e1 e2
      go_enter Tryz.func9, Tryz.ntmps9
      go_wp2_with fail
      refine (isT_at hq _ hf).mono ?_
      rintro x w1 ⟨rfl, hb1⟩
      have hB1 := below_on hB0 hb1
      have K1 := hid (var_on hb1 K0.out (at_lt K0.out))
      have c1 := cells_at K1.out
      have T1 := hid (H.out.later hB1)
      clear hb1 K0 hB0
      go_wp2_with fail
      refine (tb_has ⟨_, _, _, T1.out, rfl⟩ hi hp).mono ?_
      rintro x w2 ⟨rfl, hb2⟩
      go_wp2_with fail
      go_ret
      exact ⟨rfl, TBT.same ⟨_, _, _, H.out, rfl⟩ (below_on hB1 hb2)⟩
theorem tb0_clone {W0 w : World} {tb bm qb : Nat} {v : Value} {L : List Th} (h : TB0 W0 w tb bm qb v L) {N : Nat} (hN : w.heap.size = N) :
    Calls Tryz.prog 25 #[.map (some bm)] w fun e w' => e = .returned (.map (some N)) ∧ OM w' N L ∧ TB0 W0 w' tb bm qb v L ∧ Below w.heap.size w w' := by
  subst hN
  refine (Tryz.maps_Clone 3 RV bm L.length (DM L) w h.map).mono ?_
  rintro e w' ⟨rfl, h1, h2, hb⟩
  exact ⟨rfl, h1, h.later hb, hb⟩
theorem tb0_qcopy {W0 w : World} {tb bm qb : Nat} {v : Value} {L : List Th} (h : TB0 W0 w tb bm qb v L) :
    Calls Tryz.prog 26 #[.pointer (some ⟨qb, 0, none⟩)] w fun e w' => ∃ cb v', e = .returned (.pointer (some ⟨cb, 0, none⟩)) ∧ TS w' w.heap.size cb v' (marks L) ∧ Below w.heap.size w w' := ts_copy h.tree h.len9
set_option maxRecDepth 100000 in
set_option maxHeartbeats 2000000 in
theorem tb_copy {W0 w : World} {tb : Nat} {L : List Th} {X : List Nat} (h : TB W0 w tb L X) :
    Calls Tryz.prog 7 #[.pointer (some ⟨tb, 0, none⟩)] w fun e w' => ∃ cb Y, e = .returned (.pointer (some ⟨cb, 0, none⟩)) ∧ TB w w' cb L Y := by
  obtain ⟨n, hn⟩ : ∃ n, Hid (L.length = n) := ⟨_, rfl⟩
  have C1 := tb_len h hn
  have HMk := hid h.mask
  by_cases h0 : n = 0
  · subst h0
    have hL : L = [] := List.eq_nil_of_length_eq_zero hn.out
    subst hL
    clear h
    go_enter Tryz.func7, Tryz.ntmps7
    go_wp2_with fail
    refine C1.mono ?_
    rintro x w2 ⟨rfl, hw2⟩
    rw [hw2]
    go_wp2_with fail
    refine (tb_new HMk.out).mono ?_
    rintro x w3 ⟨cb, Y, rfl, hT⟩
    go_wp2_with fail
    go_ret
    exact ⟨cb, Y, rfl, hT⟩
  · have hn0 : ((n : Int) == 0) = false := by simpa using h0
    obtain ⟨bm, qb, v, h, rfl⟩ := h
    have T1 := hid h
    obtain ⟨cT, -⟩ := cells_at h.at_
    have t0 : w.cell? ⟨tb, 0, none⟩ = some (.map (some bm)) := cT 0
    have t1 : w.cell? ⟨tb, 1, none⟩ = some (.pointer (some ⟨qb, 0, none⟩)) := cT 1
    clear h cT h0
    go_enter Tryz.func7, Tryz.ntmps7
    go_wp2_with fail
    refine C1.mono ?_
    rintro x w2 ⟨rfl, hw2⟩
    rw [hw2]
    clear hw2 w2 C1
    go_wp2_with fail
    go_region_held3 (fun w' => w'.cell? ⟨tb, 0, none⟩ = some (.map (some bm)) ∧ w'.cell? ⟨tb, 1, none⟩ = some (.pointer (some ⟨qb, 0, none⟩)))
      (first | go_keep | (go_split_ands; refine ⟨?_, ?_⟩ <;> exact cell_below hbK (by assumption)) | (go_split_ands; refine ⟨?_, ?_⟩ <;> exact cell_below (below1 _ _) (by assumption)))
      (first
        | (go_at_call 25; with_reducible refine (tb0_clone (T1.out.later (by first | exact Below.refl _ _ | exact (Below.refl _ _).drew)) (N := w.heap.size) (by first | rfl | simp)).mono ?_; rintro z W2 ⟨rfl, hO2, T2, hbK⟩
           have hB2 : Below w.heap.size w W2 := (by first | exact hbK | exact (Below.refl w.heap.size w).drew.trans hbK)
           have H2 := hid T2
           have HO2 := hid hO2)
        | (go_at_call 26; with_reducible refine (tb0_qcopy H2.out).mono ?_; rintro z W3 ⟨cb, v3, rfl, hT3, hbK⟩
           have hB3 := below_on hB2 hbK
           have HO3 := hid (HO2.out.later hbK)
           have HT3 := hid hT3
           have hlt := hid hT3.lt
           have hs2 := hB2.size
           have hlm := hid HO2.out.lt))
    all_goals
      go_wp2_with fail
      go_ret
      refine ⟨_, _, rfl, w.heap.size, cb, v3, ⟨new_at _ _ _ rfl, HO3.out.later (below1 _ _), (HT3.out.later (below1 _ _)).base hs2, T1.out.good, hB3.size, Nat.le_refl _, ?_, ?_, hB3.alloc hB3.size _, HMk.out⟩, rfl⟩
      · intro hm
        have := (hlt.out _ hm).2
        omega
      · intro hm
        have h1 := (hlt.out _ hm).1
        have h2 := hlm.out
        omega
set_option maxRecDepth 100000 in
set_option maxHeartbeats 1000000 in
theorem tb_of {w : World} (hM : Masks w) {p : Option Addr} {cap : Nat} {M : List Th} (hr : RowT w p M) {n : Nat} (hn : Hid (M.length = n)) (hl : n ≤ maxLen) (hf : Hid (∀ t ∈ M, inT t)) :
    Calls Tryz.prog 17 #[.slice p n cap] w fun e w' => ∃ tb X, e = .returned (.pointer (some ⟨tb, 0, none⟩)) ∧ TB w w' tb (ofT M) X := by
  have hl' : n ≤ 9223372036854775807 := by unfold maxLen at hl; omega
  have HR := hid hr
  have HMk := hid hM
  clear hr hM hl
  go_enter Tryz.func17, Tryz.ntmps17
  go_wp2_with fail
  refine (tb_new HMk.out).mono ?_
  rintro x w1 ⟨tb, X1, rfl, hT1⟩
  have T1 := hid hT1
  clear hT1
  go_wp2_with fail
  go_loopw [9] (fun s9 wr => ∃ (k : Nat) (X : List Nat), k ≤ n ∧ s9 = .int .i64 (k : Nat) ∧ TB w wr tb (ofT (M.take k)) X) (fun s9 _ => n - (intOf s9).toNat)
  case atStart => exact ⟨0, X1, by omega, rfl, T1.out⟩
  case round =>
    obtain ⟨k, X, hk, rfl, hT⟩ := hrel
    have T := hid hT
    clear hT T1
    by_cases hlt : k < n
    · have hlt' : (k : Int) < (n : Int) := by omega
      obtain ⟨t, ht⟩ := get_th M k (by rw [hn.out]; exact hlt)
      have HT := hid ht
      have hft := hf.out t (List.mem_of_getElem? ht)
      obtain ⟨b, off, rfl, hc⟩ := (HR.out.later T.out.below).at ht
      clear ht
      obtain ⟨W2, hW2⟩ : ∃ W2, wr.alloc t.o = W2 := ⟨_, rfl⟩
      have hB2 : Below wr.heap.size wr W2 := by rw [← hW2]; exact below1 _ _
      have K2 := hid (show W2.heap[wr.heap.size]? = some t.o by rw [← hW2]; exact new_at _ _ _ rfl)
      have T2 := hid (T.out.later hB2)
      unfold Th.o at hW2
      go_upto_region 5 with fail
      try rw [hW2]
      clear hW2 hc
      have c2 := cells_at K2.out
      go_wp2_with fail
      refine (tb_put T2.out hft).mono ?_
      rintro x w3 ⟨rfl, Y, hT3, -, -⟩
      rw [← of_take HT.out] at hT3
      have T3 := hid hT3
      clear hT3
      go_wp2_with fail
      go_roundw
      case rel => exact ⟨k + 1, Y, by omega, by go_num, T3.out⟩
      case measure => simp [intOf]; omega
    · obtain rfl : k = n := by omega
      have hlt' : ¬ (k : Int) < (k : Int) := by omega
      go_wp2_with fail
      go_ret
      refine ⟨tb, rfl, X, ?_⟩
      have := T.out
      rw [List.take_of_length_le (by rw [hn.out]; omega)] at this
      exact this
end Go.Proofs.YtildhbkcpehobaaGreatDoor
