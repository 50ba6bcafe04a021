/- Contracts of the package table over this translation, second part: those, In, Cell, All: new rows of things, rising. No conditions beyond those typed. -/
import Derived.Test.YtildhbkcpehobaaGreatDoorTbT
import Derived.Test.YtildhbkcpehobaaGreatDoorCells
import Derived.Deep.RegionHeld3
namespace Go.Proofs.YtildhbkcpehobaaGreatDoor
open Go.RowKit Go.Maps
set_option linter.unusedVariables false
theorem Tryz.infoT : (Tryz.prog.info? 33).map (fun i => (i.zero, i.size, i.bytes)) = some (some zT.v, 11, 120) := by kernel_rfl
theorem cs_one (t : Th) : ∀ u ∈ t.cs, u.oneCell' = true := by
  intro u hu
  simp [Th.cs] at hu
  rcases hu with rfl | rfl | rfl | rfl | rfl | rfl | rfl | rfl | rfl | rfl | rfl <;> rfl
theorem those_length (L : List Th) (l : List Int) : (those L l).length = l.length := by simp [those]
theorem those_take (L : List Th) {l : List Int} {k : Nat} {i : Int} (h : l[k]? = some i) : those L (l.take (k + 1)) = those L (l.take k) ++ [(findT i L).getD zT] := by
  unfold those
  rw [List.take_add_one, h, Option.toList_some, List.map_append]
  rfl
set_option maxHeartbeats 1000000 in
theorem tb_those {W0 w : World} {tb : Nat} {L : List Th} {X : List Nat} (h : TB W0 w tb L X) {p : Option Addr} {cap : Nat} {l : List Int} (hr : RowG cI 1 w p l) {n : Nat} (hn : Hid (l.length = n)) (hl : n ≤ 999) (hin : Hid (∀ i ∈ l, inI i)) :
    Calls Tryz.prog 36 #[.pointer (some ⟨tb, 0, none⟩), .slice p n cap] w fun e w' => ∃ p' cap', e = .returned (.slice p' n cap') ∧ w'.ownsRow w.heap.size 33 11 (.slice p' n cap') n (flatT (those L l)) ∧ Below w.heap.size w w' := by
  obtain ⟨bm, qb, v, h, rfl⟩ := h
  obtain ⟨i0, hi, hz0, hz1, hz2⟩ := info_parts Tryz.infoT
  have HR := hid hr
  have HT := hid h
  clear h hr
  go_enter Tryz.func36, Tryz.ntmps36
  go_wp2_with (at_make; refine wpList_make_own _ rfl _ _ 26 rfl w.heap.size 33 i0 zT.v 11 Tryz.underlying26 hi hz0 hz1 .i64 .i64 _ n rfl rfl rfl (by rw [hz2]; omega) (by unfold maxLen; omega) (Nat.le_refl _) ?_; intro w0 hown0 hgrow0)
  have hB0 : Below w.heap.size w w0 := (Below.refl _ w).grown hgrow0 (Nat.le_refl _) (fun k hk => by cases hk)
  clear hgrow0
  go_loopw [13, 5] (fun s13 s5 wr => ∃ k : Nat, k ≤ n ∧ s13 = .int .i64 (k : Nat) ∧ wr.ownsRow w.heap.size 33 11 s5 k (flatT (those L (l.take k))) ∧ Below w.heap.size w wr) (fun s13 _ _ => n - (intOf s13).toNat)
  case atStart => exact ⟨0, by omega, rfl, hown0, hB0⟩
  case round =>
    obtain ⟨k, hk, rfl, ho, hb⟩ := hrel
    clear hown0 hB0
    obtain ⟨p5, c5, rfl⟩ := owns_slice ho
    by_cases hlt : k < n
    · have hlt' : (k : Int) < (n : Int) := by omega
      obtain ⟨i, hik⟩ := get_some l k (by rw [hn.out]; exact hlt)
      have HI := hid hik
      have hii := hid (hin.out i (List.mem_of_getElem? hik))
      obtain ⟨b, off, rfl, hc⟩ := int_at (HR.out.later hb) hik
      obtain ⟨t, ht⟩ : ∃ t, Hid ((findT i L).getD zT = t) := ⟨_, rfl⟩
      have hT2 := HT.out.later hb
      have HM := hid hT2.map
      have c := cells_at hT2.at_
      clear hik hT2
      have hs := hb.size
      go_wp2_with (first
        | (at_lookup; refine wp_get rfl _ _ rfl rfl HM.out rfl hii.out ht ?_)
        | (at_builtin; refine wpList_append_lies _ rfl _ _ 26 rfl w.heap.size 33 i0 zT.v 11 120 Tryz.underlying26 hi hz0 hz1 hz2 rfl (by decide) _ _ _ rfl (ho.alloc _) ⟨wr.heap.size, 0, none⟩ 1 1 t.cs rfl rfl (World.news_of_block (heap_alloc_new _ _)) (cs_one t) (by decide) (by unfold maxLen; omega) (by omega) (by simp; omega) (wr.heap.size + 1) (by simp) ?_
           intro g cap' w5 hown hgrow hat hg5))
      go_roundw
      case rel =>
        refine ⟨k + 1, by omega, by go_num, ?_, ?_⟩
        · rw [those_take L HI.out, flatT_append, flatT_one, ht.out]; exact hown
        · exact (hb.alloc hs _).grown hgrow (by simp; omega) (fun k hk => (ho.lt k hk).1)
      case measure => simp [intOf]; omega
    · obtain rfl : k = n := by omega
      have hlt' : ¬ (k : Int) < (k : Int) := by omega
      go_wp2_with fail
      go_ret
      refine ⟨_, _, rfl, ?_, hb⟩
      rw [List.take_of_length_le (by rw [hn.out]; omega)] at ho
      exact ho
theorem mem_inT {r : Rc} {L : List Th} {t : Th} (h : t ∈ inT_r r L) : t ∈ L := (List.mem_filter.1 h).1
theorem inI_of {L M : List Th} (h : Good L) (hs : ∀ t ∈ M, t ∈ L) : ∀ i ∈ M.map Th.id, inI i := by
  intro i hi
  obtain ⟨t, ht, rfl⟩ := List.mem_map.1 hi
  exact isT_inI (h.is t (hs t ht))
theorem tb0_in {W0 w : World} {tb bm qb : Nat} {v : Value} {L : List Th} (h : TB0 W0 w tb bm qb v L) (r0 r1 r2 r3 : Int) {I : List Int} {m : Nat} (e1 : Hid (rinL (marks L) ⟨r0, r1, r2, r3⟩ = I)) (e3 : Hid (I.length = m)) :
    Calls Tryz.prog 40 #[.pointer (some ⟨qb, 0, none⟩), rc r0 r1 r2 r3] w fun e w' => ∃ p cap, e = .returned (.slice p m cap) ∧ w'.ownsRow w.heap.size 3 1 (.slice p m cap) m (flatG cI I) ∧ Below w.heap.size w w' ∧ TB0 W0 w' tb bm qb v L := by
  have C := ts_in h.tree h.len9 h.mask r0 r1 r2 r3
  rw [e1.out, e3.out] at C
  refine C.mono ?_
  rintro e w' ⟨p, cap, rfl, ho, hb⟩
  exact ⟨p, cap, rfl, ho, hb, h.later hb⟩
theorem tb0_those {W0 w : World} {tb bm qb : Nat} {v : Value} {L : List Th} (h : TB0 W0 w tb bm qb v L) {p : Option Addr} {cap base : Nat} {l : List Int} {n : Nat} (hr : w.ownsRow base 3 1 (.slice p n cap) n (flatG cI l)) (hn : Hid (l.length = n)) (hl : n ≤ 999) (hin : Hid (∀ i ∈ l, inI i)) {M : List Th} (hM : Hid (those L l = M)) :
    Calls Tryz.prog 36 #[.pointer (some ⟨tb, 0, none⟩), .slice p n cap] w fun e w' => ∃ p' cap', e = .returned (.slice p' n cap') ∧ w'.ownsRow w.heap.size 33 11 (.slice p' n cap') n (flatT M) ∧ Below w.heap.size w w' := by
  rw [← hM.out]
  exact tb_those ⟨bm, qb, v, h, rfl⟩ (row_own cI_z hr hn.out.symm) hn hl hin
set_option maxHeartbeats 1000000 in
theorem tb_in {W0 w : World} {tb : Nat} {L : List Th} {X : List Nat} (h : TB W0 w tb L X) (r0 r1 r2 r3 : Int) {M : List Th} (hM : Hid (inT_r ⟨r0, r1, r2, r3⟩ L = M)) :
    Calls Tryz.prog 22 #[.pointer (some ⟨tb, 0, none⟩), rc r0 r1 r2 r3] w fun e w' => ∃ p cap, e = .returned (.slice p M.length cap) ∧ w'.ownsRow w.heap.size 33 11 (.slice p M.length cap) M.length (flatT M) ∧ Below w.heap.size w w' := by
  obtain ⟨W1, hW1⟩ : ∃ W1, w.alloc (.cells #[.int .i64 r0, .int .i64 r1, .int .i64 r2, .int .i64 r3] 35) = W1 := ⟨_, rfl⟩
  have hB1 : Below w.heap.size w W1 := by rw [← hW1]; exact below1 _ _
  have K1 := hid (show W1.heap[w.heap.size]? = some (.cells #[.int .i64 r0, .int .i64 r1, .int .i64 r2, .int .i64 r3] 35 (0, 0)) by rw [← hW1]; exact new_at _ _ _ rfl)
  have H1 := h.later hB1
  obtain ⟨n, hn⟩ : ∃ n, Hid (L.length = n) := ⟨_, rfl⟩
  have C1 := tb_len H1 hn
  have hG := hid h.good
  clear h
  by_cases h0 : n = 0
  · subst h0
    have hL : L = [] := List.eq_nil_of_length_eq_zero hn.out
    have hM0 : M = [] := by rw [← hM.out, hL]; rfl
    subst hM0
    go_enter Tryz.func22, Tryz.ntmps22
    go_wp2_with fail
    refine C1.mono ?_
    rintro x w2 ⟨rfl, hw2⟩
    rw [hw2]
    go_wp2_with fail
    go_ret
    exact ⟨none, 0, rfl, World.ownsRow_nil _ _ _ _, hB1⟩
  · have hn0 : ((n : Int) == 0) = false := by simpa using h0
    have hMs : Hid (∀ t ∈ M, t ∈ L) := fun t ht => by rw [← hM.out] at ht; exact mem_inT ht
    have hMl : M.length ≤ 200 := by
      rw [← hM.out]
      exact Nat.le_trans (List.length_filter_le _ _) hG.out.len
    have e1 := hid (show rinL (marks L) ⟨r0, r1, r2, r3⟩ = M.map Th.id by rw [marks_in, hM.out])
    have e2 := hid (show those L (M.map Th.id) = M from those_sub hG.out.rise hMs.out)
    have e3 := hid (show (M.map Th.id).length = M.length by simp)
    have e4 := hid (inI_of hG.out hMs.out)
    obtain ⟨I, hI⟩ : ∃ I, M.map Th.id = I := ⟨_, rfl⟩
    rw [hI] at e1 e2 e3 e4
    obtain ⟨m, hm⟩ : ∃ m, M.length = m := ⟨_, rfl⟩
    rw [hm] at e3 hMl ⊢
    have HMm := hid hm
    clear hI hm h0
    obtain ⟨bm, qb, v, H0, hX⟩ := H1
    subst hX
    have cT := cells_at H0.at_
    have cR := cells_at K1.out
    have T1 := hid H0
    clear H0
    go_enter Tryz.func22, Tryz.ntmps22
    go_wp2_with fail
    refine C1.mono ?_
    rintro x w2 ⟨rfl, hw2⟩
    rw [hw2]
    clear hw2 w2 hW1
    go_wp2_with fail
    obtain ⟨ct, -⟩ := cT
    obtain ⟨cr, -⟩ := cR
    have t1 : W1.cell? ⟨tb, 1, none⟩ = some (.pointer (some ⟨qb, 0, none⟩)) := ct 1
    have q0 : W1.cell? ⟨w.heap.size, 0, none⟩ = some (.int .i64 r0) := cr 0
    have q1 : W1.cell? ⟨w.heap.size, 1, none⟩ = some (.int .i64 r1) := cr 1
    have q2 : W1.cell? ⟨w.heap.size, 2, none⟩ = some (.int .i64 r2) := cr 2
    have q3 : W1.cell? ⟨w.heap.size, 3, none⟩ = some (.int .i64 r3) := cr 3
    clear ct cr
    go_region_held3 (fun w' => w'.cell? ⟨tb, 1, none⟩ = some (.pointer (some ⟨qb, 0, none⟩)) ∧ w'.cell? ⟨w.heap.size, 0, none⟩ = some (.int .i64 r0) ∧ w'.cell? ⟨w.heap.size, 1, none⟩ = some (.int .i64 r1) ∧ w'.cell? ⟨w.heap.size, 2, none⟩ = some (.int .i64 r2) ∧ w'.cell? ⟨w.heap.size, 3, none⟩ = some (.int .i64 r3))
      (first | go_keep | (go_split_ands; refine ⟨?_, ?_, ?_, ?_, ?_⟩ <;> exact cell_below hbK (by assumption)))
      (first
        | (go_at_call 40; with_reducible refine (tb0_in (T1.out.later (by first | exact Below.refl _ _ | exact (Below.refl _ _).drew)) r0 r1 r2 r3 e1 e3).mono ?_; rintro z W2 ⟨p2, c2, rfl, hown2, hbK, T2⟩
           have hB2 : Below w.heap.size w W2 := (by first | exact below_on hB1 hbK | exact below_on hB1.drew hbK))
        | (go_at_call 36; with_reducible refine (tb0_those T2 hown2 e3 (by omega) e4 e2).mono ?_; rintro z W3 ⟨p3, c3, rfl, hown3, hbK⟩
           have hB3 := below_on hB2 hbK
           have hs2 := hB2.size))
    all_goals
      go_wp2_with fail
      go_ret
      exact ⟨p3, c3, rfl, hown3.mono hs2, hB3⟩
theorem cellR_in {c : Int} (h : isC c = false) (L : List Th) : inT_r (cellR c) L = [] := by
  unfold inT_r
  rw [List.filter_eq_nil_iff]
  intro t _
  have e : cellR c = ⟨0, 0, 0, 0⟩ := by simp [cellR, h]
  rw [e]
  intro hb
  simp only [inB, Bool.and_eq_true, decide_eq_true_eq] at hb
  omega
theorem tb_cell {W0 w : World} {tb : Nat} {L : List Th} {X : List Nat} (h : TB W0 w tb L X) (c : Int) {M : List Th} (hM : Hid (inT_r (cellR c) L = M)) :
    Calls Tryz.prog 21 #[.pointer (some ⟨tb, 0, none⟩), .int .i64 c] w fun e w' => ∃ p cap, e = .returned (.slice p M.length cap) ∧ w'.ownsRow w.heap.size 33 11 (.slice p M.length cap) M.length (flatT M) ∧ Below w.heap.size w w' := by
  have C1 := cells_rect w h.mask c
  have H := hid h
  clear h
  obtain ⟨q, hq⟩ : ∃ q, Hid (isC c = q) := ⟨_, rfl⟩
  rw [hq.out] at C1
  obtain ⟨⟨r0, r1, r2, r3⟩, hr⟩ : ∃ r, cellR c = r := ⟨_, rfl⟩
  have hM2 := hid hM.out
  rw [hr] at C1 hM2
  have HR := hid hr
  clear hr
  go_enter Tryz.func21, Tryz.ntmps21
  go_wp2_with fail
  refine C1.mono ?_
  rintro x w2 ⟨rfl, hb2⟩
  have hs := hb2.size
  have hB3 := hb2.alloc hs (.cells #[.int .i64 r0, .int .i64 r1, .int .i64 r2, .int .i64 r3] 35)
  have C2 := tb_in (H.out.later hB3) r0 r1 r2 r3 hM2
  cases q
  · have hM0 : M = [] := by rw [← hM.out]; exact cellR_in hq.out L
    subst hM0
    clear C2
    go_wp2_with fail
    go_ret
    exact ⟨none, 0, rfl, World.ownsRow_nil _ _ _ _, hB3⟩
  · go_wp2_with fail
    refine C2.mono ?_
    rintro x w4 ⟨p4, c4, rfl, hown4, hb4⟩
    go_wp2_with fail
    go_ret
    exact ⟨p4, c4, rfl, hown4.mono (by simp; omega), below_on hB3 hb4⟩
theorem flat_encZ (l : List Int) : l.map encZ = flatG cI l := by
  induction l with
  | nil => rfl
  | cons a l ih => rw [List.map_cons, ih]; rfl
theorem tb_all {W0 w : World} {tb : Nat} {L : List Th} {X : List Nat} (h : TB W0 w tb L X) :
    Calls Tryz.prog 18 #[.pointer (some ⟨tb, 0, none⟩)] w fun e w' => ∃ p cap, e = .returned (.slice p L.length cap) ∧ w'.ownsRow w.heap.size 33 11 (.slice p L.length cap) L.length (flatT L) ∧ Below w.heap.size w w' := by
  have hG := hid h.good
  obtain ⟨bm, qb, v, h, rfl⟩ := h
  have CK := Tryz.maps_Keys (some bm) w
  have CS := Tryz.slices_Sorted bm L.length (DM L) RV w h.map (by rw [DM_size]; have := hG.out.len; unfold maxLen; omega) (by rw [DM_size]; have := hG.out.len; omega)
  have c := cells_at h.at_
  have H := hid h
  have hl := hG.out.len
  have e2 := hid (show those L (L.map Th.id) = L from those_sub hG.out.rise (fun t ht => ht))
  have e4 := hid (inI_of hG.out (fun t ht => ht))
  obtain ⟨n, hn⟩ : ∃ n, Hid (L.length = n) := ⟨_, rfl⟩
  have e3 := hid (show (L.map Th.id).length = n by rw [List.length_map]; exact hn.out)
  rw [hn.out] at hl ⊢
  clear h
  go_enter Tryz.func18, Tryz.ntmps18
  go_wp2_with fail
  refine CK.mono ?_
  rintro x w1 ⟨rfl, rfl⟩
  go_wp2_with fail
  refine CS.mono ?_
  rintro x w2 ⟨v2, ss, rfl, hp, hown, hb⟩
  have hln : ss.length = n := by rw [hp.length_eq, DM_keys]; exact e3.out
  rw [sorted_keys hG.out.rise (by rw [← DM_keys]; exact hp), flat_encZ, hln] at hown
  clear hp CK CS hln
  obtain ⟨p2, c2, rfl⟩ := owns_slice hown
  have C3 := tb_those ⟨_, _, _, H.out.later hb, rfl⟩ (row_own cI_z hown e3.out.symm) e3 (by omega) e4 (cap := c2)
  rw [e2.out] at C3
  go_wp2_with fail
  refine C3.mono ?_
  rintro x w3 ⟨p3, c3, rfl, hown3, hb3⟩
  have hs := hb.size
  go_wp2_with fail
  go_ret
  exact ⟨p3, c3, rfl, hown3.mono hs, below_on hb hb3⟩
end Go.Proofs.YtildhbkcpehobaaGreatDoor
