/- Contract of the reference's Same of notes: alike in all parts. -/
import Derived.Test.YtpedngbjpbeanaaGreatDoorNtF
namespace Go.Proofs.YtpedngbjpbeanaaGreatDoor
open Go.RowKit
set_option linter.unusedVariables false
set_option maxRecDepth 100000
theorem sameL_iff {L M : List Th} : sameL L M = true ↔ L = M := by
  constructor
  · intro h
    have hl : L.length = M.length := by
      unfold sameL at h
      rw [Bool.and_eq_true, decide_eq_true_eq] at h
      exact h.1
    refine rows_eq hl (fun j t u ht hu => ?_)
    cases e : eqT t u with
    | true => exact eqT_iff.1 e
    | false => rw [sameL_no ht hu e] at h; cases h
  · intro h
    subst h
    exact sameL_self L
theorem sameAll_at {w : World} {p p' : Option Addr} {cap cap' : Nat} {L M : List Th} {q : Bool} (h : Hid (sameL L M = q)) (hr : RowT w p L) (hr' : RowT w p' M) (hm : L.length ≤ maxLen) (hm' : M.length ≤ maxLen) :
    Calls Tryz.prog 35 #[.slice p L.length cap, .slice p' M.length cap'] w fun e w' => e = .returned (.bool q) ∧ Below w.heap.size w w' := by
  rw [← h.out]; exact ref_sameAll w p p' cap cap' L M hr hr' hm hm'
theorem all_or {α : Type} {L M : List α} {k : Nat} (h : L.length = M.length) (hk : L.length ≤ k) (hj : ∀ (j : Nat) (t u : α), j < k → L[j]? = some t → M[j]? = some u → t = u) : L = M :=
  rows_eq h (fun j t u ht hu => hj j t u (by have := (List.getElem?_eq_some_iff.1 ht).1; omega) ht hu)
theorem not_of {n m : Nt} {q : Bool} (h : q = true ↔ n = m) (hx : n = m → False) : q = false := by
  cases q with
  | false => rfl
  | true => exact (hx (h.1 rfl)).elim
set_option maxHeartbeats 4000000 in
theorem refnote_same {w : World} {n m : Nt} {s r : Ns} {q : Bool} (h : Hid (q = true ↔ n = m)) (hr : RowN w s n) (hr' : RowN w r m) (hl : LenN n) (hl' : LenN m) :
    Calls Tryz.prog 11 #[n.v s, m.v r] w fun e w' => e = .returned (.bool q) ∧ Below w.heap.size w w' := by
  obtain ⟨W, hW⟩ : ∃ W, W = (w.alloc (n.o s)).alloc (m.o r) := ⟨_, rfl⟩
  have hB : Below w.heap.size w W := by rw [hW]; exact Go.Joins.below_alloc2 _ _ _
  have hA := hid (show W.heap[w.heap.size]? = some (n.o s) by rw [hW]; exact old_at (new_at _ _ _ rfl) _)
  have hD := hid (show W.heap[w.heap.size + 1]? = some (m.o r) by rw [hW]; exact new_at _ _ _ (by simp))
  obtain ⟨q2, h2⟩ : ∃ q2, Hid (sameL n.mo m.mo = q2) := ⟨_, rfl⟩
  obtain ⟨q4, h4⟩ : ∃ q4, Hid (sameL n.gi m.gi = q4) := ⟨_, rfl⟩
  have C2 := hid (fun (w' : World) (hb : Below w.heap.size w w') => sameAll_at (cap := s.cm) (cap' := r.cm) h2 (hr.later hb).mo (hr'.later hb).mo hl.mo hl'.mo)
  have C4 := hid (fun (w' : World) (hb : Below w.heap.size w w') => sameAll_at (cap := s.cg) (cap' := r.cg) h4 (hr.later hb).gi (hr'.later hb).gi hl.gi hl'.gi)
  have HR := hid hr
  have HR' := hid hr'
  have hlh : n.ha.length ≤ 9223372036854775807 := by have := hl.ha; unfold maxLen at this; omega
  have hlh' : m.ha.length ≤ 9223372036854775807 := by have := hl'.ha; unfold maxLen at this; omega
  have hlw : n.wa.length ≤ 9223372036854775807 := by have := hl.wa; unfold maxLen at this; omega
  have hlw' : m.wa.length ≤ 9223372036854775807 := by have := hl'.wa; unfold maxLen at this; omega
  clear hr hr' hl hl'
  go_enter Tryz.func11, Tryz.ntmps11
  go_upto_region 1 with fail
  rw [← hW]
  clear hW
  have cA := (cells_at hA.out).1
  have lA := at_lt hA.out
  have cD := (cells_at hD.out).1
  have lD := at_lt hD.out
  by_cases e0 : n.fr = m.fr
  rotate_left
  · have f0 : (n.fr != m.fr) = true := by simpa using e0
    obtain rfl := not_of h.out (fun e => e0 (by rw [e]))
    go_wp2_with fail
    go_ret
    exact ⟨rfl, hB⟩
  have f0 : (n.fr != m.fr) = false := by simpa using e0
  by_cases e1 : n.be = m.be
  rotate_left
  · have f1 : (n.be != m.be) = true := by simpa using e1
    obtain rfl := not_of h.out (fun e => e1 (by rw [e]))
    go_wp2_with fail
    go_ret
    exact ⟨rfl, hB⟩
  have f1 : (n.be != m.be) = false := by simpa using e1
  have E0 := hid e0
  have E1 := hid e1
  clear e0 e1
  go_wp2_with fail
  refine (C2.out _ hB).mono ?_
  rintro x W1 ⟨rfl, hb⟩
  have hB1 := hid (below_on hB hb)
  have hA1 := hid (var_on hb hA.out lA)
  have hD1 := hid (var_on hb hD.out lD)
  clear hb hB hA hD cA cD lA lD C2 f0 f1
  have cA := (cells_at hA1.out).1
  have lA := at_lt hA1.out
  have cD := (cells_at hD1.out).1
  have lD := at_lt hD1.out
  cases q2
  · obtain rfl := not_of h.out (fun e => by have := h2.out; rw [e, sameL_self] at this; cases this)
    go_wp2_with fail
    go_ret
    exact ⟨rfl, hB1.out⟩
  have E2 := hid (sameL_iff.1 h2.out)
  clear h2
  go_wp2_with fail
  refine (C4.out _ hB1.out).mono ?_
  rintro x W2 ⟨rfl, hb⟩
  have hB2 := hid (below_on hB1.out hb)
  have hA2 := hid (var_on hb hA1.out lA)
  have hD2 := hid (var_on hb hD1.out lD)
  clear hb hB1 hA1 hD1 cA cD lA lD C4
  have cA := (cells_at hA2.out).1
  have lA := at_lt hA2.out
  have cD := (cells_at hD2.out).1
  have lD := at_lt hD2.out
  cases q4
  · obtain rfl := not_of h.out (fun e => by have := h4.out; rw [e, sameL_self] at this; cases this)
    go_wp2_with fail
    go_ret
    exact ⟨rfl, hB2.out⟩
  have E4 := hid (sameL_iff.1 h4.out)
  clear h4
  by_cases e3 : n.ha.length = m.ha.length
  rotate_left
  · have f3 : ((n.ha.length : Int) != (m.ha.length : Int)) = true := by simp; omega
    obtain rfl := not_of h.out (fun e => e3 (by rw [e]))
    go_wp2_with fail
    go_ret
    exact ⟨rfl, hB2.out⟩
  have f3 : ((n.ha.length : Int) != (m.ha.length : Int)) = false := by simp; omega
  by_cases e5 : n.wa.length = m.wa.length
  rotate_left
  · have f5 : ((n.wa.length : Int) != (m.wa.length : Int)) = true := by simp; omega
    obtain rfl := not_of h.out (fun e => e5 (by rw [e]))
    go_wp2_with fail
    go_ret
    exact ⟨rfl, hB2.out⟩
  have f5 : ((n.wa.length : Int) != (m.wa.length : Int)) = false := by simp; omega
  have E3 := hid e3
  have E5 := hid e5
  clear e3 e5
  go_wp2_with fail
  clear f3 f5 cA cD lA lD
  go_loopw [5] (fun i wr => ∃ k : Nat, k ≤ n.ha.length ∧ i = .int .i64 k ∧ Hid (∀ (j : Nat) (t u : Hd), j < k → n.ha[j]? = some t → m.ha[j]? = some u → t = u) ∧ Hid (wr.heap[w.heap.size]? = some (n.o s)) ∧ Hid (wr.heap[w.heap.size + 1]? = some (m.o r)) ∧ Hid (Below w.heap.size w wr)) (fun i _ => n.ha.length - (intOf i).toNat)
  case atStart => exact ⟨0, by omega, rfl, hid (fun j t u hj => by omega), hA2, hD2, hB2⟩
  case round =>
    obtain ⟨k, hk, rfl, HO, hA, hD, hb⟩ := hrel
    clear hA2 hD2 hB2
    have cA := (cells_at hA.out).1
    have lA := at_lt hA.out
    have cD := (cells_at hD.out).1
    have lD := at_lt hD.out
    by_cases hlt : k < n.ha.length
    · have hlt' : (k : Int) < (n.ha.length : Int) := by omega
      have hlt2 : (k : Int) < (m.ha.length : Int) := by have := E3.out; omega
      have hlt0 : (0 : Int) ≤ (k : Int) := by omega
      obtain ⟨t, ht⟩ := get_some n.ha k hlt
      obtain ⟨u, hu⟩ := get_some m.ha k (by have := E3.out; omega)
      obtain ⟨b1, o1, hp1, hc1⟩ := (HR.out.ha.later hb.out).at ht
      obtain ⟨b2, o2, hp2, hc2⟩ := (HR'.out.ha.later hb.out).at hu
      have hG1 : ∀ d os, (Sort.grow (redrawn wr d) os).cell? ⟨b1, o1 + k * 2, none⟩ = some (.int .i64 t.c) ∧ (Sort.grow (redrawn wr d) os).cell? ⟨b1, o1 + k * 2 + 1, none⟩ = some (.int .i64 t.u) := fun d os => ⟨cell_below (below_regrown wr d os) (hc1 0 _ rfl), cell_below (below_regrown wr d os) (hc1 1 _ rfl)⟩
      have hG2 : ∀ d os, (Sort.grow (redrawn wr d) os).cell? ⟨b2, o2 + k * 2, none⟩ = some (.int .i64 u.c) ∧ (Sort.grow (redrawn wr d) os).cell? ⟨b2, o2 + k * 2 + 1, none⟩ = some (.int .i64 u.u) := fun d os => ⟨cell_below (below_regrown wr d os) (hc2 0 _ rfl), cell_below (below_regrown wr d os) (hc2 1 _ rfl)⟩
      have hGA : ∀ d os, (Sort.grow (redrawn wr d) os).cell? ⟨w.heap.size, 3, none⟩ = some (.slice (some ⟨b1, o1, none⟩) n.ha.length s.ch) := fun d os => by rw [grown_cells hA.out 3 d os]; rw [← hp1]; rfl
      have hGD : ∀ d os, (Sort.grow (redrawn wr d) os).cell? ⟨w.heap.size + 1, 3, none⟩ = some (.slice (some ⟨b2, o2, none⟩) m.ha.length r.ch) := fun d os => by rw [grown_cells hD.out 3 d os]; rw [← hp2]; rfl
      have HT := hid ht
      have HU := hid hu
      clear hc1 hc2 ht hu hp1 hp2
      obtain ⟨x, hq⟩ : ∃ x, Hid (eqH t u = x) := ⟨_, rfl⟩
      have hQ := equal_hd_at hq.out
      have hfin : ∀ d os, Hid (Below w.heap.size w (Sort.grow (redrawn wr d) os) ∧ (Sort.grow (redrawn wr d) os).heap[w.heap.size]? = some (n.o s) ∧ (Sort.grow (redrawn wr d) os).heap[w.heap.size + 1]? = some (m.o r)) := fun d os => ⟨below_on hb.out (below_regrown wr d os), var_on (below_regrown wr d os) hA.out lA, var_on (below_regrown wr d os) hD.out lD⟩
      go_upto_region 6 with fail
      clear cA cD lA lD hb hA hD
      refine wp_region_quiet_below (by kernel_rfl) (by kernel_rfl) ?_
      repeat (first | go_big_quiet_skip | (go_big_quiet_want; go_big_quiet_op; first | go_big_quiet_on | go_big_quiet_call (fail)))
      refine wpQuiet_nil ?_
      intro _ hw'
      obtain ⟨⟨dq, osq⟩, hw''⟩ := hw'
      subst hw''
      have hB := hfin dq osq
      obtain ⟨W8, hW8⟩ : ∃ W8, Sort.grow (redrawn wr dq) osq = W8 := ⟨_, rfl⟩
      rw [hW8] at hB ⊢
      clear hW8 hG1 hG2 hGA hGD hfin hQ
      cases x
      · obtain rfl := not_of h.out (fun e => by
          subst e
          have e2 := Option.some.inj (HT.out.symm.trans HU.out)
          have e3 := (eqH_iff.2 e2).symm.trans hq.out
          cases e3)
        go_wp2_with fail
        go_ret
        exact ⟨rfl, hB.out.1⟩
      · have e2 := hid (eqH_iff.1 hq.out)
        go_wp2_with fail
        go_roundw
        case rel =>
          refine ⟨k + 1, by omega, by go_num, hid (fun j a b hj ha hb => ?_), hid hB.out.2.1, hid hB.out.2.2, hid hB.out.1⟩
          by_cases e : j = k
          · subst e
            have e1 := Option.some.inj (HT.out.symm.trans ha)
            have e3 := Option.some.inj (HU.out.symm.trans hb)
            subst e1 e3
            exact e2.out
          · exact HO.out j a b (by omega) ha hb
        case measure => simp [intOf]; omega
    · have hlt' : ¬ (k : Int) < (n.ha.length : Int) := by omega
      have E6 := hid (all_or (k := k) E3.out (by omega) HO.out)
      have hA2 := hid hA.out
      have hD2 := hid hD.out
      have hB2 := hid hb.out
      clear hA hD hb HO
      go_wp2_with fail
      clear cA cD lA lD hlt hlt'
      go_loopw [6] (fun i wr => ∃ k : Nat, k ≤ n.wa.length ∧ i = .int .i64 k ∧ Hid (∀ (j : Nat) (t u : Cm), j < k → n.wa[j]? = some t → m.wa[j]? = some u → t = u) ∧ Hid (wr.heap[w.heap.size]? = some (n.o s)) ∧ Hid (wr.heap[w.heap.size + 1]? = some (m.o r)) ∧ Hid (Below w.heap.size w wr)) (fun i _ => n.wa.length - (intOf i).toNat)
      case atStart => exact ⟨0, by omega, rfl, hid (fun j t u hj => by omega), hA2, hD2, hB2⟩
      case round =>
        obtain ⟨k, hk, rfl, HO, hA, hD, hb⟩ := hrel
        clear hA2 hD2 hB2
        have cA := (cells_at hA.out).1
        have lA := at_lt hA.out
        have cD := (cells_at hD.out).1
        have lD := at_lt hD.out
        by_cases hlt : k < n.wa.length
        · have hlt' : (k : Int) < (n.wa.length : Int) := by omega
          have hlt2 : (k : Int) < (m.wa.length : Int) := by have := E5.out; omega
          have hlt0 : (0 : Int) ≤ (k : Int) := by omega
          obtain ⟨t, ht⟩ := get_some n.wa k hlt
          obtain ⟨u, hu⟩ := get_some m.wa k (by have := E5.out; omega)
          obtain ⟨b1, o1, hp1, hc1⟩ := (HR.out.wa.later hb.out).at ht
          obtain ⟨b2, o2, hp2, hc2⟩ := (HR'.out.wa.later hb.out).at hu
          have hG1 : ∀ W', (∃ p : Regrown, W' = Sort.grow (redrawn wr p.d) p.os) → W'.rangeAt b1 (o1 + k * 22) t.cs := fun W' ⟨p, e⟩ => by rw [e]; exact range_on hc1 (below_regrown wr p.d p.os)
          have hG2 : ∀ W', (∃ p : Regrown, W' = Sort.grow (redrawn wr p.d) p.os) → W'.rangeAt b2 (o2 + k * 22) u.cs := fun W' ⟨p, e⟩ => by rw [e]; exact range_on hc2 (below_regrown wr p.d p.os)
          have hGA : ∀ d os, (Sort.grow (redrawn wr d) os).cell? ⟨w.heap.size, 5, none⟩ = some (.slice (some ⟨b1, o1, none⟩) n.wa.length s.cw) := fun d os => by rw [grown_cells hA.out 5 d os]; rw [← hp1]; rfl
          have hGD : ∀ d os, (Sort.grow (redrawn wr d) os).cell? ⟨w.heap.size + 1, 5, none⟩ = some (.slice (some ⟨b2, o2, none⟩) m.wa.length r.cw) := fun d os => by rw [grown_cells hD.out 5 d os]; rw [← hp2]; rfl
          have HT := hid ht
          have HU := hid hu
          clear hc1 hc2 ht hu hp1 hp2
          obtain ⟨x, hq⟩ : ∃ x, Hid (eqC t u = x) := ⟨_, rfl⟩
          have hQ := equal_cm_at hq.out
          have hfin : ∀ d os, Hid (Below w.heap.size w (Sort.grow (redrawn wr d) os) ∧ (Sort.grow (redrawn wr d) os).heap[w.heap.size]? = some (n.o s) ∧ (Sort.grow (redrawn wr d) os).heap[w.heap.size + 1]? = some (m.o r)) := fun d os => ⟨below_on hb.out (below_regrown wr d os), var_on (below_regrown wr d os) hA.out lA, var_on (below_regrown wr d os) hD.out lD⟩
          go_upto_region 11 with fail
          clear cA cD lA lD hb hA hD
          refine wp_region_quiet_below (by kernel_rfl) (by kernel_rfl) ?_
          repeat (first | go_big_quiet_skip | ((with_reducible refine quiet_load_mid_cm ?_ (.tmp 81) rfl rfl hG1 ?_); (· rfl); simp only [Act.put, List.setIfInBounds_toArray, List.set_cons_zero, List.set_cons_succ]) | ((with_reducible refine quiet_load_mid_cm ?_ (.tmp 86) rfl rfl hG2 ?_); (· rfl); simp only [Act.put, List.setIfInBounds_toArray, List.set_cons_zero, List.set_cons_succ]) | (go_big_quiet_want; go_big_quiet_op; first | go_big_quiet_on | go_big_quiet_call (fail)))
          refine wpQuiet_nil ?_
          intro _ hw'
          obtain ⟨⟨dq, osq⟩, hw''⟩ := hw'
          subst hw''
          have hB := hfin dq osq
          obtain ⟨W8, hW8⟩ : ∃ W8, Sort.grow (redrawn wr dq) osq = W8 := ⟨_, rfl⟩
          rw [hW8] at hB ⊢
          clear hW8 hG1 hG2 hGA hGD hfin hQ
          cases x
          · obtain rfl := not_of h.out (fun e => by
              subst e
              have e2 := Option.some.inj (HT.out.symm.trans HU.out)
              have e3 := (eqC_iff.2 e2).symm.trans hq.out
              cases e3)
            go_wp2_with fail
            go_ret
            exact ⟨rfl, hB.out.1⟩
          · have e2 := hid (eqC_iff.1 hq.out)
            go_wp2_with fail
            go_roundw
            case rel =>
              refine ⟨k + 1, by omega, by go_num, hid (fun j a b hj ha hb => ?_), hid hB.out.2.1, hid hB.out.2.2, hid hB.out.1⟩
              by_cases e : j = k
              · subst e
                have e1 := Option.some.inj (HT.out.symm.trans ha)
                have e3 := Option.some.inj (HU.out.symm.trans hb)
                subst e1 e3
                exact e2.out
              · exact HO.out j a b (by omega) ha hb
            case measure => simp [intOf]; omega
        · have hlt' : ¬ (k : Int) < (n.wa.length : Int) := by omega
          have E7 := all_or (k := k) E5.out (by omega) HO.out
          have hB8 := hid hb.out
          obtain rfl : q = true := h.out.2 (by
            have x0 := E0.out
            have x1 := E1.out
            have x2 := E2.out
            have x4 := E4.out
            have x6 := E6.out
            obtain ⟨a, b, c, d, e, f⟩ := n
            obtain ⟨a', b', c', d', e', f'⟩ := m
            simp only at x0 x1 x2 x4 x6 E7
            subst x0 x1 x2 x4 x6 E7
            rfl)
          clear E7 hb
          go_wp2_with fail
          go_ret
          exact ⟨rfl, hB8.out⟩
end Go.Proofs.YtpedngbjpbeanaaGreatDoor
