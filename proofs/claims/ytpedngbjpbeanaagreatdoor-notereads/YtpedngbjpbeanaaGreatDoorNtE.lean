/- Contracts of slices.Equal of things, of hands, of commands: true, if the rows are the same. -/
import Derived.Test.YtpedngbjpbeanaaGreatDoorNtA
import Derived.BigQuiet
namespace Go.Proofs.YtpedngbjpbeanaaGreatDoor
open Go.RowKit
set_option linter.unusedVariables false
set_option maxRecDepth 100000
theorem rows_eq {α : Type} {L M : List α} (hl : L.length = M.length) (h : ∀ (j : Nat) (t u : α), L[j]? = some t → M[j]? = some u → t = u) : L = M := by
  apply List.ext_getElem hl
  intro i h1 h2
  exact h i _ _ (by simp [h1]) (by simp [h2])
def eqH (a b : Hd) : Bool := a.c == b.c && a.u == b.u
theorem eqH_iff {a b : Hd} : eqH a b = true ↔ a = b := by
  obtain ⟨a0, a1⟩ := a
  obtain ⟨b0, b1⟩ := b
  simp [eqH]
theorem equal_hd (W : World) (a b : Hd) : (Op.equalIn 10000 43 a.v b.v).run Tryz.prog W = .ok (eqH a b) W := by
  obtain ⟨a0, a1⟩ := a
  obtain ⟨b0, b1⟩ := b
  by_cases h0 : a0 = b0
  · subst h0
    by_cases h1 : a1 = b1 <;> simp [go_sem, h1, eqH]
  · simp [go_sem, h0, eqH]
theorem equal_hd_at {a b : Hd} {q : Bool} (h : eqH a b = q) (W : World) : (Op.equalIn 10000 43 a.v b.v).run Tryz.prog W = .ok q W := by rw [equal_hd, h]
set_option maxHeartbeats 2000000 in
theorem th_equal {w : World} {p p' : Option Addr} {cap cap' n m : Nat} {L M : List Th} {q : Bool} (h : Hid (q = true ↔ L = M)) (hr : RowT w p L) (hr' : RowT w p' M) (hn : Hid (L.length = n)) (hm : Hid (M.length = m)) (hl : n ≤ maxLen) (hl' : m ≤ maxLen) :
    Calls Tryz.prog 32 #[.slice p n cap, .slice p' m cap'] w fun e w' => e = .returned (.bool q) ∧ Below w.heap.size w w' := by
  have HR := hid hr
  have HR' := hid hr'
  have hl1 : n ≤ 9223372036854775807 := by unfold maxLen at hl; omega
  have hl2 : m ≤ 9223372036854775807 := by unfold maxLen at hl'; omega
  clear hr hr' hl hl'
  by_cases hlm : n = m
  · subst hlm
    have hnn : ((n : Int) != (n : Int)) = false := by simp
    go_enter Tryz.func32, Tryz.ntmps32
    go_wp2_with fail
    go_loopw [13] (fun i wr => ∃ k : Nat, k ≤ n ∧ i = .int .i64 k ∧ Hid (∀ (j : Nat) (t u : Th), j < k → L[j]? = some t → M[j]? = some u → t = u) ∧ Below w.heap.size w wr) (fun i _ => n - (intOf i).toNat)
    case atStart => exact ⟨0, by omega, rfl, hid (fun j t u hj => by omega), Below.refl _ _⟩
    case round =>
      obtain ⟨k, hk, rfl, HO, hb⟩ := hrel
      by_cases hlt : k < n
      · have hlt' : (k : Int) < (n : Int) := by omega
        have hlt0 : (0 : Int) ≤ (k : Int) := by omega
        obtain ⟨t, ht⟩ := get_some L k (by rw [hn.out]; exact hlt)
        obtain ⟨u, hu⟩ := get_some M k (by rw [hm.out]; exact hlt)
        obtain ⟨b1, o1, rfl, _⟩ := (HR.out.later hb).at ht
        obtain ⟨b2, o2, rfl, _⟩ := (HR'.out.later hb).at hu
        have hG1 : ∀ d os, cellsT (Sort.grow (redrawn wr d) os) b1 (o1 + k * 11) t := fun d os => by
          obtain ⟨_, _, e, h⟩ := ((HR.out.later hb).later (below_regrown wr d os)).at ht
          simp only [Option.some.injEq, Addr.mk.injEq, and_true] at e
          obtain ⟨rfl, rfl⟩ := e
          exact h
        have hG2 : ∀ d os, cellsT (Sort.grow (redrawn wr d) os) b2 (o2 + k * 11) u := fun d os => by
          obtain ⟨_, _, e, h⟩ := ((HR'.out.later hb).later (below_regrown wr d os)).at hu
          simp only [Option.some.injEq, Addr.mk.injEq, and_true] at e
          obtain ⟨rfl, rfl⟩ := e
          exact h
        have HT := hid ht
        have HU := hid hu
        clear ht hu
        obtain ⟨r, hq⟩ : ∃ r, Hid (eqT t u = r) := ⟨_, rfl⟩
        have hQ := equal_th_at hq.out
        have hfin : ∀ d os, Hid (Below w.heap.size w (Sort.grow (redrawn wr d) os)) := fun d os => below_on hb (below_regrown wr d os)
        clear hb
        go_upto_region 6 with fail
        refine wp_region_quiet_below (by kernel_rfl) (by kernel_rfl) ?_
        repeat (first | go_big_quiet_skip | (go_big_quiet_want; go_big_quiet_op; first | go_big_quiet_on | go_big_quiet_call (fail)))
        refine wpQuiet_nil ?_
        intro _ hw'
        obtain ⟨⟨dq, osq⟩, hw''⟩ := hw'
        subst hw''
        have hB := hfin dq osq
        obtain ⟨W8, hW8⟩ : ∃ W8, Sort.grow (redrawn wr dq) osq = W8 := ⟨_, rfl⟩
        rw [hW8] at hB ⊢
        clear hW8 hG1 hG2 hfin hQ
        cases r
        · have e : q = false := by
            cases q with
            | false => rfl
            | true =>
              have e1 := h.out.1 rfl
              subst e1
              have e2 := Option.some.inj (HT.out.symm.trans HU.out)
              have e3 := (eqT_iff.2 e2).symm.trans hq.out
              cases e3
          subst e
          go_wp2_with fail
          go_ret
          exact ⟨rfl, hB.out⟩
        · have e2 := hid (eqT_iff.1 hq.out)
          go_wp2_with fail
          go_roundw
          case rel =>
            refine ⟨k + 1, by omega, by go_num, hid (fun j a b hj ha hb => ?_), hB.out⟩
            by_cases e : j = k
            · subst e
              have e1 := Option.some.inj (HT.out.symm.trans ha)
              have e3 := Option.some.inj (HU.out.symm.trans hb)
              subst e1 e3
              exact e2.out
            · exact HO.out j a b (by omega) ha hb
          case measure => simp [intOf]; omega
      · obtain rfl : k = n := by omega
        have hlt' : ¬ (k : Int) < (k : Int) := by omega
        have e : q = true := h.out.2 (rows_eq (hn.out.trans hm.out.symm) (fun j t u ht hu => HO.out j t u (by rw [← hn.out]; exact (List.getElem?_eq_some_iff.1 ht).1) ht hu))
        subst e
        go_wp2_with fail
        go_ret
        exact ⟨rfl, hb⟩
  · have hnm : ((n : Int) != (m : Int)) = true := by simp; omega
    have e : q = false := by
      cases q with
      | false => rfl
      | true =>
        have e1 := h.out.1 rfl
        subst e1
        exact absurd (hn.out.symm.trans hm.out) hlm
    subst e
    clear hlm
    go_enter Tryz.func32, Tryz.ntmps32
    go_wp2_with fail
    go_ret
    exact ⟨rfl, Below.refl _ _⟩
set_option maxHeartbeats 2000000 in
theorem hd_equal {w : World} {p p' : Option Addr} {cap cap' n m : Nat} {L M : List Hd} {q : Bool} (h : Hid (q = true ↔ L = M)) (hr : RowG Hd.cs 2 w p L) (hr' : RowG Hd.cs 2 w p' M) (hn : Hid (L.length = n)) (hm : Hid (M.length = m)) (hl : n ≤ maxLen) (hl' : m ≤ maxLen) :
    Calls Tryz.prog 33 #[.slice p n cap, .slice p' m cap'] w fun e w' => e = .returned (.bool q) ∧ Below w.heap.size w w' := by
  have HR := hid hr
  have HR' := hid hr'
  have hl1 : n ≤ 9223372036854775807 := by unfold maxLen at hl; omega
  have hl2 : m ≤ 9223372036854775807 := by unfold maxLen at hl'; omega
  clear hr hr' hl hl'
  by_cases hlm : n = m
  · subst hlm
    have hnn : ((n : Int) != (n : Int)) = false := by simp
    go_enter Tryz.func33, Tryz.ntmps33
    go_wp2_with fail
    go_loopw [13] (fun i wr => ∃ k : Nat, k ≤ n ∧ i = .int .i64 k ∧ Hid (∀ (j : Nat) (t u : Hd), j < k → L[j]? = some t → M[j]? = some u → t = u) ∧ Below w.heap.size w wr) (fun i _ => n - (intOf i).toNat)
    case atStart => exact ⟨0, by omega, rfl, hid (fun j t u hj => by omega), Below.refl _ _⟩
    case round =>
      obtain ⟨k, hk, rfl, HO, hb⟩ := hrel
      by_cases hlt : k < n
      · have hlt' : (k : Int) < (n : Int) := by omega
        have hlt0 : (0 : Int) ≤ (k : Int) := by omega
        obtain ⟨t, ht⟩ := get_some L k (by rw [hn.out]; exact hlt)
        obtain ⟨u, hu⟩ := get_some M k (by rw [hm.out]; exact hlt)
        obtain ⟨b1, o1, rfl, hc1⟩ := (HR.out.later hb).at ht
        obtain ⟨b2, o2, rfl, hc2⟩ := (HR'.out.later hb).at hu
        have hG1 : ∀ d os, (Sort.grow (redrawn wr d) os).cell? ⟨b1, o1 + k * 2, none⟩ = some (.int .i64 t.c) ∧ (Sort.grow (redrawn wr d) os).cell? ⟨b1, o1 + k * 2 + 1, none⟩ = some (.int .i64 t.u) := fun d os => ⟨cell_below (below_regrown wr d os) (hc1 0 _ rfl), cell_below (below_regrown wr d os) (hc1 1 _ rfl)⟩
        have hG2 : ∀ d os, (Sort.grow (redrawn wr d) os).cell? ⟨b2, o2 + k * 2, none⟩ = some (.int .i64 u.c) ∧ (Sort.grow (redrawn wr d) os).cell? ⟨b2, o2 + k * 2 + 1, none⟩ = some (.int .i64 u.u) := fun d os => ⟨cell_below (below_regrown wr d os) (hc2 0 _ rfl), cell_below (below_regrown wr d os) (hc2 1 _ rfl)⟩
        clear hc1 hc2
        have HT := hid ht
        have HU := hid hu
        clear ht hu
        obtain ⟨r, hq⟩ : ∃ r, Hid (eqH t u = r) := ⟨_, rfl⟩
        have hQ := equal_hd_at hq.out
        have hfin : ∀ d os, Hid (Below w.heap.size w (Sort.grow (redrawn wr d) os)) := fun d os => below_on hb (below_regrown wr d os)
        clear hb
        go_upto_region 6 with fail
        refine wp_region_quiet_below (by kernel_rfl) (by kernel_rfl) ?_
        repeat (first | go_big_quiet_skip | (go_big_quiet_want; go_big_quiet_op; first | go_big_quiet_on | go_big_quiet_call (fail)))
        refine wpQuiet_nil ?_
        intro _ hw'
        obtain ⟨⟨dq, osq⟩, hw''⟩ := hw'
        subst hw''
        have hB := hfin dq osq
        obtain ⟨W8, hW8⟩ : ∃ W8, Sort.grow (redrawn wr dq) osq = W8 := ⟨_, rfl⟩
        rw [hW8] at hB ⊢
        clear hW8 hG1 hG2 hfin hQ
        cases r
        · have e : q = false := by
            cases q with
            | false => rfl
            | true =>
              have e1 := h.out.1 rfl
              subst e1
              have e2 := Option.some.inj (HT.out.symm.trans HU.out)
              have e3 := (eqH_iff.2 e2).symm.trans hq.out
              cases e3
          subst e
          go_wp2_with fail
          go_ret
          exact ⟨rfl, hB.out⟩
        · have e2 := hid (eqH_iff.1 hq.out)
          go_wp2_with fail
          go_roundw
          case rel =>
            refine ⟨k + 1, by omega, by go_num, hid (fun j a b hj ha hb => ?_), hB.out⟩
            by_cases e : j = k
            · subst e
              have e1 := Option.some.inj (HT.out.symm.trans ha)
              have e3 := Option.some.inj (HU.out.symm.trans hb)
              subst e1 e3
              exact e2.out
            · exact HO.out j a b (by omega) ha hb
          case measure => simp [intOf]; omega
      · obtain rfl : k = n := by omega
        have hlt' : ¬ (k : Int) < (k : Int) := by omega
        have e : q = true := h.out.2 (rows_eq (hn.out.trans hm.out.symm) (fun j t u ht hu => HO.out j t u (by rw [← hn.out]; exact (List.getElem?_eq_some_iff.1 ht).1) ht hu))
        subst e
        go_wp2_with fail
        go_ret
        exact ⟨rfl, hb⟩
  · have hnm : ((n : Int) != (m : Int)) = true := by simp; omega
    have e : q = false := by
      cases q with
      | false => rfl
      | true =>
        have e1 := h.out.1 rfl
        subst e1
        exact absurd (hn.out.symm.trans hm.out) hlm
    subst e
    clear hlm
    go_enter Tryz.func33, Tryz.ntmps33
    go_wp2_with fail
    go_ret
    exact ⟨rfl, Below.refl _ _⟩
set_option maxHeartbeats 2000000 in
theorem cm_equal {w : World} {p p' : Option Addr} {cap cap' n m : Nat} {L M : List Cm} {q : Bool} (h : Hid (q = true ↔ L = M)) (hr : RowM w p L) (hr' : RowM w p' M) (hn : Hid (L.length = n)) (hm : Hid (M.length = m)) (hl : n ≤ maxLen) (hl' : m ≤ maxLen) :
    Calls Tryz.prog 34 #[.slice p n cap, .slice p' m cap'] w fun e w' => e = .returned (.bool q) ∧ Below w.heap.size w w' := by
  have HR := hid hr
  have HR' := hid hr'
  have hl1 : n ≤ 9223372036854775807 := by unfold maxLen at hl; omega
  have hl2 : m ≤ 9223372036854775807 := by unfold maxLen at hl'; omega
  clear hr hr' hl hl'
  by_cases hlm : n = m
  · subst hlm
    have hnn : ((n : Int) != (n : Int)) = false := by simp
    go_enter Tryz.func34, Tryz.ntmps34
    go_wp2_with fail
    go_loopw [13] (fun i wr => ∃ k : Nat, k ≤ n ∧ i = .int .i64 k ∧ Hid (∀ (j : Nat) (t u : Cm), j < k → L[j]? = some t → M[j]? = some u → t = u) ∧ Below w.heap.size w wr) (fun i _ => n - (intOf i).toNat)
    case atStart => exact ⟨0, by omega, rfl, hid (fun j t u hj => by omega), Below.refl _ _⟩
    case round =>
      obtain ⟨k, hk, rfl, HO, hb⟩ := hrel
      by_cases hlt : k < n
      · have hlt' : (k : Int) < (n : Int) := by omega
        have hlt0 : (0 : Int) ≤ (k : Int) := by omega
        obtain ⟨t, ht⟩ := get_some L k (by rw [hn.out]; exact hlt)
        obtain ⟨u, hu⟩ := get_some M k (by rw [hm.out]; exact hlt)
        obtain ⟨b1, o1, rfl, hc1⟩ := (HR.out.later hb).at ht
        obtain ⟨b2, o2, rfl, hc2⟩ := (HR'.out.later hb).at hu
        have hG1 : ∀ W', (∃ p : Regrown, W' = Sort.grow (redrawn wr p.d) p.os) → W'.rangeAt b1 (o1 + k * 22) t.cs := fun W' ⟨p, e⟩ => by rw [e]; exact range_on hc1 (below_regrown wr p.d p.os)
        have hG2 : ∀ W', (∃ p : Regrown, W' = Sort.grow (redrawn wr p.d) p.os) → W'.rangeAt b2 (o2 + k * 22) u.cs := fun W' ⟨p, e⟩ => by rw [e]; exact range_on hc2 (below_regrown wr p.d p.os)
        clear hc1 hc2
        have HT := hid ht
        have HU := hid hu
        clear ht hu
        obtain ⟨r, hq⟩ : ∃ r, Hid (eqC t u = r) := ⟨_, rfl⟩
        have hQ := equal_cm_at hq.out
        have hfin : ∀ d os, Hid (Below w.heap.size w (Sort.grow (redrawn wr d) os)) := fun d os => below_on hb (below_regrown wr d os)
        clear hb
        go_upto_region 6 with fail
        refine wp_region_quiet_below (by kernel_rfl) (by kernel_rfl) ?_
        repeat (first | go_big_quiet_skip | ((with_reducible refine quiet_load_mid_cm ?_ (.tmp 18) rfl rfl hG1 ?_); (· rfl); simp only [Act.put, List.setIfInBounds_toArray, List.set_cons_zero, List.set_cons_succ]) | ((with_reducible refine quiet_load_mid_cm ?_ (.tmp 22) rfl rfl hG2 ?_); (· rfl); simp only [Act.put, List.setIfInBounds_toArray, List.set_cons_zero, List.set_cons_succ]) | (go_big_quiet_want; go_big_quiet_op; first | go_big_quiet_on | go_big_quiet_call (fail)))
        refine wpQuiet_nil ?_
        intro _ hw'
        obtain ⟨⟨dq, osq⟩, hw''⟩ := hw'
        subst hw''
        have hB := hfin dq osq
        obtain ⟨W8, hW8⟩ : ∃ W8, Sort.grow (redrawn wr dq) osq = W8 := ⟨_, rfl⟩
        rw [hW8] at hB ⊢
        clear hW8 hG1 hG2 hfin hQ
        cases r
        · have e : q = false := by
            cases q with
            | false => rfl
            | true =>
              have e1 := h.out.1 rfl
              subst e1
              have e2 := Option.some.inj (HT.out.symm.trans HU.out)
              have e3 := (eqC_iff.2 e2).symm.trans hq.out
              cases e3
          subst e
          go_wp2_with fail
          go_ret
          exact ⟨rfl, hB.out⟩
        · have e2 := hid (eqC_iff.1 hq.out)
          go_wp2_with fail
          go_roundw
          case rel =>
            refine ⟨k + 1, by omega, by go_num, hid (fun j a b hj ha hb => ?_), hB.out⟩
            by_cases e : j = k
            · subst e
              have e1 := Option.some.inj (HT.out.symm.trans ha)
              have e3 := Option.some.inj (HU.out.symm.trans hb)
              subst e1 e3
              exact e2.out
            · exact HO.out j a b (by omega) ha hb
          case measure => simp [intOf]; omega
      · obtain rfl : k = n := by omega
        have hlt' : ¬ (k : Int) < (k : Int) := by omega
        have e : q = true := h.out.2 (rows_eq (hn.out.trans hm.out.symm) (fun j t u ht hu => HO.out j t u (by rw [← hn.out]; exact (List.getElem?_eq_some_iff.1 ht).1) ht hu))
        subst e
        go_wp2_with fail
        go_ret
        exact ⟨rfl, hb⟩
  · have hnm : ((n : Int) != (m : Int)) = true := by simp; omega
    have e : q = false := by
      cases q with
      | false => rfl
      | true =>
        have e1 := h.out.1 rfl
        subst e1
        exact absurd (hn.out.symm.trans hm.out) hlm
    subst e
    clear hlm
    go_enter Tryz.func34, Tryz.ntmps34
    go_wp2_with fail
    go_ret
    exact ⟨rfl, Below.refl _ _⟩
end Go.Proofs.YtpedngbjpbeanaaGreatDoor
