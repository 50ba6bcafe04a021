/- Contracts of Same of the package event (by slices.Equal) and of the reference: alike in all parts of all. -/
import Derived.Test.YtjdlcocncacmlaaEvA
namespace Go.Proofs.Ytjdlcocncacmlaa
open Go.RowKit
set_option linter.unusedVariables false
set_option maxRecDepth 100000 in
set_option maxHeartbeats 2000000 in
theorem refev_same {w : World} {p p' : Option Addr} {cap cap' n m : Nat} {L M : List Ev} {q : Bool} (h : Hid (sameE L M = q)) (hr : RowE w p L) (hr' : RowE w p' M) (hn : Hid (L.length = n)) (hm : Hid (M.length = m)) (hl : n ≤ 1000) (hl' : m ≤ 1000) :
    Calls Try.prog 11 #[.slice p n cap, .slice p' m cap'] w fun e w' => e = .returned (.bool q) ∧ Below w.heap.size w w' := by
  have HR := hid hr
  have HR' := hid hr'
  clear hr hr'
  by_cases hlm : n = m
  · subst hlm
    have hnn : ((n : Int) != (n : Int)) = false := by simp
    go_enter Try.func11, Try.ntmps11
    go_wp2_with fail
    go_loopw [5] (fun i wr => ∃ k : Nat, k ≤ n ∧ i = .int .i64 k ∧ Hid (∀ (j : Nat) (t u : Ev), j < k → L[j]? = some t → M[j]? = some u → eqE t u = true) ∧ Below w.heap.size w wr) (fun i _ => n - (intOf i).toNat)
    case atStart => exact ⟨0, by omega, rfl, hid (fun j t u hj => by omega), Below.refl _ _⟩
    case round =>
      obtain ⟨k, hk, rfl, HO, hb⟩ := hrel
      by_cases hlt : k < n
      · have hlt' : (k : Int) < (n : Int) := by omega
        obtain ⟨t, ht⟩ := get_some L k (by rw [hn.out]; exact hlt)
        obtain ⟨u, hu⟩ := get_some M k (by rw [hm.out]; exact hlt)
        obtain ⟨b1, o1, rfl, hc1⟩ := (HR.out.later hb).at ht
        obtain ⟨b2, o2, rfl, hc2⟩ := (HR'.out.later hb).at hu
        have HT := hid ht
        have HU := hid hu
        clear ht hu
        obtain ⟨r, hq⟩ : ∃ r, Hid (eqE t u = r) := ⟨_, rfl⟩
        have hQ := equal_ev_at hq.out
        have hG1 : ∀ W', (∃ p : Regrown, W' = Sort.grow (redrawn wr p.d) p.os) → W'.rangeAt b1 (o1 + k * 25) t.cs := fun W' ⟨p, e⟩ => by rw [e]; exact range_on hc1 (below_regrown wr p.d p.os)
        have hG2 : ∀ W', (∃ p : Regrown, W' = Sort.grow (redrawn wr p.d) p.os) → W'.rangeAt b2 (o2 + k * 25) u.cs := fun W' ⟨p, e⟩ => by rw [e]; exact range_on hc2 (below_regrown wr p.d p.os)
        have hfin : ∀ d os, Hid (Below w.heap.size w (Sort.grow (redrawn wr d) os)) := fun d os => below_on hb (below_regrown wr d os)
        clear hc1 hc2 hb
        go_upto_region 6 with fail
        refine wp_region_quiet_below (by kernel_rfl) (by kernel_rfl) ?_
        repeat (first | go_big_quiet_skip | ((with_reducible refine quiet_load_mid_ev ?_ (.tmp 19) rfl rfl hG1 ?_); (· rfl); simp only [Act.put, List.setIfInBounds_toArray, List.set_cons_zero, List.set_cons_succ]) | ((with_reducible refine quiet_load_mid_ev ?_ (.tmp 23) rfl rfl hG2 ?_); (· rfl); simp only [Act.put, List.setIfInBounds_toArray, List.set_cons_zero, List.set_cons_succ]) | (go_big_quiet_want; go_big_quiet_op; first | go_big_quiet_on | go_big_quiet_call (fail)))
        refine wpQuiet_nil ?_
        intro _ hw'
        obtain ⟨⟨dq, osq⟩, hw''⟩ := hw'
        subst hw''
        have hB := hfin dq osq
        obtain ⟨W8, hW8⟩ : ∃ W8, Sort.grow (redrawn wr dq) osq = W8 := ⟨_, rfl⟩
        rw [hW8] at hB ⊢
        clear hW8 hG1 hG2 hfin hQ
        cases r
        · have e := hid ((sameE_no HT.out HU.out hq.out).symm.trans h.out)
          go_wp2_with fail
          go_ret
          exact ⟨ret_b e.out, hB.out⟩
        · go_wp2_with fail
          go_roundw
          case rel =>
            refine ⟨k + 1, by omega, by go_num, hid (fun j a b hj ha hb => ?_), hB.out⟩
            by_cases e : j = k
            · subst e
              have e1 := Option.some.inj (HT.out.symm.trans ha)
              have e2 := Option.some.inj (HU.out.symm.trans hb)
              subst e1 e2
              exact hq.out
            · exact HO.out j a b (by omega) ha hb
          case measure => simp [intOf]; omega
      · obtain rfl : k = n := by omega
        have hlt' : ¬ (k : Int) < (k : Int) := by omega
        have e := hid ((sameE_yes (hn.out.trans hm.out.symm) (fun j t u ht hu => HO.out j t u (by rw [← hn.out]; exact (List.getElem?_eq_some_iff.1 ht).1) ht hu)).symm.trans h.out)
        go_wp2_with fail
        go_ret
        exact ⟨ret_b e.out, hb⟩
  · have hnm : ((n : Int) != (m : Int)) = true := by simp; omega
    have e := hid ((sameE_len (L := L) (M := M) (by rw [hn.out, hm.out]; exact hlm)).symm.trans h.out)
    clear hlm
    go_enter Try.func11, Try.ntmps11
    go_wp2_with fail
    go_ret
    exact ⟨ret_b e.out, Below.refl _ _⟩
end Go.Proofs.Ytjdlcocncacmlaa
