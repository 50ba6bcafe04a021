/- Contracts of Apply, Fold of the reference: what events make of a row of things that rises; nothing that was there is changed. -/
import Derived.Test.YtkklchobiiajgaaEK
import Derived.Test.YtkklchobiiajgaaEH
namespace Go.Proofs.Ytkklchobiiajgaa
open Go.RowKit
set_option linter.unusedVariables false
/-- what they answer -/
def RefPost (w : World) (M : List Th) (m : Nat) (b : Bool) : Ending → World → Prop := fun x w' => ∃ p cap, x = .returned (.tuple #[.slice p m cap, .bool b]) ∧ RowT w' p M ∧ Below w.heap.size w w'
set_option maxRecDepth 100000 in
set_option maxHeartbeats 8000000 in
theorem refev_apply {w : World} {p : Option Addr} {cap n r : Nat} {L M : List Th} {e : Ev} {b : Bool} (h : Hid (doE L e = (M, b))) (hr : RowT w p L) (hR : Rise L) (hn : Hid (L.length = n)) (hl : n ≤ 900) (hi : inE e) (hM : Hid (M.length = r)) :
    Calls Try.prog 20 #[.slice p n cap, e.v] w (RefPost w M r b) := by
  obtain ⟨W, hW⟩ : ∃ W, W = w.alloc e.o := ⟨_, rfl⟩
  have hE : Below w.heap.size w W := by rw [hW]; exact below1 _ _
  have K := hid (show W.heap[w.heap.size]? = some e.o by rw [hW]; exact new_at _ _ _ rfl)
  have HR := hid (hr.later hE)
  have HRi := hid hR
  have H := hid h.out
  obtain ⟨a, ha⟩ : ∃ a, Hid (atI e.i L = a) := ⟨_, rfl⟩
  obtain ⟨th, hth⟩ : ∃ b, Hid (hasT e.i L = b) := ⟨_, rfl⟩
  obtain ⟨qi, hqi⟩ : ∃ b, Hid (isE e = b) := ⟨_, rfl⟩
  have AT := ref_at6 (cap := cap) HR.out hn (by omega) ha
  have IS := fun w => refev_is hqi hi w
  clear h hr hR
  obtain ⟨Q, hQ0⟩ : ∃ Q, RefPost w M r b = Q := ⟨_, rfl⟩
  rw [hQ0]
  have HQ := hid hQ0
  clear hQ0
  have c := cells_at K.out
  go_enter Try.func20, Try.ntmps20
  go_upto_region 1 with fail
  rw [← hW]
  clear hW
  go_wp2_with fail
  refine AT.mono ?_
  rintro x w1 ⟨rfl, h1⟩
  rw [h1]
  clear h1 w1 AT
  go_wp2_with ((with_reducible refine wpList_load_evG ?_ (.tmp 3) rfl rfl K.out ?_); · rfl)
  refine (IS _).mono ?_
  rintro x w1 ⟨rfl, hb1⟩
  have K1 := hid (var_on hb1 K.out (at_lt K.out))
  have HR1 := hid (HR.out.later hb1)
  have hB1 := below_on hE hb1
  clear hb1 hE K c HR IS
  have c := cells_at K1.out
  cases qi
  · have e1 := H.out
    rw [doE_bad hqi.out] at e1
    simp only [Prod.mk.injEq] at e1
    obtain ⟨rfl, rfl⟩ := e1
    have hrn : r = n := hM.out.symm.trans hn.out
    subst hrn
    go_wp2_with fail
    rw [← HQ.out]
    exact ⟨p, cap, rfl, HR1.out, hB1⟩
  · have hbad : th = (e.k == 1) → M = L ∧ b = false := fun h0 => by
      have e1 := H.out
      rw [doE_no (by rw [hth.out]; exact h0)] at e1
      simp only [Prod.mk.injEq] at e1
      exact ⟨e1.1.symm, e1.2.symm⟩
    have HBAD := hid hbad
    clear hbad
    cases th
    · have ha1 : a = -1 := by rw [← ha.out]; exact atI_not hth.out
      subst ha1
      rcases isE_kind hqi.out with k1 | k2 | k3
      · have e1 : (e.k == 1) = true := by simp [k1]
        have hd := doE_1 hqi.out k1 hth.out
        have eM := H.out
        rw [hd] at eM
        simp only [Prod.mk.injEq] at eM
        obtain ⟨eM, rfl⟩ := eM
        have WI := fun (w : World) (hr : RowT w p L) => ref_with (cap := cap) hr HRi.out hn (by omega) (show Hid (witT e.t L = M) from eM) hM
        have EM := hid eM
        clear hd k1 eM
        go_wp2_with fail
        refine (WI _ HR1.out).mono ?_
        rintro x w2 ⟨p2, c2, rfl, hrow, -, hb2⟩
        have HE := hid (show RefPost w M r true (.returned (.tuple #[.slice p2 r c2, .bool true])) w2 from ⟨p2, c2, rfl, hrow, below_on hB1 hb2⟩)
        clear hrow hb2 WI
        go_wp2_with fail
        rw [← HQ.out]
        exact HE.out
      · have e1 : (e.k == 1) = false := by simp [k2]
        obtain ⟨rfl, rfl⟩ := HBAD.out (by rw [e1])
        have hrn : r = n := hM.out.symm.trans hn.out
        subst hrn
        clear k2
        go_wp2_with fail
        rw [← HQ.out]
        exact ⟨p, cap, rfl, HR1.out, hB1⟩
      · have e1 : (e.k == 1) = false := by simp [k3]
        obtain ⟨rfl, rfl⟩ := HBAD.out (by rw [e1])
        have hrn : r = n := hM.out.symm.trans hn.out
        subst hrn
        clear k3
        go_wp2_with fail
        rw [← HQ.out]
        exact ⟨p, cap, rfl, HR1.out, hB1⟩
    · obtain ⟨k, t, ha1, ht, hft⟩ := atI_has hth.out
      have ha2 : a = (k : Int) := by rw [← ha.out]; exact ha1
      subst ha2
      have hkn : k < n := by rw [← hn.out]; exact (List.getElem?_eq_some_iff.1 ht).1
      have hk0 : (0 : Int) ≤ (k : Int) := by omega
      have hkn' : (k : Int) < (n : Int) := by omega
      have hat : atT e.i L = t := by unfold atT; rw [hft]; rfl
      have HT := hid ht
      have HAT := hid hat
      clear ha1 ht hft hat
      rcases isE_kind hqi.out with k1 | k2 | k3
      · have e1 : (e.k == 1) = true := by simp [k1]
        obtain ⟨rfl, rfl⟩ := HBAD.out (by rw [e1])
        have hrn : r = n := hM.out.symm.trans hn.out
        subst hrn
        clear k1
        go_wp2_with fail
        rw [← HQ.out]
        exact ⟨p, cap, rfl, HR1.out, hB1⟩
      · have e1 : (e.k == 1) = false := by simp [k2]
        have e2 : (e.k == 2) = true := by simp [k2]
        have hd := doE_2 hqi.out k2 hth.out
        obtain ⟨u, hu⟩ : ∃ u, Hid (apply t e.d = u) := ⟨_, rfl⟩
        rw [HAT.out, hu.out] at hd
        have eM := H.out
        rw [hd] at eM
        simp only [Prod.mk.injEq] at eM
        obtain ⟨eM, rfl⟩ := eM
        have WI := fun (w : World) (hr : RowT w p L) => ref_with (cap := cap) hr HRi.out hn (by omega) (show Hid (witT u L = M) from eM) hM
        have AP := fun w => (by have := ref_apply w t e.d hi.2.1; rw [hu.out] at this; exact this : Calls Try.prog 42 #[t.v, e.d.v] w fun x w' => x = .returned u.v ∧ Below w.heap.size w w')
        have EM := hid eM
        clear hd k2 eM
        obtain ⟨g, off, rfl, hc⟩ := HR1.out.at HT.out
        have hge : w.heap.size < w1.heap.size := at_lt K1.out
        go_upto_region 8 with fail
        refine wp_region_held_drew (S := fun w' => cellsT w' g (off + k * 11) t ∧ w'.heap[w.heap.size]? = some e.o) (by kernel_rfl) ⟨hc, K1.out⟩ (fun hHeld => ?_)
        refine take_yes (i := 0) (v := ?v0b) rfl (by kernel_rfl) (by kernel_rfl) (by kernel_rfl) (fun _ _ _ h => h) (by rfl) ?hy0b hHeld ?rest0b
        case hy0b =>
          intro w' hSw
          obtain ⟨⟨s0, s1, s2, s3, s4, s5, s6, s7, s8, s9, s10⟩, s11⟩ := hSw
          have c9 := cells_at s11
          go_simp <;> with_reducible rfl
        try simp only [Act.put, List.setIfInBounds_toArray, List.set_cons_zero, List.set_cons_succ]
        refine take_yes (i := 1) (v := ?v1b) rfl (by kernel_rfl) (by kernel_rfl) (by kernel_rfl) (fun _ _ _ h => h) (by rfl) ?hy1b hHeld ?rest1b
        case hy1b =>
          intro w' hSw
          obtain ⟨⟨s0, s1, s2, s3, s4, s5, s6, s7, s8, s9, s10⟩, s11⟩ := hSw
          have c9 := cells_at s11
          go_simp <;> with_reducible rfl
        try simp only [Act.put, List.setIfInBounds_toArray, List.set_cons_zero, List.set_cons_succ]
        refine take_yes (i := 2) (v := ?v2b) rfl (by kernel_rfl) (by kernel_rfl) (by kernel_rfl) (fun _ _ _ h => h) (by rfl) ?hy2b hHeld ?rest2b
        case hy2b =>
          intro w' hSw
          obtain ⟨⟨s0, s1, s2, s3, s4, s5, s6, s7, s8, s9, s10⟩, s11⟩ := hSw
          have c9 := cells_at s11
          go_simp <;> with_reducible rfl
        try simp only [Act.put, List.setIfInBounds_toArray, List.set_cons_zero, List.set_cons_succ]
        refine take_yes (i := 3) (v := ?v3b) rfl (by kernel_rfl) (by kernel_rfl) (by kernel_rfl) (fun _ _ _ h => h) (by rfl) ?hy3b hHeld ?rest3b
        case hy3b =>
          intro w' hSw
          obtain ⟨⟨s0, s1, s2, s3, s4, s5, s6, s7, s8, s9, s10⟩, s11⟩ := hSw
          have c9 := cells_at s11
          go_simp <;> with_reducible rfl
        try simp only [Act.put, List.setIfInBounds_toArray, List.set_cons_zero, List.set_cons_succ]
        refine take_yes (i := 4) (v := ?v4b) rfl (by kernel_rfl) (by kernel_rfl) (by kernel_rfl) (fun _ _ _ h => h) (by rfl) ?hy4b hHeld ?rest4b
        case hy4b =>
          intro w' hSw
          obtain ⟨⟨s0, s1, s2, s3, s4, s5, s6, s7, s8, s9, s10⟩, s11⟩ := hSw
          have c9 := cells_at s11
          go_simp <;> with_reducible rfl
        try simp only [Act.put, List.setIfInBounds_toArray, List.set_cons_zero, List.set_cons_succ]
        refine take_yes (i := 5) (v := ?v5b) rfl (by kernel_rfl) (by kernel_rfl) (by kernel_rfl) (fun _ _ _ h => h) (by rfl) ?hy5b hHeld ?rest5b
        case hy5b =>
          intro w' hSw
          obtain ⟨⟨s0, s1, s2, s3, s4, s5, s6, s7, s8, s9, s10⟩, s11⟩ := hSw
          have c9 := cells_at s11
          go_simp <;> with_reducible rfl
        try simp only [Act.put, List.setIfInBounds_toArray, List.set_cons_zero, List.set_cons_succ]
        refine take_yes (i := 6) (v := ?v6b) rfl (by kernel_rfl) (by kernel_rfl) (by kernel_rfl) (fun _ _ _ h => h) (by rfl) ?hy6b hHeld ?rest6b
        case hy6b =>
          intro w' hSw
          obtain ⟨⟨s0, s1, s2, s3, s4, s5, s6, s7, s8, s9, s10⟩, s11⟩ := hSw
          have c9 := cells_at s11
          go_simp <;> with_reducible rfl
        try simp only [Act.put, List.setIfInBounds_toArray, List.set_cons_zero, List.set_cons_succ]
        refine wpAnyH_ready (rs := [7]) (by kernel_rfl) (by simp) (cons_at (i := 7) rfl (fun K7b hK7b => ?_) AllReadyH.nil)
        go_simp
        go_at_call 42
        with_reducible refine (AP _).mono ?_
        rintro x W5 ⟨rfl, hb5'⟩
        have hb5 : Below w1.heap.size w1 W5 := below_on (Below.refl _ _).drew hb5'
        have HR5 := hid (HR1.out.later hb5)
        have S5 : cellsT W5 g (off + k * 11) t ∧ W5.heap[w.heap.size]? = some e.o := ⟨cellsT_later hc hb5, var_on hb5 K1.out hge⟩
        clear hb5' hHeld
        go_wp2_with fail
        refine hK7b.out _ _ S5 (fun hHeld => ?_)
        clear hK7b K7b
        try simp only [Act.put, List.setIfInBounds_toArray, List.set_cons_zero, List.set_cons_succ]
        refine wpAnyH_ready (rs := [8]) (by kernel_rfl) (by simp) (cons_at (i := 8) rfl (fun K8b hK8b => ?_) AllReadyH.nil)
        go_simp
        go_at_call 41
        with_reducible refine (WI _ HR5.out).mono ?_
        rintro x W6 ⟨p6, c6, rfl, hrow6, -, hb6⟩
        have hb16 := below_on hb5 hb6
        have S6 : cellsT W6 g (off + k * 11) t ∧ W6.heap[w.heap.size]? = some e.o := ⟨cellsT_later hc hb16, var_on hb16 K1.out hge⟩
        have HFIN := hid (show RefPost w M r true (.returned (.tuple #[.slice p6 r c6, .bool true])) W6 from ⟨p6, c6, rfl, hrow6, below_on hB1 hb16⟩)
        clear hrow6 hb6 hb5 hHeld
        go_wp2_with fail
        refine hK8b.out _ _ S6 (fun hHeld => ?_)
        clear hK8b K8b
        try simp only [Act.put, List.setIfInBounds_toArray, List.set_cons_zero, List.set_cons_succ]
        refine take_yes (i := 9) (v := ?v9b) rfl (by kernel_rfl) (by kernel_rfl) (by kernel_rfl) (fun _ _ _ h => h) (by rfl) ?hy9b hHeld ?rest9b
        case hy9b =>
          intro w' hSw
          obtain ⟨⟨s0, s1, s2, s3, s4, s5, s6, s7, s8, s9, s10⟩, s11⟩ := hSw
          have c9 := cells_at s11
          go_simp <;> with_reducible rfl
        try simp only [Act.put, List.setIfInBounds_toArray, List.set_cons_zero, List.set_cons_succ]
        refine take_yes (i := 10) (v := ?v10b) rfl (by kernel_rfl) (by kernel_rfl) (by kernel_rfl) (fun _ _ _ h => h) (by rfl) ?hy10b hHeld ?rest10b
        case hy10b =>
          intro w' hSw
          obtain ⟨⟨s0, s1, s2, s3, s4, s5, s6, s7, s8, s9, s10⟩, s11⟩ := hSw
          have c9 := cells_at s11
          go_simp <;> with_reducible rfl
        try simp only [Act.put, List.setIfInBounds_toArray, List.set_cons_zero, List.set_cons_succ]
        refine wpAnyH_done (by kernel_rfl) ?_ _
        go_wp2_with fail
        rw [← HQ.out]
        exact HFIN.out
      · have e1 : (e.k == 1) = false := by simp [k3]
        have e2 : (e.k == 2) = false := by simp [k3]
        have e3 : (e.k == 3) = true := by simp [k3]
        have hd := doE_3 hqi.out k3 hth.out
        have eM := H.out
        rw [hd] at eM
        simp only [Prod.mk.injEq] at eM
        obtain ⟨eM, rfl⟩ := eM
        have WO := fun (w : World) (hr : RowT w p L) => ref_without (cap := cap) hr hn (by omega) (show Hid (outT e.i L = M) from eM) hM
        have EM := hid eM
        clear hd k3 eM
        go_wp2_with fail
        refine (WO _ HR1.out).mono ?_
        rintro x w2 ⟨p2, c2, rfl, hrow, -, hb2⟩
        have HE := hid (show RefPost w M r true (.returned (.tuple #[.slice p2 r c2, .bool true])) w2 from ⟨p2, c2, rfl, hrow, below_on hB1 hb2⟩)
        clear hrow hb2 WO
        go_wp2_with fail
        rw [← HQ.out]
        exact HE.out
set_option maxRecDepth 100000 in
set_option maxHeartbeats 4000000 in
theorem refev_fold {w : World} {p q : Option Addr} {cap cap' n m r : Nat} {L M : List Th} {es : List Ev} {b : Bool} (h : Hid (foE L es = (M, b))) (hr : RowT w p L) (hR : Rise L) (hn : Hid (L.length = n)) (hl : n ≤ 400) (hq : RowE w q es) (hm : Hid (es.length = m)) (hl' : m ≤ 400) (hi : ∀ e ∈ es, inE e) (hM : Hid (M.length = r)) :
    Calls Try.prog 15 #[.slice p n cap, .slice q m cap'] w (RefPost w M r b) := by
  have HR := hid hr
  have HQ := hid hq
  have HI := hid hi
  have HRi := hid hR
  clear hr hq hi hR
  obtain ⟨Q, hQ0⟩ : ∃ Q, RefPost w M r b = Q := ⟨_, rfl⟩
  rw [hQ0]
  have HP := hid hQ0
  clear hQ0
  go_enter Try.func15, Try.ntmps15
  go_wp2_with fail
  go_loopw [6, 7] (fun v c wr => ∃ (k na : Nat) (pv : Option Addr) (cv : Nat) (A : List Th), k ≤ m ∧ c = .int .i64 k ∧ v = .slice pv na cv ∧ Hid (foE L es = foS L A (es.drop k)) ∧ Hid (Rise A) ∧ Hid (A.length = na) ∧ na ≤ n + k ∧ Hid (RowT wr pv A) ∧ Below w.heap.size w wr) (fun _ c _ => m - (intOf c).toNat)
  case atStart => exact ⟨0, n, p, cap, L, by omega, rfl, rfl, hid (by rw [List.drop_zero]; rfl), HRi, hn, by omega, HR, Below.refl _ _⟩
  case round =>
    obtain ⟨k, na, pv, cv, A, hk, rfl, rfl, HF, HA, HN, hna, HV, hb⟩ := hrel
    by_cases hlt : k < m
    · have hlt' : (k : Int) < (m : Int) := by omega
      obtain ⟨e, he⟩ := get_some es k (by rw [hm.out]; exact hlt)
      obtain ⟨bq, oq, rfl, hcc⟩ := (HQ.out.later hb).at he
      have HE := hid he
      have HG := hid hcc
      have hie := HI.out e (List.mem_of_getElem? he)
      clear he hcc
      obtain ⟨B, c, hd⟩ : ∃ B c, Hid (doE A e = (B, c)) := ⟨_, _, rfl⟩
      obtain ⟨nb, hnb⟩ : ∃ nb, Hid (B.length = nb) := ⟨_, rfl⟩
      have AP := fun (w : World) (hr : RowT w pv A) => refev_apply (cap := cv) hd hr HA.out HN (by omega) hie hnb
      go_wp2_with (with_reducible refine wpList_load_mid_ev rfl (.tmp 21) rfl rfl HG.out ?_)
      refine (AP _ HV.out).mono ?_
      rintro x w2 ⟨p2, c2, rfl, hrow, hb2⟩
      have hB2 := below_on hb hb2
      have HROW := hid hrow
      clear hrow hb2 hb AP HG
      cases c
      · have hfin := HF.out.symm.trans h.out
        rw [foS_stop HE.out hd.out] at hfin
        simp only [Prod.mk.injEq] at hfin
        obtain ⟨rfl, rfl⟩ := hfin
        have hrn : r = n := hM.out.symm.trans hn.out
        subst hrn
        have HEND := hid (show RefPost w L r false (.returned (.tuple #[.slice p r cap, .bool false])) w2 from ⟨p, cap, rfl, HR.out.later hB2, hB2⟩)
        go_wp2_with fail
        rw [← HP.out]
        exact HEND.out
      · have hF2 := hid (HF.out.trans (foS_step HE.out hd.out))
        have hA2 := hid (doE_rise HA.out hd.out)
        have hlen := doE_len HA.out hd.out
        rw [hnb.out, HN.out] at hlen
        go_wp2_with fail
        go_roundw
        case rel => exact ⟨k + 1, nb, p2, c2, B, by omega, by go_num, rfl, hF2, hA2, hnb, by omega, HROW, hB2⟩
        case measure => simp [intOf]; omega
    · obtain rfl : k = m := by omega
      have hlt' : ¬ (k : Int) < (k : Int) := by omega
      have hfin := HF.out.symm.trans h.out
      rw [foS_end (by rw [hm.out]; exact Nat.le_refl _)] at hfin
      simp only [Prod.mk.injEq] at hfin
      obtain ⟨rfl, rfl⟩ := hfin
      have hrn : r = na := hM.out.symm.trans HN.out
      subst hrn
      have HEND := hid (show RefPost w A r true (.returned (.tuple #[.slice pv r cv, .bool true])) wr from ⟨pv, cv, rfl, HV.out, hb⟩)
      go_wp2_with fail
      rw [← HP.out]
      exact HEND.out
end Go.Proofs.Ytkklchobiiajgaa
