/- For every row of things, every command, every number: what Do did of the table that Of makes of the row is so, nobody else is changed, and what was refused changed nothing. No conditions. -/
import Derived.Test.YthmnbphpjmfckaaGreatDoorKnown11
import Derived.Test.YthmnbphpjmfckaaGreatDoorAcT
import Derived.Test.YthmnbphpjmfckaaGreatDoorAcD
import Derived.Test.YthmnbphpjmfckaaGreatDoorCO
import Derived.Test.YthmnbphpjmfckaaGreatDoorCF
import Derived.Test.YthmnbphpjmfckaaGreatDoorTbS
import Derived.Test.YthmnbphpjmfckaaGreatDoorLaid
import Derived.Test.YthmnbphpjmfckaaGreatDoorCards
import Derived.Test.YthmnbphpjmfckaaGreatDoorTie
import Derived.SevenTiedAt
import Derived.ProofKit
import Derived.OpenShut
import Derived.ShutString
import Derived.ChangeOld
import Derived.Below
import Derived.SizedLaws
namespace Go.Proofs.YthmnbphpjmfckaaGreatDoor
open Go.ChangeShapes Go.WideShapes Go.ChangeAt Go.RowKit
open Go.ChangeMaps (open_string shut_string)
set_option linter.unusedVariables false

set_option maxRecDepth 100000 in
set_option maxHeartbeats 8000000 in
theorem actDoes_walk (w : World) (hL : Masks w) (a0 : Option Addr) (cap0 : Nat) (L0 : List Th) (i0 : ∀ t ∈ L0, inT t) (r0 : RowT w a0 L0) (c0 : L0.length ≤ cap0) (m0 : cap0 ≤ maxLen) (a1 : Cm) (w1 : inC a1) (a2 : Int) (w2 : (Lit.int .i64 a2).wf = true) :
    Calls Tryz.prog 4 #[.slice a0 L0.length cap0, a1.v, .int .i64 a2] w fun e w' => e = .returned (.bool true) ∧ Below w.heap.size w w' := by
  have HI2 := hid (show inI a2 from i64_bounds w2)
  obtain ⟨W, hW⟩ : ∃ W, W = w.alloc a1.o := ⟨_, rfl⟩
  have hB : Below w.heap.size w W := by rw [hW]; exact below1 _ _
  have K1 := hid (show W.heap[w.heap.size]? = some a1.o by rw [hW]; exact new_at _ _ _ rfl)
  have HM := hid (hL.below hB)
  have HR := hid (r0.later hB)
  have HI := hid i0
  have HC := hid w1
  have CK := known11 W HM.out
  obtain ⟨n, hn⟩ : ∃ n, Hid (L0.length = n) := ⟨_, rfl⟩
  have hm : n ≤ maxLen := by rw [← hn.out]; omega
  obtain ⟨q, hq⟩ : ∃ q, Hid (fewL L0 = q) := ⟨_, rfl⟩
  obtain ⟨q2, hq2⟩ : ∃ q, Hid (fewC a1 = q) := ⟨_, rfl⟩
  obtain ⟨L, hLL⟩ : ∃ L, Hid (ofT L0 = L) := ⟨_, rfl⟩
  rw [hn.out]
  clear c0 m0 hL r0 i0 w1 w2
  go_enter Tryz.func4, Tryz.ntmps4
  go_upto_region 1 with fail
  rw [← hW]
  clear hW
  go_wp2_with fail
  refine CK.mono ?_
  rintro z W0 ⟨rfl, hb0⟩
  have HM0 := hid (HM.out.below hb0)
  have HR0 := hid (HR.out.later hb0)
  have K0 := hid (var_on hb0 K1.out (lt_of_at K1.out))
  have hB0 := below_on hB hb0
  clear CK HM HR K1 hB hb0
  have CF := few_things W0 a0 cap0 L0 HR0.out HI.out (by rw [hn.out]; exact hm)
  rw [hn.out, hq.out] at CF
  go_wp2_with fail
  with_reducible refine CF.mono ?_
  rintro z W1 ⟨rfl, hb1⟩
  have HM1 := hid (HM0.out.below hb1)
  have HR1 := hid (HR0.out.later hb1)
  have K1 := hid (var_on hb1 K0.out (lt_of_at K0.out))
  have hB1 := below_on hB0 hb1
  clear CF HM0 HR0 K0 hB0 hb1
  cases q
  · go_wp2_with fail
    go_ret
    exact ⟨rfl, hB1⟩
  · have CF := few_cmd W1 a1 (in_sized HC.out)
    rw [hq2.out] at CF
    go_wp2_with (with_reducible refine wpList_load_cmG rfl (.tmp 4) rfl rfl K1.out ?_)
    with_reducible refine CF.mono ?_
    rintro z W2 ⟨rfl, hb2⟩
    have HM2 := hid (HM1.out.below hb2)
    have HR2 := hid (HR1.out.later hb2)
    have K2 := hid (var_on hb2 K1.out (lt_of_at K1.out))
    have hB2 := below_on hB1 hb2
    clear CF HM1 HR1 K1 hB1 hb2
    cases q2
    · go_wp2_with fail
      go_ret
      exact ⟨rfl, hB2⟩
    · go_wp2_with fail
      with_reducible refine (tk_of HM2.out HR2.out hn hm HI hLL).mono ?_
      rintro z W3 ⟨tb, rfl, T3⟩
      have hG := hid T3.good
      obtain ⟨m, hmL⟩ : ∃ m, Hid (L.length = m) := ⟨_, rfl⟩
      have hml : m ≤ 200 := by rw [← hmL.out]; exact hG.out.len
      obtain ⟨L', hL'⟩ : ∃ L', Hid (doL L a1 a2 = L') := ⟨_, rfl⟩
      obtain ⟨m', hm'⟩ : ∃ m', Hid (L'.length = m') := ⟨_, rfl⟩
      obtain ⟨N, hN⟩ : ∃ N, Hid (doN L a1 a2 = N) := ⟨_, rfl⟩
      obtain ⟨E, hE⟩ : ∃ E, Hid (doE L a1 a2 = E) := ⟨_, rfl⟩
      have hG' : Hid (Good L') := by show Good L'; rw [← hL'.out]; exact do_good hG.out HC.out a2
      have hml' : m' ≤ 200 := by rw [← hm'.out]; exact hG'.out.len
      clear HM2 HR2 hLL hn hm hq hq2 HI
      go_wp2_with fail
      with_reducible refine (tk_all2 T3 hmL).mono ?_
      rintro z W4 ⟨p4, c4, rfl, R4, T4, hb4⟩
      have K4 := hid (var_on T4.below K2.out (lt_of_at K2.out))
      have HR4 := hid R4
      have HT4 := hid T4
      clear T3 hb4 R4 T4
      go_wp2_with (with_reducible refine wpList_load_cm rfl (.tmp 4) rfl rfl K4.out ?_)
      refine (act_do HT4.out HC.out HI2.out hN hE hL').mono ?_
      rintro z W5 ⟨rfl, T5, hK5⟩
      have HR5 := hid (HR4.out.kept hK5 (fun k hk => List.mem_append_left _ hk))
      have HT5 := hid T5
      clear HT4 HR4 K4 T5 hK5
      go_wp2_with fail
      with_reducible refine (tk_all HT5.out hm').mono ?_
      rintro z W6 ⟨p6, c6, rfl, R6, hb6⟩
      have HS6 := hid R6
      have HR6 := hid (HR5.out.later hb6)
      have HT6 := hid (HT5.out.later hb6)
      have hB6 := below_on hB2 HT6.out.below
      clear HT5 HR5 R6 hb6
      by_cases he : E = 0
      · subst he
        have e0 : ((0 : Int) != 0) = false := by decide
        obtain ⟨hc0, hcb⟩ := do_won hG.out hE.out
        obtain ⟨-, d2, d3⟩ := do_ok hG.out hc0 hcb
        have HN : Hid (whoI a1 a2 = N) := d2.symm.trans hN.out
        have HL : Hid (newL L a1 a2 = L') := d3.symm.trans hL'.out
        have hcm := (chk_kinds hc0).1
        have hkk := hid (chk_kinds hc0).2
        have hC0 := hid hc0
        have hCB := hid hcb
        have hid3 := isC_id hcm
        have HIN : Hid (inI N) := by
          show inI N
          rw [← HN.out]; unfold whoI
          split
          · exact HI2.out
          · exact ⟨by omega, by omega⟩
        obtain ⟨M, hM⟩ : ∃ M, Hid (outT N L = M) := ⟨_, rfl⟩
        have hM' : Hid (outT N L' = M) := by
          show _ = _
          rw [← HL.out, ← HN.out, new_out hc0, HN.out]; exact hM.out
        obtain ⟨k, hk⟩ : ∃ k, Hid (M.length = k) := ⟨_, rfl⟩
        have hk9 : k ≤ 200 := by
          rw [← hk.out, ← hM.out]
          exact Nat.le_trans (out_length N L) hG.out.len
        obtain ⟨t, ht⟩ : ∃ t, Hid ((findT N L').getD zT = t) := ⟨_, rfl⟩
        obtain ⟨u, hu⟩ : ∃ u, Hid (hasT N L' = u) := ⟨_, rfl⟩
        obtain ⟨a, ha⟩ : ∃ a, Hid (atI N L = a) := ⟨_, rfl⟩
        clear hc0 hcb d2 d3 hcm hid3 hL' hN hE
        go_wp2_with fail
        with_reducible refine (tk_get HT6.out HIN.out ht hu).mono ?_
        rintro z W7 ⟨rfl, hb7⟩
        obtain ⟨W8, hW8⟩ : ∃ W8, W7.alloc t.o = W8 := ⟨_, rfl⟩
        have hb8 : Below W6.heap.size W6 W8 := by rw [← hW8]; exact hb7.alloc hb7.size _
        have J8 := hid (show W8.heap[W7.heap.size]? = some t.o by rw [← hW8]; exact new_at _ _ _ rfl)
        have HS8 := hid (HS6.out.later hb8)
        have HR8 := hid (HR6.out.later hb8)
        have hB8 := below_on hB6 hb8
        have K8 := hid (var_on (HT6.out.later hb8).below K2.out (lt_of_at K2.out))
        unfold Th.o at hW8
        have HW8 := hid hW8
        clear hW8 hb7 hb8 hB6 HS6 HR6 HT6
        go_upto_region 12 with fail
        rw [HW8.out]
        clear HW8
        obtain ⟨g, hgg⟩ : ∃ g, W7.heap.size = g := ⟨_, rfl⟩
        rw [hgg] at J8 ⊢
        clear hgg
        go_wp2_with fail
        with_reducible refine (ref_at6 (cap := c4) HR8.out hmL (by omega) ha).mono ?_
        rintro z W9 ⟨rfl, hw9⟩
        rw [hw9]
        clear hw9 W9
        go_wp2_with fail
        with_reducible refine (ref_without (cap := c4) HR8.out hmL (by omega) hM hk).mono ?_
        rintro z W9 ⟨p9, c9, rfl, R9, -, hb9⟩
        have HS9 := hid (HS8.out.later hb9)
        have HR9 := hid (HR8.out.later hb9)
        have HQ9 := hid R9
        have J9 := hid (var_on hb9 J8.out (lt_of_at J8.out))
        have K9 := hid (var_on hb9 K8.out (lt_of_at K8.out))
        have hB9 := below_on hB8 hb9
        clear HS8 HR8 R9 J8 K8 hb9 hB8
        go_wp2_with fail
        with_reducible refine (ref_without (cap := c6) HS9.out hm' (by omega) hM' hk).mono ?_
        rintro z W10 ⟨p10, c10, rfl, R10, -, hb10⟩
        have HR10 := hid (HR9.out.later hb10)
        have HQ10 := hid (HQ9.out.later hb10)
        have J10 := hid (var_on hb10 J9.out (lt_of_at J9.out))
        have K10 := hid (var_on hb10 K9.out (lt_of_at K9.out))
        have hB10 := below_on hB9 hb10
        clear HS9 HR9 HQ9 J9 K9 hb10 hB9
        go_wp2_with fail
        with_reducible refine (same_rows HQ10.out R10 hk (by omega)).mono ?_
        rintro z W11 ⟨rfl, hb11⟩
        have HR11 := hid (HR10.out.later hb11)
        have J11 := hid (var_on hb11 J10.out (lt_of_at J10.out))
        have K11 := hid (var_on hb11 K10.out (lt_of_at K10.out))
        have hB11 := below_on hB10 hb11
        clear HR10 HQ10 R10 J10 K10 hb11 hB10
        have n0 : W11.cell? ⟨w.heap.size, 0, none⟩ = some (.int .i64 a1.kd) := cell_i K11.out (k := 0) (by simp [plI])
        rcases hkk.out with hkd | hkd | hkd | hkd
        · have hN2 : a2 = N := by rw [← HN.out]; unfold whoI; rw [if_pos hkd]
          subst hN2
          obtain ⟨f1, f2⟩ := new_put hG.out.rise (L := L) (id := a2) hkd
          rw [HL.out] at f1 f2
          obtain rfl : true = u := f1.symm.trans hu.out
          have f3 : t = putT a1 a2 := ht.out.symm.trans f2
          have hhas : hasT a2 L = false := by
            have := hCB.out
            unfold badI at this
            simp [hkd] at this
            simpa using this.2.2
          obtain rfl : -1 = a := (atI_not hhas).symm.trans ha.out
          have e1 : ((a1.kd : Int) == 1) = true := by simp [hkd]
          have i1 : (-1 : Int) < 0 := by decide
          have hQ := equal_th_at (show eqT t ⟨a2, a1.x, a1.y, a1.f0, a1.f1, a1.f2, a1.f3⟩ = true by rw [f3]; exact eqT_self _)
          have cJ := cells_at J11.out
          have cK := cells_at K11.out
          clear f1 f2 f3 hhas hkd HL HN hkk hC0 hCB
          go_wp2_with fail
          go_ret
          exact ⟨rfl, hB11⟩
        · have hN2 : a1.id = N := by rw [← HN.out]; unfold whoI; rw [if_neg (by omega)]
          have hh := (chk_move0 hC0.out hkd).2.1
          obtain ⟨f1, f2⟩ := new_move hG.out.rise (L := L) (id := a2) hkd hh
          rw [HL.out, hN2] at f1 f2
          rw [hN2] at hh
          obtain rfl : true = u := f1.symm.trans hu.out
          obtain ⟨k, s, hk1, hk2, hk3⟩ := atI_has hh
          obtain rfl : (k : Int) = a := hk1.symm.trans ha.out
          have f3 : t = movT s a1 := by
            rw [← ht.out, show (findT N L').getD zT = thOf L' N from rfl, f2]; unfold thOf; rw [hk3]; rfl
          have e1 : ((a1.kd : Int) == 1) = false := by simp [hkd]
          have e2 : ((a1.kd : Int) == 2) = true := by simp [hkd]
          have d1 : decide ((0 : Int) ≤ (k : Int)) = true := by simp
          have hkm : k < m := by rw [← hmL.out]; exact (List.getElem?_eq_some_iff.1 hk2).1
          have j1 : (0 : Int) ≤ (k : Int) := by omega
          have j2 : (k : Int) < (m : Int) := by omega
          obtain ⟨b, off, rfl, hcl⟩ := HR11.out.at hk2
          have hQ1 : ∀ W, (Op.equalIn 10000 24 (pt t.x t.y) (pt a1.x a1.y)).run Tryz.prog W = .ok true W := fun W => by rw [equal_pt, f3]; simp [movT, pEq]
          have hQ2 : ∀ W, (Op.equalIn 10000 27 (.agg #[.int .i64 t.f0.n, .string t.f0.s, .int .i64 t.f1.n, .string t.f1.s, .int .i64 t.f2.n, .string t.f2.s, .int .i64 t.f3.n, .string t.f3.s]) (.agg #[.int .i64 s.f0.n, .string s.f0.s, .int .i64 s.f1.n, .string s.f1.s, .int .i64 s.f2.n, .string s.f2.s, .int .i64 s.f3.n, .string s.f3.s])).run Tryz.prog W = .ok true W := fun W => by rw [equal_fs10, f3]; simp [movT, eqF_self]
          have cJ := cells_at J11.out
          have n4 : W11.cell? ⟨w.heap.size, 4, none⟩ = some (.int .i64 a1.x) := cell_i K11.out (k := 4) (by simp [plI])
          have n5 : W11.cell? ⟨w.heap.size, 5, none⟩ = some (.int .i64 a1.y) := cell_i K11.out (k := 5) (by simp [plI])
          clear f1 f2 f3 hh hkd HL HN hkk hC0 hCB hk1 hk2 hk3 hkm
          go_wp2_with fail
          go_quiet (fail)
          go_wp2_with fail
          go_ret
          exact ⟨rfl, below_drewN hB11 _⟩
        · have hN2 : a1.id = N := by rw [← HN.out]; unfold whoI; rw [if_neg (by omega)]
          have hh := (chk_set0 hC0.out hkd).2
          have hwh := chk_wh hC0.out hkd
          obtain ⟨f1, f2⟩ := new_set hG.out.rise (L := L) (id := a2) hkd hh
          rw [HL.out, hN2] at f1 f2
          rw [hN2] at hh
          obtain rfl : true = u := f1.symm.trans hu.out
          obtain ⟨k, s, hk1, hk2, hk3⟩ := atI_has hh
          obtain rfl : (k : Int) = a := hk1.symm.trans ha.out
          have f3 : t = setT s a1.wh a1.va := by
            rw [← ht.out, show (findT N L').getD zT = thOf L' N from rfl, f2]; unfold thOf; rw [hk3]; rfl
          have e1 : ((a1.kd : Int) == 1) = false := by simp [hkd]
          have e2 : ((a1.kd : Int) == 2) = false := by simp [hkd]
          have e3 : ((a1.kd : Int) == 3) = true := by simp [hkd]
          have d1 : decide ((0 : Int) ≤ (k : Int)) = true := by simp
          have hkm : k < m := by rw [← hmL.out]; exact (List.getElem?_eq_some_iff.1 hk2).1
          have j1 : (0 : Int) ≤ (k : Int) := by omega
          have j2 : (k : Int) < (m : Int) := by omega
          obtain ⟨b, off, rfl, hcl⟩ := HR11.out.at hk2
          have cJ := cells_at J11.out
          have n14 : W11.cell? ⟨w.heap.size, 14, none⟩ = some (.int .i64 a1.va.n) := (cell_f K11.out (k := 14) (by simp [atF])).1
          have n15 : W11.cell? ⟨w.heap.size, 15, none⟩ = some (.string a1.va.s) := (cell_f K11.out (k := 14) (by simp [atF])).2
          have hw4 : a1.wh = 0 ∨ a1.wh = 1 ∨ a1.wh = 2 ∨ a1.wh = 3 := by omega
          rcases hw4 with hw | hw | hw | hw
          · have n2 : W11.cell? ⟨w.heap.size, 2, none⟩ = some (.int .i64 0) := by rw [← hw]; exact cell_i K11.out (k := 2) (by simp [plI])
            have hQ1 : ∀ W, (Op.equalIn 10000 24 (pt t.x t.y) (pt s.x s.y)).run Tryz.prog W = .ok true W := fun W => by rw [equal_pt, f3, hw]; simp [setT, pEq]
            have hQ2 : ∀ W, (Op.equalIn 10000 26 t.f0.v a1.va.v).run Tryz.prog W = .ok true W := fun W => by rw [equal_fl10, f3, hw]; simp [setT, eqF_self]
            clear f1 f2 f3 hh hkd HL HN hkk hC0 hCB hk1 hk2 hk3 hkm hw hwh
            go_wp2_with fail
            go_quiet (fail)
            go_wp2_with fail
            go_ret
            exact ⟨rfl, below_drewN hB11 _⟩
          · have n2 : W11.cell? ⟨w.heap.size, 2, none⟩ = some (.int .i64 1) := by rw [← hw]; exact cell_i K11.out (k := 2) (by simp [plI])
            have hQ1 : ∀ W, (Op.equalIn 10000 24 (pt t.x t.y) (pt s.x s.y)).run Tryz.prog W = .ok true W := fun W => by rw [equal_pt, f3, hw]; simp [setT, pEq]
            have hQ2 : ∀ W, (Op.equalIn 10000 26 t.f1.v a1.va.v).run Tryz.prog W = .ok true W := fun W => by rw [equal_fl10, f3, hw]; simp [setT, eqF_self]
            clear f1 f2 f3 hh hkd HL HN hkk hC0 hCB hk1 hk2 hk3 hkm hw hwh
            go_wp2_with fail
            go_quiet (fail)
            go_wp2_with fail
            go_ret
            exact ⟨rfl, below_drewN hB11 _⟩
          · have n2 : W11.cell? ⟨w.heap.size, 2, none⟩ = some (.int .i64 2) := by rw [← hw]; exact cell_i K11.out (k := 2) (by simp [plI])
            have hQ1 : ∀ W, (Op.equalIn 10000 24 (pt t.x t.y) (pt s.x s.y)).run Tryz.prog W = .ok true W := fun W => by rw [equal_pt, f3, hw]; simp [setT, pEq]
            have hQ2 : ∀ W, (Op.equalIn 10000 26 t.f2.v a1.va.v).run Tryz.prog W = .ok true W := fun W => by rw [equal_fl10, f3, hw]; simp [setT, eqF_self]
            clear f1 f2 f3 hh hkd HL HN hkk hC0 hCB hk1 hk2 hk3 hkm hw hwh
            go_wp2_with fail
            go_quiet (fail)
            go_wp2_with fail
            go_ret
            exact ⟨rfl, below_drewN hB11 _⟩
          · have n2 : W11.cell? ⟨w.heap.size, 2, none⟩ = some (.int .i64 3) := by rw [← hw]; exact cell_i K11.out (k := 2) (by simp [plI])
            have hQ1 : ∀ W, (Op.equalIn 10000 24 (pt t.x t.y) (pt s.x s.y)).run Tryz.prog W = .ok true W := fun W => by rw [equal_pt, f3, hw]; simp [setT, pEq]
            have hQ2 : ∀ W, (Op.equalIn 10000 26 t.f3.v a1.va.v).run Tryz.prog W = .ok true W := fun W => by rw [equal_fl10, f3, hw]; simp [setT, eqF_self]
            clear f1 f2 f3 hh hkd HL HN hkk hC0 hCB hk1 hk2 hk3 hkm hw hwh
            go_wp2_with fail
            go_quiet (fail)
            go_wp2_with fail
            go_ret
            exact ⟨rfl, below_drewN hB11 _⟩
        · have hN2 : a1.id = N := by rw [← HN.out]; unfold whoI; rw [if_neg (by omega)]
          have hh := (chk_drop0 hC0.out hkd).2
          have f1 := new_drop (L := L) (c := a1) (id := a2) hkd
          rw [HL.out, hN2] at f1
          rw [hN2] at hh
          obtain rfl : false = u := f1.symm.trans hu.out
          obtain ⟨k, s, hk1, hk2, hk3⟩ := atI_has hh
          obtain rfl : (k : Int) = a := hk1.symm.trans ha.out
          have e1 : ((a1.kd : Int) == 1) = false := by simp [hkd]
          have e2 : ((a1.kd : Int) == 2) = false := by simp [hkd]
          have e3 : ((a1.kd : Int) == 3) = false := by simp [hkd]
          have j1 : (0 : Int) ≤ (k : Int) := by omega
          clear f1 hh hkd HL HN hkk hC0 hCB hk1 hk2 hk3
          go_wp2_with fail
          go_ret
          exact ⟨rfl, hB11⟩
      · obtain ⟨d1, d2⟩ := do_fail hG.out (c := a1) (id := a2) (by rw [hE.out]; exact he)
        obtain rfl : 0 = N := d1.symm.trans hN.out
        obtain rfl : L = L' := d2.symm.trans hL'.out
        obtain rfl : m = m' := hmL.out.symm.trans hm'.out
        have e0 : ((E : Int) != 0) = true := by simp [he]
        clear d1 d2 he hE hN hL'
        go_wp2_with fail
        with_reducible refine (same_rows HR6.out HS6.out hmL (by omega)).mono ?_
        rintro z W7 ⟨rfl, hb7⟩
        go_wp2_with fail
        go_ret
        exact ⟨rfl, below_on hB6 hb7⟩

theorem actDoes_own : ownKnob Tryz.prog.godebug = none := by kernel_rfl
theorem actDoes_laidOut : laidOutB Tryz.prog = true := by kernel_rfl
set_option maxRecDepth 100000 in
theorem actDoes_lifted (os : Os) (started : os.Started) (H : Type) (enc : TypeId × Value → H) :
    ReturnsInHanded {} Tryz.checked os 4 .any (fun w args => (Rows.actDoesSpec.pre enc Tryz.prog Tryz.f4 [] false w args ∧ laidMetH Tryz.prog laids w) ∧ sizedMet enc Tryz.prog Tryz.f4 (OpenSpec.ofChange Rows.actDoesSpec) false w args) (Rows.actDoesSpec.post enc Tryz.prog Tryz.f4 false true false false) := by
  refine returnsInHanded_of_change_and (C := Tryz.checked) (X := fun w _ => laidMetH Tryz.prog laids w) (fun _ _ _ hh h => h.of_heap hh) own_knob started (by kernel_rfl) Tryz.func4
    (ChangeSpec.witness_shaped (enc := enc) (C := Tryz.checked) (os := os) (X := fun w _ => laidMetH Tryz.prog laids w) false (World.laidAll Tryz.prog os laids) #[.slice none 0 0, .agg #[.int .i64 0, .int .i64 0, .int .i64 0, .int .i64 0, .int .i64 0, .int .i64 0, .int .i64 0, .string ByteArray.empty, .int .i64 0, .string ByteArray.empty, .int .i64 0, .string ByteArray.empty, .int .i64 0, .string ByteArray.empty, .int .i64 0, .string ByteArray.empty, .int .i64 0, .int .i64 0, .int .i64 0, .int .i64 0, .int .i64 0, .int .i64 0], .int .i64 0] 8 rfl (World.shaped_of_ZipB (by kernel_rfl) (by kernel_rfl)) (by kernel_rfl) (by kernel_rfl) (by kernel_rfl) (door_met os _)) ?_
  intro W base args ds gs before hval0 hW _ _ hL _
  have hval : ∀ (j : Nat) t v, Tryz.f4.params[j]? = some t → args[j]? = some v → Value.okWide Tryz.prog W .any base t v := hval0
  have hW' := hW
  obtain ⟨p, q, hA0, hV, rfl, hfz, hnd⟩ := hW
  have hA : DataW.TrodAll enc Tryz.prog W 0 (fun _ => true) true Tryz.f4.params.toList args.toList ds p := hA0
  rw [Tryz.params4] at hA hval
  obtain ⟨v0, vs0, d0, ds0, p0, q0, hargs, rfl, rfl, h0, r0⟩ := trodAll_cons hA
  obtain ⟨v1, vs1, d1, ds1, p1, q1, rfl, rfl, rfl, h1, r1⟩ := trodAll_cons r0
  obtain ⟨v2, vs2, d2, ds2, p2, q2, rfl, rfl, rfl, h2, r2⟩ := trodAll_cons r1
  obtain ⟨rfl, rfl, rfl⟩ := trodAll_nil r2
  obtain rfl : args = #[v0, v1, v2] := by cases args; simp_all
  obtain ⟨rfl, rfl⟩ := trodVars_none hV
  have k0 := h0
  have lt0 : ∀ x ∈ p0, x.block < W.heap.size := by obtain ⟨m, hm⟩ := k0; exact DataW.trod_lt m _ _ _ hm
  have k1 := h1
  have lt1 : ∀ x ∈ p1, x.block < W.heap.size := by obtain ⟨m, hm⟩ := k1; exact DataW.trod_lt m _ _ _ hm
  have k2 := h2
  have lt2 : ∀ x ∈ p2, x.block < W.heap.size := by obtain ⟨m, hm⟩ := k2; exact DataW.trod_lt m _ _ _ hm
  obtain ⟨a0, cap0, L0, rfl, i0, r0', c0, m0⟩ := open_ths (hval 0 22 v0 rfl rfl) h0
  obtain ⟨a1, rfl, w1⟩ := open_cm (hval 1 31 v1 rfl rfl) h1
  obtain ⟨a2, rfl, rfl, rfl, w2⟩ := open_int Tryz.underlying3 (hval 2 3 v2 rfl rfl) h2
  clear hA0 hval0
  refine (actDoes_walk W (of_laid hL) a0 cap0 L0 i0 r0' c0 m0 a1 w1 a2 w2).mono fun e W' ⟨he, bel⟩ => ?_
  subst he
  exact ⟨_, rfl, _, _, _, [], _, [], hW', trodAll_mk1 (shut_bool Tryz.underlying4 _), (trodAll_cons_mk (Below.trod actDoes_laidOut (by kernel_rfl) (of_decide_eq_true (by kernel_rfl)) k0 bel lt0) (trodAll_cons_mk (Below.trod actDoes_laidOut (by kernel_rfl) (of_decide_eq_true (by kernel_rfl)) k1 bel lt1) (trodAll_cons_mk (Below.trod actDoes_laidOut (by kernel_rfl) (of_decide_eq_true (by kernel_rfl)) k2 bel lt2) trodAll_mk0))), rfl, bel.frame _, fun h => by cases h⟩

theorem actDoes_over : Rows.actDoesRow.holds Tryz.pinned (OpenSpec.ofChange Rows.actDoesSpec) :=
  OpenClaim.holds_of_wide 4 Tryz.f4 rfl rfl rfl rfl rfl rfl rfl ⟨rfl, rfl, rfl, rfl, rfl⟩ rfl rfl rfl rfl rfl (by kernel_rfl) Tryz.func4 (by kernel_rfl)
    (of_decide_eq_true (by kernel_rfl)) (by unfold Func.isWrapper; first | (rw [if_pos (by decide +kernel)]; kernel_rfl) | (rw [if_neg (by decide +kernel)]; exact ⟨rfl, rfl⟩))
    (fun os started H enc _ => actDoes_lifted os started H enc)

theorem actDoes_holds : Rows.ActDoesCardSaid :=
  Claim7.holds_tied_plain_at .later [] [.data] true (true, "1919ae3e01ed290595ecd728dedadbf3595aed4e12085d5cd48cf18869062282") false
    actDoes_over (fun _ h => by cases h) (by kernel_rfl) (fun _ h => by cases h) actDoes_row_tie rfl ⟨rfl, rfl⟩ (by kernel_rfl) rfl
    (fun f fn hf hfn => by
      obtain rfl : f = 4 := Option.some.inj ((show Tryz.prog.funcNamed "vedette/vedettelaw11.ActDoes" = some 4 by kernel_rfl).symm.trans hf) |>.symm
      obtain rfl : fn = Tryz.f4 := (Option.some.inj (Tryz.func4.symm.trans hfn)).symm
      exact ⟨by kernel_rfl, fun j t ht => by
        rw [Tryz.params4] at ht
        have hm : t ∈ [22, 31, 3] := by simpa using Array.mem_of_getElem? ht
        have hall : ([22, 31, 3].all fun u => !Tryz.prog.wantsStandIn u) = true := by kernel_rfl
        exact (show Tryz.prog.wantsStandIn t = false by simpa using List.all_eq_true.1 hall t hm)⟩)
    (by kernel_rfl)
#print axioms actDoes_holds
end Go.Proofs.YthmnbphpjmfckaaGreatDoor
