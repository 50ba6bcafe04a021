/- For every row of at most 30 small commands with their numbers and every two small commands of unlike things: done behind them in either order they tell the same and leave the same things. No conditions. -/
import Derived.Test.YtfoncphdbaaedaaGreatDoorWdB
import Derived.Test.YtfoncphdbaaedaaGreatDoorKnown12
import Derived.Test.YtfoncphdbaaedaaGreatDoorAcT
import Derived.Test.YtfoncphdbaaedaaGreatDoorCO
import Derived.Test.YtfoncphdbaaedaaGreatDoorCR
import Derived.Test.YtfoncphdbaaedaaGreatDoorRI
import Derived.Test.YtfoncphdbaaedaaGreatDoorCF
import Derived.Test.YtfoncphdbaaedaaGreatDoorLaid
import Derived.Test.YtfoncphdbaaedaaGreatDoorCards
import Derived.Test.YtfoncphdbaaedaaGreatDoorTie
import Derived.SevenTiedAt
import Derived.ProofKit
import Derived.OpenShut
import Derived.ShutString
import Derived.ChangeOld
import Derived.Below
import Derived.SizedLaws
namespace Go.Proofs.YtfoncphdbaaedaaGreatDoor
open Go.ChangeShapes Go.WideShapes Go.ChangeAt Go.RowKit
open Go.ChangeMaps (open_string shut_string)
set_option linter.unusedVariables false

set_option maxRecDepth 100000 in
set_option maxHeartbeats 8000000 in
theorem worldApart_walk (w : World) (hL : Masks w) (a0 : Option Addr) (cap0 : Nat) (L0 : List Cm) (i0 : ∀ c ∈ L0, inC c) (r0 : RowM w a0 L0) (c0 : L0.length ≤ cap0) (m0 : cap0 ≤ maxLen) (a1 : Option Addr) (len1 cap1 : Nat) (ts1 : List Int) (ht1 : ts1.length = len1) (hb1 : ∀ n ∈ ts1, (Lit.int .i64 n).wf = true) (hr1 : RowIs w a1 (nums .i64 ts1)) (hl1 : len1 ≤ maxLen) (a2 : Cm) (w2 : inC a2) (a3 : Cm) (w3 : inC a3) (a4 : Int) (w4 : (Lit.int .i64 a4).wf = true) (a5 : Int) (w5 : (Lit.int .i64 a5).wf = true) :
    Calls Tryz.prog 4 #[.slice a0 L0.length cap0, .slice a1 len1 cap1, a2.v, a3.v, .int .i64 a4, .int .i64 a5] w fun e w' => e = .returned (.bool true) ∧ Below w.heap.size w w' := by
  have I4 := hid (inI_wf w4)
  have I5 := hid (inI_wf w5)
  have HI1 := hid (show ∀ i ∈ ts1, inI i from fun i hi => inI_wf (hb1 i hi))
  have HT1 := hid ht1
  obtain ⟨W, hW⟩ : ∃ W, W = (w.alloc a2.o).alloc a3.o := ⟨_, rfl⟩
  have hB : Below w.heap.size w W := by rw [hW]; exact Go.Joins.below_alloc2 _ _ _
  have hsz : w.heap.size + 1 < W.heap.size := by rw [hW]; simp
  obtain ⟨ba, hba⟩ : ∃ ba, w.heap.size = ba := ⟨_, rfl⟩
  obtain ⟨bb, hbb⟩ : ∃ bb, ba + 1 = bb := ⟨_, rfl⟩
  have KA := hid (show W.heap[ba]? = some a2.o by rw [hW, ← hba]; exact old_at (new_at _ _ _ rfl) _)
  have KB := hid (show W.heap[bb]? = some a3.o by rw [hW, ← hbb, ← hba]; exact new_at _ _ _ (by simp))
  have HM := hid (hL.below hB)
  have HR := hid (r0.later hB)
  have HQ := hid (hr1.later hB)
  have HI := hid i0
  have HC2 := hid w2
  have HC3 := hid w3
  have CK := known12 W HM.out
  obtain ⟨n, hn⟩ : ∃ n, Hid (L0.length = n) := ⟨_, rfl⟩
  have hm : n ≤ maxLen := by rw [← hn.out]; omega
  have hm' : n ≤ 9223372036854775807 := hm
  obtain ⟨q2, hq2⟩ : ∃ q, Hid (fewC a2 = q) := ⟨_, rfl⟩
  obtain ⟨q3, hq3⟩ : ∃ q, Hid (fewC a3 = q) := ⟨_, rfl⟩
  rw [hn.out]
  clear c0 m0 hL r0 i0 w2 w3 w4 w5 hb1 hr1 ht1
  go_enter Tryz.func4, Tryz.ntmps4
  go_upto_region 1 with fail
  try rw [← hW]
  try rw [hba]
  try rw [hbb]
  clear hW
  go_wp2_with fail
  refine CK.mono ?_
  rintro z W0 ⟨rfl, hb0⟩
  have HM0 := hid (HM.out.below hb0)
  have HR0 := hid (HR.out.later hb0)
  have HQ0 := hid (HQ.out.later hb0)
  have KA0 := hid (var_on hb0 KA.out (lt_of_at KA.out))
  have KB0 := hid (var_on hb0 KB.out (lt_of_at KB.out))
  have hB0 := below_on hB hb0
  clear CK HM HR HQ KA KB hB hb0 hsz
  by_cases h30 : 30 < n
  · have h30' : decide ((30 : Int) < (n : Int)) = true := by simp; omega
    go_wp2_with fail
    go_ret
    exact ⟨rfl, by first | exact hB0 | (rw [← hba]; exact hB0)⟩
  have h30' : decide ((30 : Int) < (n : Int)) = false := by simp; omega
  have CF := few_cmd W0 a2 (in_sized HC2.out)
  rw [hq2.out] at CF
  go_wp2_with (with_reducible refine wpList_load_cmG rfl (.tmp 8) rfl rfl KA0.out ?_)
  with_reducible refine CF.mono ?_
  rintro z W1 ⟨rfl, hb1⟩
  have HM1 := hid (HM0.out.below hb1)
  have HR1 := hid (HR0.out.later hb1)
  have HQ1 := hid (HQ0.out.later hb1)
  have KA1 := hid (var_on hb1 KA0.out (lt_of_at KA0.out))
  have KB1 := hid (var_on hb1 KB0.out (lt_of_at KB0.out))
  have hB1 := below_on hB0 hb1
  clear CF HM0 HR0 HQ0 KA0 KB0 hB0 hb1
  cases q2
  · go_wp2_with fail
    go_ret
    exact ⟨rfl, by first | exact hB1 | (rw [← hba]; exact hB1)⟩
  have CF := few_cmd W1 a3 (in_sized HC3.out)
  rw [hq3.out] at CF
  go_wp2_with (with_reducible refine wpList_load_cmG rfl (.tmp 9) rfl rfl KB1.out ?_)
  with_reducible refine CF.mono ?_
  rintro z W2 ⟨rfl, hb2⟩
  have HM2 := hid (HM1.out.below hb2)
  have HR2 := hid (HR1.out.later hb2)
  have HQ2 := hid (HQ1.out.later hb2)
  have KA2 := hid (var_on hb2 KA1.out (lt_of_at KA1.out))
  have KB2 := hid (var_on hb2 KB1.out (lt_of_at KB1.out))
  have hB2 := below_on hB1 hb2
  clear CF HM1 HR1 HQ1 KA1 KB1 hB1 hb2
  cases q3
  · go_wp2_with fail
    go_ret
    exact ⟨rfl, by first | exact hB2 | (rw [← hba]; exact hB2)⟩
  go_wp2_with fail
  go_loopw [13] (fun i wr => ∃ k : Nat, k ≤ n ∧ i = .int .i64 (k : Nat) ∧ Below W2.heap.size W2 wr) (fun i _ => n - (intOf i).toNat)
  case atStart => exact ⟨0, by omega, rfl, Below.refl _ _⟩
  case round =>
    obtain ⟨k, hk, rfl, hb⟩ := hrel
    by_cases hlt : k < n
    · have hlt' : (k : Int) < (n : Int) := by omega
      obtain ⟨c, hc⟩ : ∃ c, L0[k]? = some c := ⟨L0[k]'(by rw [hn.out]; exact hlt), by simp⟩
      obtain ⟨rb, ro, rfl, hrg⟩ := (HR2.out.later hb).at hc
      have HG := hid hrg
      have hcin := hid (HI.out c (List.mem_of_getElem? hc))
      obtain ⟨q, hq⟩ : ∃ q, Hid (fewC c = q) := ⟨_, rfl⟩
      have CF := few_cmd wr c (in_sized hcin.out)
      rw [hq.out] at CF
      clear hrg hc
      go_wp2_with (with_reducible refine wpList_load_mid_cm rfl (.tmp 49) rfl rfl HG.out ?_)
      with_reducible refine CF.mono ?_
      rintro z W3 ⟨rfl, hb3⟩
      have hB3 := below_on hb hb3
      clear CF HG hb hb3
      cases q
      · go_wp2_with fail
        go_ret
        exact ⟨rfl, by first | exact below_on hB2 hB3 | (rw [← hba]; exact below_on hB2 hB3)⟩
      · go_wp2_with fail
        go_roundw
        case rel => exact ⟨k + 1, by omega, by go_num, hB3⟩
        case measure => simp [intOf]; omega
    · obtain rfl : k = n := by omega
      have hlt' : ¬ (k : Int) < (k : Int) := by omega
      have HM3 := hid (HM2.out.below hb)
      have HR3 := hid (HR2.out.later hb)
      have HQ3 := hid (HQ2.out.later hb)
      have KA3 := hid (var_on hb KA2.out (lt_of_at KA2.out))
      have KB3 := hid (var_on hb KB2.out (lt_of_at KB2.out))
      have hB3 := below_on hB2 hb
      clear HM2 HR2 HQ2 KA2 KB2 hB2 hb
      have x0 : wr.cell? ⟨ba, 0, none⟩ = some (.int .i64 a2.kd) := cell_i KA3.out (k := 0) (by simp [plI])
      have x1 : wr.cell? ⟨ba, 1, none⟩ = some (.int .i64 a2.id) := cell_i KA3.out (k := 1) (by simp [plI])
      have y0 : wr.cell? ⟨bb, 0, none⟩ = some (.int .i64 a3.kd) := cell_i KB3.out (k := 0) (by simp [plI])
      have y1 : wr.cell? ⟨bb, 1, none⟩ = some (.int .i64 a3.id) := cell_i KB3.out (k := 1) (by simp [plI])
      by_cases hpq : whoI a2 a4 = whoI a3 a5
      · by_cases k2 : a2.kd = 1 <;> by_cases k3 : a3.kd = 1
        all_goals
          first | have d1 : ((a2.kd : Int) == 1) = true := by simp [k2] | have d1 : ((a2.kd : Int) == 1) = false := by simp [k2]
          first | have d2 : ((a3.kd : Int) == 1) = true := by simp [k3] | have d2 : ((a3.kd : Int) == 1) = false := by simp [k3]
          have hpq2 := hpq
          unfold whoI at hpq2
          first | rw [if_pos k2, if_pos k3] at hpq2 | rw [if_pos k2, if_neg k3] at hpq2 | rw [if_neg k2, if_pos k3] at hpq2 | rw [if_neg k2, if_neg k3] at hpq2
          first | have d3 : ((a4 : Int) == a5) = true := by simp [hpq2] | have d3 : ((a4 : Int) == a3.id) = true := by simp [hpq2] | have d3 : ((a2.id : Int) == a5) = true := by simp [hpq2] | have d3 : ((a2.id : Int) == a3.id) = true := by simp [hpq2]
          clear hpq hpq2 k2 k3
          go_upto_region 10 with fail
          go_quiet (fail)
          go_wp2_with fail
          go_ret
          exact ⟨rfl, by first | exact below_drewN hB3 _ | (rw [← hba]; exact below_drewN hB3 _)⟩
      have hpq' := hid hpq
      by_cases k2 : a2.kd = 1 <;> by_cases k3 : a3.kd = 1
      all_goals
        first | have d1 : ((a2.kd : Int) == 1) = true := by simp [k2] | have d1 : ((a2.kd : Int) == 1) = false := by simp [k2]
        first | have d2 : ((a3.kd : Int) == 1) = true := by simp [k3] | have d2 : ((a3.kd : Int) == 1) = false := by simp [k3]
        have hpq2 := hpq
        unfold whoI at hpq2
        first | rw [if_pos k2, if_pos k3] at hpq2 | rw [if_pos k2, if_neg k3] at hpq2 | rw [if_neg k2, if_pos k3] at hpq2 | rw [if_neg k2, if_neg k3] at hpq2
        first | have d3 : ((a4 : Int) == a5) = false := by simp [hpq2] | have d3 : ((a4 : Int) == a3.id) = false := by simp [hpq2] | have d3 : ((a2.id : Int) == a5) = false := by simp [hpq2] | have d3 : ((a2.id : Int) == a3.id) = false := by simp [hpq2]
        clear hpq hpq2 k2 k3
        go_upto_region 10 with fail
        go_quiet (fail)
        have hbq : Below wr.heap.size wr (wr.drewN nq) := below_drewN (Below.refl _ _) _
        obtain ⟨Wq, hWq⟩ : ∃ Wq, wr.drewN nq = Wq := ⟨_, rfl⟩
        rw [hWq] at hbq ⊢
        clear hWq
        have HMq := hid (HM3.out.below hbq)
        have HRq := hid (HR3.out.later hbq)
        have HQq := hid (HQ3.out.later hbq)
        have KAq := hid (var_on hbq KA3.out (lt_of_at KA3.out))
        have KBq := hid (var_on hbq KB3.out (lt_of_at KB3.out))
        have hBq := below_on hB3 hbq
        clear x0 x1 y0 y1
        have x0 : Wq.cell? ⟨ba, 0, none⟩ = some (.int .i64 a2.kd) := cell_i KAq.out (k := 0) (by simp [plI])
        have y0 : Wq.cell? ⟨bb, 0, none⟩ = some (.int .i64 a3.kd) := cell_i KBq.out (k := 0) (by simp [plI])
        go_upto_region 17 with fail
        clear d1 d2 d3 x0 y0 HM3 HR3 HQ3 KA3 KB3 hB3 hbq
        obtain ⟨L, hLL⟩ : ∃ L, Hid (stW L0 ts1 [] k = L) := ⟨_, rfl⟩
        have hG := st_good HI.out ts1 Good.nil k
        have hlen := st_len HI.out ts1 Good.nil k
        rw [hLL.out] at hG hlen
        obtain ⟨e1, e2, e3, e4, e5⟩ := wd_apart hG (by simp at hlen; omega) HC2.out HC3.out hpq'.out
        obtain ⟨N1, hN1⟩ : ∃ x, Hid (wdN L a2 a4 = x) := ⟨_, rfl⟩
        obtain ⟨E1, hE1⟩ : ∃ x, Hid (wdE L a2 a4 = x) := ⟨_, rfl⟩
        obtain ⟨LA, hLA⟩ : ∃ x, Hid (wdL L a2 a4 = x) := ⟨_, rfl⟩
        obtain ⟨N2, hN2⟩ : ∃ x, Hid (wdN L a3 a5 = x) := ⟨_, rfl⟩
        obtain ⟨E2, hE2⟩ : ∃ x, Hid (wdE L a3 a5 = x) := ⟨_, rfl⟩
        obtain ⟨LB, hLB⟩ : ∃ x, Hid (wdL L a3 a5 = x) := ⟨_, rfl⟩
        obtain ⟨LC, hLC⟩ : ∃ x, Hid (wdL LA a3 a5 = x) := ⟨_, rfl⟩
        have hN1' : Hid (wdN LB a2 a4 = N1) := by show _ = _; rw [← hLB.out, e2]; exact hN1.out
        have hE1' : Hid (wdE LB a2 a4 = E1) := by show _ = _; rw [← hLB.out, e1]; exact hE1.out
        have hN2' : Hid (wdN LA a3 a5 = N2) := by show _ = _; rw [← hLA.out, e4]; exact hN2.out
        have hE2' : Hid (wdE LA a3 a5 = E2) := by show _ = _; rw [← hLA.out, e3]; exact hE2.out
        have hLC' : Hid (wdL LB a2 a4 = LC) := by show _ = _; rw [← hLB.out, ← e5, hLA.out]; exact hLC.out
        obtain ⟨m, hmL⟩ : ∃ m, Hid (LC.length = m) := ⟨_, rfl⟩
        have hml : m ≤ 999 := by
          have GC : Good LC := by rw [← hLC.out, ← hLA.out]; exact wd_good (wd_good hG HC2.out a4) HC3.out a5
          have := GC.len
          rw [← hmL.out]; omega
        clear e1 e2 e3 e4 e5 hG hlen hpq'
        go_wp2_with fail
        with_reducible refine (wd_of HMq.out HRq.out HI.out hn hm HQq.out HI1.out HT1 hl1 hLL).mono ?_
        rintro z W4 ⟨ub, rfl, T4⟩
        have hb4 := hid (T4.below)
        have KA4 := hid (var_on hb4.out KAq.out (lt_of_at KAq.out))
        have KB4 := hid (var_on hb4.out KBq.out (lt_of_at KBq.out))
        go_wp2_with fail
        with_reducible refine (t2_copy T4 HMq.out).mono ?_
        rintro z W5 ⟨cb, rfl, T5, hb5⟩
        have T5' := hid T5
        have KA5 := hid (var_on hb5 KA4.out (lt_of_at KA4.out))
        have KB5 := hid (var_on hb5 KB4.out (lt_of_at KB4.out))
        clear T4 T5 hb5 KA4 KB4
        go_wp2_with (with_reducible refine wpList_load_cm rfl (.tmp 8) rfl rfl KA5.out ?_)
        refine (t2_do T5'.out HC2.out I4.out hN1 hE1 hLA).mono ?_
        rintro z W6 ⟨rfl, T, -⟩
        have T6 := hid T
        have KB6 := hid (var_on T.below KBq.out (lt_of_at KBq.out))
        clear T T5' KA5 KB5
        go_wp2_with (with_reducible refine wpList_load_cm rfl (.tmp 9) rfl rfl KB6.out ?_)
        refine (t2_do T6.out HC3.out I5.out hN2' hE2' hLC).mono ?_
        rintro z W7 ⟨rfl, T, -⟩
        have T7 := hid T.swap
        have KB7 := hid (var_on T.below KBq.out (lt_of_at KBq.out))
        clear T T6 KB6
        go_wp2_with (with_reducible refine wpList_load_cm rfl (.tmp 9) rfl rfl KB7.out ?_)
        refine (t2_do T7.out HC3.out I5.out hN2 hE2 hLB).mono ?_
        rintro z W8 ⟨rfl, T, -⟩
        have T8 := hid T
        have KA8 := hid (var_on T.below KAq.out (lt_of_at KAq.out))
        clear T T7 KB7
        go_wp2_with (with_reducible refine wpList_load_cm rfl (.tmp 8) rfl rfl KA8.out ?_)
        refine (t2_do T8.out HC2.out I4.out hN1' hE1' hLC').mono ?_
        rintro z W9 ⟨rfl, T, -⟩
        have T9 := hid T
        clear T T8 KA8
        go_wp2_with fail
        with_reducible refine (wd_all T9.out.snd hmL).mono ?_
        rintro z W10 ⟨p10, c10, rfl, R10, hb10⟩
        have T10 := hid (T9.out.later hb10)
        have HR10 := hid R10
        clear T9 hb10 R10
        go_wp2_with fail
        with_reducible refine (wd_all T10.out.fst hmL).mono ?_
        rintro z W11 ⟨p11, c11, rfl, R11, hb11⟩
        have hB11 := below_on hBq (T10.out.later hb11).below
        have HS11 := hid (HR10.out.later hb11)
        clear T10 HR10 hb11
        go_wp2_with fail
        with_reducible refine (same_rows HS11.out R11 hmL hml).mono ?_
        rintro z W12 ⟨rfl, hb12⟩
        go_wp2
        go_ret
        exact ⟨rfl, by first | exact below_on hB11 hb12 | (rw [← hba]; exact below_on hB11 hb12)⟩

theorem worldApart_own : ownKnob Tryz.prog.godebug = none := by kernel_rfl
theorem worldApart_laidOut : laidOutB Tryz.prog = true := by kernel_rfl
set_option maxRecDepth 100000 in
theorem worldApart_lifted (os : Os) (started : os.Started) (H : Type) (enc : TypeId × Value → H) :
    ReturnsInHanded {} Tryz.checked os 4 .any (fun w args => (Rows.worldApartSpec.pre enc Tryz.prog Tryz.f4 [] false w args ∧ laidMetH Tryz.prog laids w) ∧ sizedMet enc Tryz.prog Tryz.f4 (OpenSpec.ofChange Rows.worldApartSpec) false w args) (Rows.worldApartSpec.post enc Tryz.prog Tryz.f4 false true false false) := by
  refine returnsInHanded_of_change_and (C := Tryz.checked) (X := fun w _ => laidMetH Tryz.prog laids w) (fun _ _ _ hh h => h.of_heap hh) own_knob started (by kernel_rfl) Tryz.func4
    (ChangeSpec.witness_shaped (enc := enc) (C := Tryz.checked) (os := os) (X := fun w _ => laidMetH Tryz.prog laids w) false (World.laidAll Tryz.prog os laids) #[.slice none 0 0, .slice none 0 0, .agg #[.int .i64 0, .int .i64 0, .int .i64 0, .int .i64 0, .int .i64 0, .int .i64 0, .int .i64 0, .string ByteArray.empty, .int .i64 0, .string ByteArray.empty, .int .i64 0, .string ByteArray.empty, .int .i64 0, .string ByteArray.empty, .int .i64 0, .string ByteArray.empty, .int .i64 0, .int .i64 0, .int .i64 0, .int .i64 0, .int .i64 0, .int .i64 0], .agg #[.int .i64 0, .int .i64 0, .int .i64 0, .int .i64 0, .int .i64 0, .int .i64 0, .int .i64 0, .string ByteArray.empty, .int .i64 0, .string ByteArray.empty, .int .i64 0, .string ByteArray.empty, .int .i64 0, .string ByteArray.empty, .int .i64 0, .string ByteArray.empty, .int .i64 0, .int .i64 0, .int .i64 0, .int .i64 0, .int .i64 0, .int .i64 0], .int .i64 0, .int .i64 0] 8 rfl (World.shaped_of_ZipB (by kernel_rfl) (by kernel_rfl)) (by kernel_rfl) (by kernel_rfl) (by kernel_rfl) (door_met os _)) ?_
  intro W base args ds gs before hval0 hW _ _ hL _
  have hval : ∀ (j : Nat) t v, Tryz.f4.params[j]? = some t → args[j]? = some v → Value.okWide Tryz.prog W .any base t v := hval0
  have hW' := hW
  obtain ⟨p, q, hA0, hV, rfl, hfz, hnd⟩ := hW
  have hA : DataW.TrodAll enc Tryz.prog W 0 (fun _ => true) true Tryz.f4.params.toList args.toList ds p := hA0
  rw [Tryz.params4] at hA hval
  obtain ⟨v0, vs0, d0, ds0, p0, q0, hargs, rfl, rfl, h0, r0⟩ := trodAll_cons hA
  obtain ⟨v1, vs1, d1, ds1, p1, q1, rfl, rfl, rfl, h1, r1⟩ := trodAll_cons r0
  obtain ⟨v2, vs2, d2, ds2, p2, q2, rfl, rfl, rfl, h2, r2⟩ := trodAll_cons r1
  obtain ⟨v3, vs3, d3, ds3, p3, q3, rfl, rfl, rfl, h3, r3⟩ := trodAll_cons r2
  obtain ⟨v4, vs4, d4, ds4, p4, q4, rfl, rfl, rfl, h4, r4⟩ := trodAll_cons r3
  obtain ⟨v5, vs5, d5, ds5, p5, q5, rfl, rfl, rfl, h5, r5⟩ := trodAll_cons r4
  obtain ⟨rfl, rfl, rfl⟩ := trodAll_nil r5
  obtain rfl : args = #[v0, v1, v2, v3, v4, v5] := by cases args; simp_all
  obtain ⟨rfl, rfl⟩ := trodVars_none hV
  have k0 := h0
  have lt0 : ∀ x ∈ p0, x.block < W.heap.size := by obtain ⟨m, hm⟩ := k0; exact DataW.trod_lt m _ _ _ hm
  have k1 := h1
  have lt1 : ∀ x ∈ p1, x.block < W.heap.size := by obtain ⟨m, hm⟩ := k1; exact DataW.trod_lt m _ _ _ hm
  have k2 := h2
  have lt2 : ∀ x ∈ p2, x.block < W.heap.size := by obtain ⟨m, hm⟩ := k2; exact DataW.trod_lt m _ _ _ hm
  have k3 := h3
  have lt3 : ∀ x ∈ p3, x.block < W.heap.size := by obtain ⟨m, hm⟩ := k3; exact DataW.trod_lt m _ _ _ hm
  have k4 := h4
  have lt4 : ∀ x ∈ p4, x.block < W.heap.size := by obtain ⟨m, hm⟩ := k4; exact DataW.trod_lt m _ _ _ hm
  have k5 := h5
  have lt5 : ∀ x ∈ p5, x.block < W.heap.size := by obtain ⟨m, hm⟩ := k5; exact DataW.trod_lt m _ _ _ hm
  obtain ⟨a0, cap0, L0, rfl, i0, r0', c0, m0⟩ := open_cms (hval 0 22 v0 rfl rfl) h0
  obtain ⟨a1, len1, cap1, rfl⟩ := okWide_slice Tryz.underlying23 (hval 1 23 v1 rfl rfl)
  obtain ⟨ts1, ht1, hb1, hr1, hl1⟩ : ∃ ts1 : List Int, ts1.length = len1 ∧ (∀ n ∈ ts1, (Lit.int .i64 n).wf = true) ∧ RowIs W a1 (nums .i64 ts1) ∧ len1 ≤ maxLen := by
    obtain ⟨fuel, hf⟩ := h1
    rcases open_ints Tryz.underlying23 Tryz.underlying3 (by kernel_rfl) hf with ⟨hcs, _⟩ | ⟨x, l, c, ss, hcs, _, hl, hm, hz, _, hcell, hws⟩
    · simp [Value.cells] at hcs
      obtain ⟨rfl, rfl, rfl⟩ := hcs
      exact ⟨[], rfl, by simp, .inl rfl, by unfold maxLen; omega⟩
    · simp [Value.cells] at hcs
      obtain ⟨rfl, rfl, rfl⟩ := hcs
      have hz' : ss.length = cap1 := by simpa using hz
      obtain ⟨ts, e1, e2, e3⟩ := row_ints (len := len1) (by omega) hcell hws
      exact ⟨ts, e1, e2, e3, by omega⟩
  obtain ⟨a2, rfl, w2⟩ := open_cm (hval 2 37 v2 rfl rfl) h2
  obtain ⟨a3, rfl, w3⟩ := open_cm (hval 3 37 v3 rfl rfl) h3
  obtain ⟨a4, rfl, rfl, rfl, w4⟩ := open_int Tryz.underlying3 (hval 4 3 v4 rfl rfl) h4
  obtain ⟨a5, rfl, rfl, rfl, w5⟩ := open_int Tryz.underlying3 (hval 5 3 v5 rfl rfl) h5
  clear hA0 hval0
  refine (worldApart_walk W (of_laid hL) a0 cap0 L0 i0 r0' c0 m0 a1 len1 cap1 ts1 ht1 hb1 hr1 hl1 a2 w2 a3 w3 a4 w4 a5 w5).mono fun e W' ⟨he, bel⟩ => ?_
  subst he
  exact ⟨_, rfl, _, _, _, [], _, [], hW', trodAll_mk1 (shut_bool Tryz.underlying4 _), (trodAll_cons_mk (Below.trod worldApart_laidOut (by kernel_rfl) (of_decide_eq_true (by kernel_rfl)) k0 bel lt0) (trodAll_cons_mk (Below.trod worldApart_laidOut (by kernel_rfl) (of_decide_eq_true (by kernel_rfl)) k1 bel lt1) (trodAll_cons_mk (Below.trod worldApart_laidOut (by kernel_rfl) (of_decide_eq_true (by kernel_rfl)) k2 bel lt2) (trodAll_cons_mk (Below.trod worldApart_laidOut (by kernel_rfl) (of_decide_eq_true (by kernel_rfl)) k3 bel lt3) (trodAll_cons_mk (Below.trod worldApart_laidOut (by kernel_rfl) (of_decide_eq_true (by kernel_rfl)) k4 bel lt4) (trodAll_cons_mk (Below.trod worldApart_laidOut (by kernel_rfl) (of_decide_eq_true (by kernel_rfl)) k5 bel lt5) trodAll_mk0)))))), rfl, bel.frame _, fun h => by cases h⟩

theorem worldApart_over : Rows.worldApartRow.holds Tryz.pinned (OpenSpec.ofChange Rows.worldApartSpec) :=
  OpenClaim.holds_of_wide 4 Tryz.f4 rfl rfl rfl rfl rfl rfl rfl ⟨rfl, rfl, rfl, rfl, rfl⟩ rfl rfl rfl rfl rfl (by kernel_rfl) Tryz.func4 (by kernel_rfl)
    (of_decide_eq_true (by kernel_rfl)) (by unfold Func.isWrapper; first | (rw [if_pos (by decide +kernel)]; kernel_rfl) | (rw [if_neg (by decide +kernel)]; exact ⟨rfl, rfl⟩))
    (fun os started H enc _ => worldApart_lifted os started H enc)

theorem worldApart_holds : Rows.WorldApartCardSaid :=
  Claim7.holds_tied_plain_at .later [] [.data] true (true, "dedd6cb34770d93af0edbf2928e7be5c3a09ebc128949375eb309686618b9df1") true
    worldApart_over (fun _ h => by cases h) (by kernel_rfl) (fun _ h => by cases h) worldApart_row_tie rfl ⟨rfl, rfl⟩ (by kernel_rfl) rfl
    (fun f fn hf hfn => by
      obtain rfl : f = 4 := Option.some.inj ((show Tryz.prog.funcNamed "vedette/vedettelaw12.WorldApart" = some 4 by kernel_rfl).symm.trans hf) |>.symm
      obtain rfl : fn = Tryz.f4 := (Option.some.inj (Tryz.func4.symm.trans hfn)).symm
      exact ⟨by kernel_rfl, fun j t ht => by
        rw [Tryz.params4] at ht
        have hm : t ∈ [22, 23, 37, 37, 3, 3] := by simpa using Array.mem_of_getElem? ht
        have hall : ([22, 23, 37, 37, 3, 3].all fun u => !Tryz.prog.wantsStandIn u) = true := by kernel_rfl
        exact (show Tryz.prog.wantsStandIn t = false by simpa using List.all_eq_true.1 hall t hm)⟩)
    (by kernel_rfl)
#print axioms worldApart_holds
end Go.Proofs.YtfoncphdbaaedaaGreatDoor
