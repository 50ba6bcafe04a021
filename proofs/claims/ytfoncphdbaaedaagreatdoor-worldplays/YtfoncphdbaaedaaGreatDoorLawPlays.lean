/- For every row of small commands with their numbers, and every rectangle: the world tells each number and each error, and behind each all things and those of the rectangle, as the document's does; done at once it comes to the same. No conditions. -/
import Derived.Test.YtfoncphdbaaedaaGreatDoorWD
import Derived.Test.YtfoncphdbaaedaaGreatDoorWdS
import Derived.Test.YtfoncphdbaaedaaGreatDoorAcT
import Derived.Test.YtfoncphdbaaedaaGreatDoorLaid
import Derived.Test.YtfoncphdbaaedaaGreatDoorCO
import Derived.Test.YtfoncphdbaaedaaGreatDoorCR
import Derived.Test.YtfoncphdbaaedaaGreatDoorRI
import Derived.Test.YtfoncphdbaaedaaGreatDoorCF
import Derived.Test.YtfoncphdbaaedaaGreatDoorLaid
import Derived.Test.YtfoncphdbaaedaaGreatDoorCards
import Derived.Test.YtfoncphdbaaedaaGreatDoorTie
import Derived.SevenTiedAt
import Derived.ProofKit
import Derived.OpenShut
import Derived.ShutString
import Derived.ChangeOld
import Derived.Below
import Derived.SizedLaws
namespace Go.Proofs.YtfoncphdbaaedaaGreatDoor
open Go.ChangeShapes Go.WideShapes Go.ChangeAt Go.RowKit
open Go.ChangeMaps (open_string shut_string)
set_option linter.unusedVariables false

theorem at_range {W : World} {b off k : Nat} {L : List Cm} {t : Cm} (h : RowM W (some ⟨b, off, none⟩) L) (hk : L[k]? = some t) : W.rangeAt b (off + k * 22) t.cs := by
  obtain ⟨b1, off1, e1, hc⟩ := h.at hk
  simp only [Option.some.injEq, Addr.mk.injEq, and_true] at e1
  obtain ⟨rfl, rfl⟩ := e1
  exact hc
abbrev rcO (r0 r1 r2 r3 : Int) : Obj := .cells #[.int .i64 r0, .int .i64 r1, .int .i64 r2, .int .i64 r3] 25 (0, 0)
/-- the world at wb holds L, so does the row at p; the rectangle lies at gb -/
structure AW (W0 W : World) (wb gb : Nat) (L : List Th) (p : Option Addr) (r0 r1 r2 r3 : Int) : Prop where
  tab : TK W0 W wb L (rowB p)
  row : RowT W p L
  rct : W.heap[gb]? = some (rcO r0 r1 r2 r3)
theorem AW.later {W0 W W' : World} {wb gb : Nat} {L : List Th} {p : Option Addr} {r0 r1 r2 r3 : Int} (h : AW W0 W wb gb L p r0 r1 r2 r3) (hb : Below W.heap.size W W') : AW W0 W' wb gb L p r0 r1 r2 r3 :=
  ⟨h.tab.later hb, h.row.later hb, var_on hb h.rct (lt_of_at h.rct)⟩
theorem in_len {L : List Th} {r : Rc} : (inT_r r L).length ≤ L.length := List.length_filter_le _ _
set_option maxRecDepth 100000 in
set_option maxHeartbeats 8000000 in
theorem worldPlays_walk (w : World) (hL : Masks w) (a0 : Option Addr) (cap0 : Nat) (L0 : List Cm) (i0 : ∀ c ∈ L0, inC c) (r0 : RowM w a0 L0) (c0 : L0.length ≤ cap0) (m0 : cap0 ≤ maxLen) (a1 : Option Addr) (len1 cap1 : Nat) (ts1 : List Int) (ht1 : ts1.length = len1) (hb1 : ∀ n ∈ ts1, (Lit.int .i64 n).wf = true) (hr1 : RowIs w a1 (nums .i64 ts1)) (hl1 : len1 ≤ maxLen) (a20 a21 a22 a23 : Int) :
    Calls Tryz.prog 3 #[.slice a0 L0.length cap0, .slice a1 len1 cap1, rc a20 a21 a22 a23] w fun e w' => e = .returned (.bool true) ∧ Below w.heap.size w w' := by
  have HI1 := hid (show ∀ i ∈ ts1, inI i from fun i hi => inI_wf (hb1 i hi))
  have HT1 := hid ht1
  obtain ⟨W, hW⟩ : ∃ W, w.alloc (.cells #[.int .i64 a20, .int .i64 a21, .int .i64 a22, .int .i64 a23] 25) = W := ⟨_, rfl⟩
  have hB : Below w.heap.size w W := by rw [← hW]; exact below1 _ _
  have KR := hid (show W.heap[w.heap.size]? = some (rcO a20 a21 a22 a23) by rw [← hW]; exact new_at _ _ _ rfl)
  have HM := hid (hL.below hB)
  have HR := hid (r0.later hB)
  have HQ := hid (hr1.later hB)
  have HI := hid i0
  have CK := known12 W HM.out
  obtain ⟨n, hn⟩ : ∃ n, Hid (L0.length = n) := ⟨_, rfl⟩
  have hm : n ≤ maxLen := by rw [← hn.out]; omega
  have hm' : n ≤ 9223372036854775807 := hm
  have hl1' : len1 ≤ 9223372036854775807 := hl1
  rw [hn.out]
  clear c0 m0 hL r0 i0 hb1 hr1 ht1
  go_enter Tryz.func3, Tryz.ntmps3
  go_upto_region 1 with fail
  try rw [hW]
  clear hW
  obtain ⟨gb, hgb⟩ : ∃ gb, w.heap.size = gb := ⟨_, rfl⟩
  rw [hgb] at KR
  try rw [hgb]
  go_wp2_with fail
  refine CK.mono ?_
  rintro z W0 ⟨rfl, hb0⟩
  have HM0 := hid (HM.out.below hb0)
  have HR0 := hid (HR.out.later hb0)
  have HQ0 := hid (HQ.out.later hb0)
  have KR0 := hid (var_on hb0 KR.out (lt_of_at KR.out))
  have hB0 := below_on hB hb0
  clear CK HM HR HQ KR hB hb0
  by_cases h50 : 50 < n
  · have h50' : (50 : Int) < (n : Int) := by omega
    go_wp2_with fail
    go_ret
    exact ⟨rfl, by first | exact hB0 | (rw [← hgb]; exact hB0)⟩
  have h50' : ¬ (50 : Int) < (n : Int) := by omega
  go_wp2_with fail
  with_reducible refine (wd_new HM0.out).mono ?_
  rintro z W1 ⟨wb, rfl, T1⟩
  have T1h : Hid (TK W0 W1 wb [] (rowB none)) := T1
  clear T1
  go_wp2_with fail
  go_loopw [9, 8] (fun i s wr => ∃ (k : Nat) (L : List Th) (p : Option Addr) (m cap : Nat), k ≤ n ∧ i = .int .i64 (k : Nat) ∧ s = .slice p m cap ∧ Hid (L.length = m) ∧ Hid (stW L0 ts1 [] k = L) ∧ Hid (TK W0 wr wb L (rowB p)) ∧ Hid (RowT wr p L)) (fun i _ _ => n - (intOf i).toNat)
  case atStart => exact ⟨0, [], none, 0, 0, by omega, rfl, rfl, (show Hid _ from rfl), (show Hid _ from rfl), T1h, (show Hid _ from .inl rfl)⟩
  case round =>
    obtain ⟨k, L, p, m, cap, hk, rfl, rfl, hmL, hLk, T, HRW⟩ := hrel
    clear T1h
    have hG := hid T.out.good
    have hm9 : m ≤ 200 := by rw [← hmL.out]; exact hG.out.len
    by_cases hlt : k < n
    · have hlt' : (k : Int) < (n : Int) := by omega
      obtain ⟨c, hc⟩ : ∃ c, L0[k]? = some c := ⟨L0[k]'(by rw [hn.out]; exact hlt), by simp⟩
      obtain ⟨rb, ro, rfl, hrg⟩ := HR0.out.at hc
      have HG := hid hrg
      have hcin := hid (HI.out c (List.mem_of_getElem? hc))
      have hcd : L0.getD k zC = c := by rw [List.getD_eq_getElem?_getD, hc]; rfl
      obtain ⟨q, hq⟩ : ∃ q, Hid (fewC c = q) := ⟨_, rfl⟩
      have CF := few_cmd wr c (in_sized hcin.out)
      rw [hq.out] at CF
      obtain ⟨D, hD⟩ : ∃ D, ts1.getD k 0 = D := ⟨_, rfl⟩
      have hDI : Hid (inI D) := by
        show inI D
        rw [← hD, List.getD_eq_getElem?_getD]
        cases hx : ts1[k]? with
        | none => exact ⟨by decide, by decide⟩
        | some x => exact HI1.out x (List.mem_of_getElem? hx)
      obtain ⟨N, hN⟩ : ∃ x, Hid (wdN L c D = x) := ⟨_, rfl⟩
      obtain ⟨E, hE⟩ : ∃ x, Hid (wdE L c D = x) := ⟨_, rfl⟩
      obtain ⟨L', hL'⟩ : ∃ x, Hid (wdL L c D = x) := ⟨_, rfl⟩
      obtain ⟨m', hm2⟩ : ∃ x, Hid (L'.length = x) := ⟨_, rfl⟩
      have hm29 : m' ≤ 200 := by rw [← hm2.out, ← hL'.out]; exact (wd_good hG.out hcin.out D).len
      have hSL : Hid (stW L0 ts1 [] (k + 1) = L') := by
        show wdL _ _ _ = _
        rw [hLk.out, hcd, hD]; exact hL'.out
      obtain ⟨M, hM⟩ : ∃ x, Hid (inT_r ⟨a20, a21, a22, a23⟩ L' = x) := ⟨_, rfl⟩
      obtain ⟨mM, hmM⟩ : ∃ x, Hid (M.length = x) := ⟨_, rfl⟩
      have hmM9 : mM ≤ 999 := by
        have h1 : (inT_r ⟨a20, a21, a22, a23⟩ L').length ≤ L'.length := in_len
        rw [hM.out, hmM.out, hm2.out] at h1
        omega
      have HGr := hid (range_on HG.out T.out.below)
      have hDh := hid hD
      clear hrg hc hcd hD hLk
      go_wp2_with (with_reducible refine wpList_load_mid_cm rfl (.tmp 31) rfl rfl HGr.out ?_)
      with_reducible refine CF.mono ?_
      rintro z W2 ⟨rfl, hb2⟩
      have T2' := hid (T.out.later hb2)
      have R2 := hid (HRW.out.later hb2)
      clear CF HGr T HRW
      cases q
      · have hBe := below_on hB0 T2'.out.below
        go_wp2_with fail
        go_ret
        exact ⟨rfl, by first | exact hBe | (rw [← hgb]; exact hBe)⟩
      have Q2 := hid (HQ0.out.later T2'.out.below)
      clear hb2
      by_cases hkm : k < len1
      · have hkm' : (k : Int) < (len1 : Int) := by omega
        obtain ⟨x, hx⟩ : ∃ x, ts1[k]? = some x := ⟨ts1[k]'(by rw [HT1.out]; exact hkm), by simp⟩
        obtain rfl : x = D := by rw [← hDh.out, List.getD_eq_getElem?_getD, hx]; rfl
        obtain ⟨ib, io, rfl, hic⟩ := Q2.out.at (i := k) (v := .int .i64 x) (by unfold nums; rw [List.getElem?_map, hx]; rfl)
        clear hx
        go_upto_region 15 with fail
        clear hic
        clear hDh Q2
        go_wp2_with fail
        with_reducible refine (t2_copy T2'.out HM0.out).mono ?_
        rintro z W3 ⟨cb, rfl, T3, hb3⟩
        have T3h := hid T3
        have R3 := hid (R2.out.later hb3)
        have G3 := hid (range_on HG.out T3.below)
        clear T3 hb3 T2' R2
        go_wp2_with (with_reducible refine wpList_load_mid_cm rfl (.tmp 49) rfl rfl G3.out ?_)
        refine (t2_do T3h.out hcin.out hDI.out hN hE hL').mono ?_
        rintro z W4 ⟨rfl, T4, hK4⟩
        have T4h := hid T4
        have R4 := hid (R3.out.kept hK4 (fun k hk => hk))
        have G4 := hid (range_on HG.out T4.below)
        clear T4 hK4 T3h R3 G3
        go_wp2_with (with_reducible refine wpList_load_mid_cm rfl (.tmp 59) rfl rfl G4.out ?_)
        refine (ref_doF R4.out hG.out hmL (in_sized hcin.out) hL' hm2 hN hE).mono ?_
        rintro z W5 ⟨p5, cap5, rfl, hr5, hq5, hb5⟩
        have T5 := hid (T4h.out.alsos hb5 (R := rowB p5) hq5).swap
        have R5 := hid hr5
        clear T4h R4 G4 hr5 hq5 hb5
        obtain ⟨N9, hN9⟩ : ∃ x, Hid (wdN L (cmPut 0 0) 999999 = x) := ⟨_, rfl⟩
        obtain ⟨E9, hE9⟩ : ∃ x, Hid (wdE L (cmPut 0 0) 999999 = x) := ⟨_, rfl⟩
        obtain ⟨L9, hL9⟩ : ∃ x, Hid (wdL L (cmPut 0 0) 999999 = x) := ⟨_, rfl⟩
        go_wp2_with fail
        with_reducible refine (t2_do (c := cmPut 0 0) (id := 999999) T5.out cm_in0 (inI_small (by decide) (by decide)) hN9 hE9 hL9).mono ?_
        rintro z W6 ⟨rfl, T6, hK6⟩
        have HA := hid (show AW W0 W6 wb gb L' p5 a20 a21 a22 a23 from ⟨T6.snd, R5.out.kept hK6 (fun k hk => hk), var_on T6.below KR0.out (lt_of_at KR0.out)⟩)
        clear T6 hK6 T5 R5 hN9 hE9 hL9
        go_upto_region 20 with fail
        refine wp_region_held_drew (S := fun w' => (∀ i, w'.cell? ⟨gb, i, none⟩ = (#[.int .i64 a20, .int .i64 a21, .int .i64 a22, .int .i64 a23] : Array Value)[i]?)) (by kernel_rfl) (cells_at HA.out.rct).1 (fun hHeld => ?_)
        refine take_yes (i := 0) (v := ?va0) rfl (by kernel_rfl) (by kernel_rfl) (by kernel_rfl) (fun _ _ _ h => h) (by rfl) ?hya0 hHeld ?resta0
        case hya0 =>
          intro w' hSw
          try dsimp only at hSw
          go_simp <;> with_reducible rfl
        try simp only [Act.put, List.setIfInBounds_toArray, List.set_cons_zero, List.set_cons_succ]
        refine take_yes (i := 1) (v := ?va1) rfl (by kernel_rfl) (by kernel_rfl) (by kernel_rfl) (fun _ _ _ h => h) (by rfl) ?hya1 hHeld ?resta1
        case hya1 =>
          intro w' hSw
          try dsimp only at hSw
          go_simp <;> with_reducible rfl
        try simp only [Act.put, List.setIfInBounds_toArray, List.set_cons_zero, List.set_cons_succ]
        refine take_yes (i := 2) (v := ?va2) rfl (by kernel_rfl) (by kernel_rfl) (by kernel_rfl) (fun _ _ _ h => h) (by rfl) ?hya2 hHeld ?resta2
        case hya2 =>
          intro w' hSw
          try dsimp only at hSw
          go_simp <;> with_reducible rfl
        try simp only [Act.put, List.setIfInBounds_toArray, List.set_cons_zero, List.set_cons_succ]
        refine take_yes (i := 3) (v := ?va3) rfl (by kernel_rfl) (by kernel_rfl) (by kernel_rfl) (fun _ _ _ h => h) (by rfl) ?hya3 hHeld ?resta3
        case hya3 =>
          intro w' hSw
          try dsimp only at hSw
          go_simp <;> with_reducible rfl
        try simp only [Act.put, List.setIfInBounds_toArray, List.set_cons_zero, List.set_cons_succ]
        refine take_yes (i := 4) (v := ?va4) rfl (by kernel_rfl) (by kernel_rfl) (by kernel_rfl) (fun _ _ _ h => h) (by rfl) ?hya4 hHeld ?resta4
        case hya4 =>
          intro w' hSw
          try dsimp only at hSw
          go_simp <;> with_reducible rfl
        try simp only [Act.put, List.setIfInBounds_toArray, List.set_cons_zero, List.set_cons_succ]
        refine take_yes (i := 5) (v := ?va5) rfl (by kernel_rfl) (by kernel_rfl) (by kernel_rfl) (fun _ _ _ h => h) (by rfl) ?hya5 hHeld ?resta5
        case hya5 =>
          intro w' hSw
          try dsimp only at hSw
          go_simp <;> with_reducible rfl
        try simp only [Act.put, List.setIfInBounds_toArray, List.set_cons_zero, List.set_cons_succ]
        refine take_yes (i := 6) (v := ?va6) rfl (by kernel_rfl) (by kernel_rfl) (by kernel_rfl) (fun _ _ _ h => h) (by rfl) ?hya6 hHeld ?resta6
        case hya6 =>
          intro w' hSw
          try dsimp only at hSw
          go_simp <;> with_reducible rfl
        try simp only [Act.put, List.setIfInBounds_toArray, List.set_cons_zero, List.set_cons_succ]
        refine take_yes (i := 7) (v := ?va7) rfl (by kernel_rfl) (by kernel_rfl) (by kernel_rfl) (fun _ _ _ h => h) (by rfl) ?hya7 hHeld ?resta7
        case hya7 =>
          intro w' hSw
          try dsimp only at hSw
          go_simp <;> with_reducible rfl
        try simp only [Act.put, List.setIfInBounds_toArray, List.set_cons_zero, List.set_cons_succ]
        refine take_yes (i := 8) (v := ?va8) rfl (by kernel_rfl) (by kernel_rfl) (by kernel_rfl) (fun _ _ _ h => h) (by rfl) ?hya8 hHeld ?resta8
        case hya8 =>
          intro w' hSw
          try dsimp only at hSw
          go_simp <;> with_reducible rfl
        try simp only [Act.put, List.setIfInBounds_toArray, List.set_cons_zero, List.set_cons_succ]
        refine take_yes (i := 9) (v := ?va9) rfl (by kernel_rfl) (by kernel_rfl) (by kernel_rfl) (fun _ _ _ h => h) (by rfl) ?hya9 hHeld ?resta9
        case hya9 =>
          intro w' hSw
          try dsimp only at hSw
          go_simp <;> with_reducible rfl
        try simp only [Act.put, List.setIfInBounds_toArray, List.set_cons_zero, List.set_cons_succ]
        refine take_yes (i := 11) (v := ?va11) rfl (by kernel_rfl) (by kernel_rfl) (by kernel_rfl) (fun _ _ _ h => h) (by rfl) ?hya11 hHeld ?resta11
        case hya11 =>
          intro w' hSw
          try dsimp only at hSw
          go_simp <;> with_reducible rfl
        try simp only [Act.put, List.setIfInBounds_toArray, List.set_cons_zero, List.set_cons_succ]
        clear hHeld
        refine wpAnyH_ready (rs := [10]) (by kernel_rfl) (by simp) (cons_at (i := 10) rfl (fun K9 hK9 => ?_) AllReadyH.nil)
        go_simp
        go_at_call 14
        with_reducible refine (wd_all (HA.out.later (by first | exact Below.refl _ _ | exact (Below.refl _ _).drew)).tab hm2).mono ?_
        rintro z W8 ⟨p8, c8, rfl, R8, hbK⟩
        have H8 := (HA.out.later (by first | exact (Below.refl _ _).drew | exact Below.refl _ _)).later hbK
        have HK := hid H8
        go_wp2_with fail
        refine hK9.out _ _ (cells_at HK.out.rct).1 (fun hHeld => ?_)
        clear hK9 K9
        try simp only [Act.put, List.setIfInBounds_toArray, List.set_cons_zero, List.set_cons_succ]
        clear hHeld
        refine wpAnyH_ready (rs := [12]) (by kernel_rfl) (by simp) (cons_at (i := 12) rfl (fun K9 hK9 => ?_) AllReadyH.nil)
        go_simp
        go_at_call 13
        with_reducible refine (same_rows R8 H8.row hm2 (by omega)).mono ?_
        rintro z W9 ⟨rfl, hbK⟩
        have H9 := H8.later hbK
        clear R8 H8 HK
        have HK := hid H9
        go_wp2_with fail
        refine hK9.out _ _ (cells_at HK.out.rct).1 (fun hHeld => ?_)
        clear hK9 K9
        try simp only [Act.put, List.setIfInBounds_toArray, List.set_cons_zero, List.set_cons_succ]
        refine take_yes (i := 13) (v := ?va13) rfl (by kernel_rfl) (by kernel_rfl) (by kernel_rfl) (fun _ _ _ h => h) (by rfl) ?hya13 hHeld ?resta13
        case hya13 =>
          intro w' hSw
          try dsimp only at hSw
          go_simp <;> with_reducible rfl
        try simp only [Act.put, List.setIfInBounds_toArray, List.set_cons_zero, List.set_cons_succ]
        refine take_yes (i := 14) (v := ?va14) rfl (by kernel_rfl) (by kernel_rfl) (by kernel_rfl) (fun _ _ _ h => h) (by rfl) ?hya14 hHeld ?resta14
        case hya14 =>
          intro w' hSw
          try dsimp only at hSw
          go_simp <;> with_reducible rfl
        try simp only [Act.put, List.setIfInBounds_toArray, List.set_cons_zero, List.set_cons_succ]
        refine take_yes (i := 15) (v := ?va15) rfl (by kernel_rfl) (by kernel_rfl) (by kernel_rfl) (fun _ _ _ h => h) (by rfl) ?hya15 hHeld ?resta15
        case hya15 =>
          intro w' hSw
          try dsimp only at hSw
          go_simp <;> with_reducible rfl
        try simp only [Act.put, List.setIfInBounds_toArray, List.set_cons_zero, List.set_cons_succ]
        refine take_yes (i := 16) (v := ?va16) rfl (by kernel_rfl) (by kernel_rfl) (by kernel_rfl) (fun _ _ _ h => h) (by rfl) ?hya16 hHeld ?resta16
        case hya16 =>
          intro w' hSw
          try dsimp only at hSw
          go_simp <;> with_reducible rfl
        try simp only [Act.put, List.setIfInBounds_toArray, List.set_cons_zero, List.set_cons_succ]
        refine take_yes (i := 17) (v := ?va17) rfl (by kernel_rfl) (by kernel_rfl) (by kernel_rfl) (fun _ _ _ h => h) (by rfl) ?hya17 hHeld ?resta17
        case hya17 =>
          intro w' hSw
          try dsimp only at hSw
          go_simp <;> with_reducible rfl
        try simp only [Act.put, List.setIfInBounds_toArray, List.set_cons_zero, List.set_cons_succ]
        refine take_yes (i := 19) (v := ?va19) rfl (by kernel_rfl) (by kernel_rfl) (by kernel_rfl) (fun _ _ _ h => h) (by rfl) ?hya19 hHeld ?resta19
        case hya19 =>
          intro w' hSw
          try dsimp only at hSw
          go_simp <;> with_reducible rfl
        try simp only [Act.put, List.setIfInBounds_toArray, List.set_cons_zero, List.set_cons_succ]
        refine take_yes (i := 20) (v := ?va20) rfl (by kernel_rfl) (by kernel_rfl) (by kernel_rfl) (fun _ _ _ h => h) (by rfl) ?hya20 hHeld ?resta20
        case hya20 =>
          intro w' hSw
          try dsimp only at hSw
          go_simp <;> with_reducible rfl
        try simp only [Act.put, List.setIfInBounds_toArray, List.set_cons_zero, List.set_cons_succ]
        clear hHeld
        refine wpAnyH_ready (rs := [18]) (by kernel_rfl) (by simp) (cons_at (i := 18) rfl (fun K9 hK9 => ?_) AllReadyH.nil)
        go_simp
        go_at_call 15
        with_reducible refine (wd_see H9.tab a20 a21 a22 a23 hM hmM).mono ?_
        rintro z W10 ⟨p10, c10, rfl, R10, hbK⟩
        have H10 := H9.later hbK
        clear H9 HK
        have HK := hid H10
        go_wp2_with fail
        refine hK9.out _ _ (cells_at HK.out.rct).1 (fun hHeld => ?_)
        clear hK9 K9
        try simp only [Act.put, List.setIfInBounds_toArray, List.set_cons_zero, List.set_cons_succ]
        clear hHeld
        refine wpAnyH_ready (rs := [21]) (by kernel_rfl) (by simp) (cons_at (i := 21) rfl (fun K9 hK9 => ?_) AllReadyH.nil)
        go_simp
        go_at_call 16
        with_reducible refine (ref_seen H10.row hm2 (by omega) a20 a21 a22 a23 hM hmM).mono ?_
        rintro z W11 ⟨p11, c11, rfl, R11, hbK⟩
        have H11 := H10.later hbK
        have R10 := R10.later hbK
        clear H10 HK
        have HK := hid H11
        go_wp2_with fail
        refine hK9.out _ _ (cells_at HK.out.rct).1 (fun hHeld => ?_)
        clear hK9 K9
        try simp only [Act.put, List.setIfInBounds_toArray, List.set_cons_zero, List.set_cons_succ]
        clear hHeld
        refine wpAnyH_ready (rs := [22]) (by kernel_rfl) (by simp) (cons_at (i := 22) rfl (fun K9 hK9 => ?_) AllReadyH.nil)
        go_simp
        go_at_call 13
        with_reducible refine (same_rows R10 R11 hmM hmM9).mono ?_
        rintro z W12 ⟨rfl, hbK⟩
        have H12 := H11.later hbK
        clear R10 R11 H11 HK
        have HK := hid H12
        go_wp2_with fail
        refine hK9.out _ _ (cells_at HK.out.rct).1 (fun hHeld => ?_)
        clear hK9 K9
        try simp only [Act.put, List.setIfInBounds_toArray, List.set_cons_zero, List.set_cons_succ]
        refine take_yes (i := 23) (v := ?va23) rfl (by kernel_rfl) (by kernel_rfl) (by kernel_rfl) (fun _ _ _ h => h) (by rfl) ?hya23 hHeld ?resta23
        case hya23 =>
          intro w' hSw
          try dsimp only at hSw
          go_simp <;> with_reducible rfl
        try simp only [Act.put, List.setIfInBounds_toArray, List.set_cons_zero, List.set_cons_succ]
        refine take_yes (i := 24) (v := ?va24) rfl (by kernel_rfl) (by kernel_rfl) (by kernel_rfl) (fun _ _ _ h => h) (by rfl) ?hya24 hHeld ?resta24
        case hya24 =>
          intro w' hSw
          try dsimp only at hSw
          go_simp <;> with_reducible rfl
        try simp only [Act.put, List.setIfInBounds_toArray, List.set_cons_zero, List.set_cons_succ]
        refine take_yes (i := 25) (v := ?va25) rfl (by kernel_rfl) (by kernel_rfl) (by kernel_rfl) (fun _ _ _ h => h) (by rfl) ?hya25 hHeld ?resta25
        case hya25 =>
          intro w' hSw
          try dsimp only at hSw
          go_simp <;> with_reducible rfl
        try simp only [Act.put, List.setIfInBounds_toArray, List.set_cons_zero, List.set_cons_succ]
        refine take_yes (i := 26) (v := ?va26) rfl (by kernel_rfl) (by kernel_rfl) (by kernel_rfl) (fun _ _ _ h => h) (by rfl) ?hya26 hHeld ?resta26
        case hya26 =>
          intro w' hSw
          try dsimp only at hSw
          go_simp <;> with_reducible rfl
        try simp only [Act.put, List.setIfInBounds_toArray, List.set_cons_zero, List.set_cons_succ]
        refine take_yes (i := 28) (v := ?va28) rfl (by kernel_rfl) (by kernel_rfl) (by kernel_rfl) (fun _ _ _ h => h) (by rfl) ?hya28 hHeld ?resta28
        case hya28 =>
          intro w' hSw
          try dsimp only at hSw
          go_simp <;> with_reducible rfl
        try simp only [Act.put, List.setIfInBounds_toArray, List.set_cons_zero, List.set_cons_succ]
        refine take_yes (i := 29) (v := ?va29) rfl (by kernel_rfl) (by kernel_rfl) (by kernel_rfl) (fun _ _ _ h => h) (by rfl) ?hya29 hHeld ?resta29
        case hya29 =>
          intro w' hSw
          try dsimp only at hSw
          go_simp <;> with_reducible rfl
        try simp only [Act.put, List.setIfInBounds_toArray, List.set_cons_zero, List.set_cons_succ]
        clear hHeld
        refine wpAnyH_ready (rs := [27]) (by kernel_rfl) (by simp) (cons_at (i := 27) rfl (fun K9 hK9 => ?_) AllReadyH.nil)
        go_simp
        go_at_call 17
        with_reducible refine (wd_len H12.tab hm2).mono ?_
        rintro z W13 ⟨rfl, hw⟩
        have HE := hid H12
        have hw2 := hid hw
        clear H12 hw
        go_wp2_with fail
        have hw3 := hw2.out
        subst hw3
        refine hK9.out _ _ (cells_at HE.out.rct).1 (fun hHeld => ?_)
        clear hK9 K9
        try simp only [Act.put, List.setIfInBounds_toArray, List.set_cons_zero, List.set_cons_succ]
        refine take_yes (i := 30) (v := ?va30) rfl (by kernel_rfl) (by kernel_rfl) (by kernel_rfl) (fun _ _ _ h => h) (by rfl) ?hya30 hHeld ?resta30
        case hya30 =>
          intro w' hSw
          try dsimp only at hSw
          go_simp <;> with_reducible rfl
        try simp only [Act.put, List.setIfInBounds_toArray, List.set_cons_zero, List.set_cons_succ]
        refine take_yes (i := 31) (v := ?va31) rfl (by kernel_rfl) (by kernel_rfl) (by kernel_rfl) (fun _ _ _ h => h) (by rfl) ?hya31 hHeld ?resta31
        case hya31 =>
          intro w' hSw
          try dsimp only at hSw
          go_simp <;> with_reducible rfl
        try simp only [Act.put, List.setIfInBounds_toArray, List.set_cons_zero, List.set_cons_succ]
        refine wpAnyH_done (by kernel_rfl) ?_ _
        go_wp2_with fail
        go_roundw
        case rel => exact ⟨k + 1, L', p5, m', cap5, by omega, by go_num, rfl, hm2, hSL, hid HE.out.tab, hid HE.out.row⟩
        case measure => simp [intOf]; omega
      · have hkm' : ¬ (k : Int) < (len1 : Int) := by omega
        obtain rfl : D = 0 := by rw [← hDh.out, List.getD_eq_getElem?_getD, List.getElem?_eq_none (by rw [HT1.out]; omega)]; rfl
        go_upto_region 15 with fail
        clear hDh Q2
        go_wp2_with fail
        with_reducible refine (t2_copy T2'.out HM0.out).mono ?_
        rintro z W3 ⟨cb, rfl, T3, hb3⟩
        have T3h := hid T3
        have R3 := hid (R2.out.later hb3)
        have G3 := hid (range_on HG.out T3.below)
        clear T3 hb3 T2' R2
        go_wp2_with (with_reducible refine wpList_load_mid_cm rfl (.tmp 49) rfl rfl G3.out ?_)
        refine (t2_do T3h.out hcin.out hDI.out hN hE hL').mono ?_
        rintro z W4 ⟨rfl, T4, hK4⟩
        have T4h := hid T4
        have R4 := hid (R3.out.kept hK4 (fun k hk => hk))
        have G4 := hid (range_on HG.out T4.below)
        clear T4 hK4 T3h R3 G3
        go_wp2_with (with_reducible refine wpList_load_mid_cm rfl (.tmp 59) rfl rfl G4.out ?_)
        refine (ref_doF R4.out hG.out hmL (in_sized hcin.out) hL' hm2 hN hE).mono ?_
        rintro z W5 ⟨p5, cap5, rfl, hr5, hq5, hb5⟩
        have T5 := hid (T4h.out.alsos hb5 (R := rowB p5) hq5).swap
        have R5 := hid hr5
        clear T4h R4 G4 hr5 hq5 hb5
        obtain ⟨N9, hN9⟩ : ∃ x, Hid (wdN L (cmPut 0 0) 999999 = x) := ⟨_, rfl⟩
        obtain ⟨E9, hE9⟩ : ∃ x, Hid (wdE L (cmPut 0 0) 999999 = x) := ⟨_, rfl⟩
        obtain ⟨L9, hL9⟩ : ∃ x, Hid (wdL L (cmPut 0 0) 999999 = x) := ⟨_, rfl⟩
        go_wp2_with fail
        with_reducible refine (t2_do (c := cmPut 0 0) (id := 999999) T5.out cm_in0 (inI_small (by decide) (by decide)) hN9 hE9 hL9).mono ?_
        rintro z W6 ⟨rfl, T6, hK6⟩
        have HA := hid (show AW W0 W6 wb gb L' p5 a20 a21 a22 a23 from ⟨T6.snd, R5.out.kept hK6 (fun k hk => hk), var_on T6.below KR0.out (lt_of_at KR0.out)⟩)
        clear T6 hK6 T5 R5 hN9 hE9 hL9
        go_upto_region 20 with fail
        refine wp_region_held_drew (S := fun w' => (∀ i, w'.cell? ⟨gb, i, none⟩ = (#[.int .i64 a20, .int .i64 a21, .int .i64 a22, .int .i64 a23] : Array Value)[i]?)) (by kernel_rfl) (cells_at HA.out.rct).1 (fun hHeld => ?_)
        refine take_yes (i := 0) (v := ?vb0) rfl (by kernel_rfl) (by kernel_rfl) (by kernel_rfl) (fun _ _ _ h => h) (by rfl) ?hyb0 hHeld ?restb0
        case hyb0 =>
          intro w' hSw
          try dsimp only at hSw
          go_simp <;> with_reducible rfl
        try simp only [Act.put, List.setIfInBounds_toArray, List.set_cons_zero, List.set_cons_succ]
        refine take_yes (i := 1) (v := ?vb1) rfl (by kernel_rfl) (by kernel_rfl) (by kernel_rfl) (fun _ _ _ h => h) (by rfl) ?hyb1 hHeld ?restb1
        case hyb1 =>
          intro w' hSw
          try dsimp only at hSw
          go_simp <;> with_reducible rfl
        try simp only [Act.put, List.setIfInBounds_toArray, List.set_cons_zero, List.set_cons_succ]
        refine take_yes (i := 2) (v := ?vb2) rfl (by kernel_rfl) (by kernel_rfl) (by kernel_rfl) (fun _ _ _ h => h) (by rfl) ?hyb2 hHeld ?restb2
        case hyb2 =>
          intro w' hSw
          try dsimp only at hSw
          go_simp <;> with_reducible rfl
        try simp only [Act.put, List.setIfInBounds_toArray, List.set_cons_zero, List.set_cons_succ]
        refine take_yes (i := 3) (v := ?vb3) rfl (by kernel_rfl) (by kernel_rfl) (by kernel_rfl) (fun _ _ _ h => h) (by rfl) ?hyb3 hHeld ?restb3
        case hyb3 =>
          intro w' hSw
          try dsimp only at hSw
          go_simp <;> with_reducible rfl
        try simp only [Act.put, List.setIfInBounds_toArray, List.set_cons_zero, List.set_cons_succ]
        refine take_yes (i := 4) (v := ?vb4) rfl (by kernel_rfl) (by kernel_rfl) (by kernel_rfl) (fun _ _ _ h => h) (by rfl) ?hyb4 hHeld ?restb4
        case hyb4 =>
          intro w' hSw
          try dsimp only at hSw
          go_simp <;> with_reducible rfl
        try simp only [Act.put, List.setIfInBounds_toArray, List.set_cons_zero, List.set_cons_succ]
        refine take_yes (i := 5) (v := ?vb5) rfl (by kernel_rfl) (by kernel_rfl) (by kernel_rfl) (fun _ _ _ h => h) (by rfl) ?hyb5 hHeld ?restb5
        case hyb5 =>
          intro w' hSw
          try dsimp only at hSw
          go_simp <;> with_reducible rfl
        try simp only [Act.put, List.setIfInBounds_toArray, List.set_cons_zero, List.set_cons_succ]
        refine take_yes (i := 6) (v := ?vb6) rfl (by kernel_rfl) (by kernel_rfl) (by kernel_rfl) (fun _ _ _ h => h) (by rfl) ?hyb6 hHeld ?restb6
        case hyb6 =>
          intro w' hSw
          try dsimp only at hSw
          go_simp <;> with_reducible rfl
        try simp only [Act.put, List.setIfInBounds_toArray, List.set_cons_zero, List.set_cons_succ]
        refine take_yes (i := 7) (v := ?vb7) rfl (by kernel_rfl) (by kernel_rfl) (by kernel_rfl) (fun _ _ _ h => h) (by rfl) ?hyb7 hHeld ?restb7
        case hyb7 =>
          intro w' hSw
          try dsimp only at hSw
          go_simp <;> with_reducible rfl
        try simp only [Act.put, List.setIfInBounds_toArray, List.set_cons_zero, List.set_cons_succ]
        refine take_yes (i := 8) (v := ?vb8) rfl (by kernel_rfl) (by kernel_rfl) (by kernel_rfl) (fun _ _ _ h => h) (by rfl) ?hyb8 hHeld ?restb8
        case hyb8 =>
          intro w' hSw
          try dsimp only at hSw
          go_simp <;> with_reducible rfl
        try simp only [Act.put, List.setIfInBounds_toArray, List.set_cons_zero, List.set_cons_succ]
        refine take_yes (i := 9) (v := ?vb9) rfl (by kernel_rfl) (by kernel_rfl) (by kernel_rfl) (fun _ _ _ h => h) (by rfl) ?hyb9 hHeld ?restb9
        case hyb9 =>
          intro w' hSw
          try dsimp only at hSw
          go_simp <;> with_reducible rfl
        try simp only [Act.put, List.setIfInBounds_toArray, List.set_cons_zero, List.set_cons_succ]
        refine take_yes (i := 11) (v := ?vb11) rfl (by kernel_rfl) (by kernel_rfl) (by kernel_rfl) (fun _ _ _ h => h) (by rfl) ?hyb11 hHeld ?restb11
        case hyb11 =>
          intro w' hSw
          try dsimp only at hSw
          go_simp <;> with_reducible rfl
        try simp only [Act.put, List.setIfInBounds_toArray, List.set_cons_zero, List.set_cons_succ]
        clear hHeld
        refine wpAnyH_ready (rs := [10]) (by kernel_rfl) (by simp) (cons_at (i := 10) rfl (fun K9 hK9 => ?_) AllReadyH.nil)
        go_simp
        go_at_call 14
        with_reducible refine (wd_all (HA.out.later (by first | exact Below.refl _ _ | exact (Below.refl _ _).drew)).tab hm2).mono ?_
        rintro z W8 ⟨p8, c8, rfl, R8, hbK⟩
        have H8 := (HA.out.later (by first | exact (Below.refl _ _).drew | exact Below.refl _ _)).later hbK
        have HK := hid H8
        go_wp2_with fail
        refine hK9.out _ _ (cells_at HK.out.rct).1 (fun hHeld => ?_)
        clear hK9 K9
        try simp only [Act.put, List.setIfInBounds_toArray, List.set_cons_zero, List.set_cons_succ]
        clear hHeld
        refine wpAnyH_ready (rs := [12]) (by kernel_rfl) (by simp) (cons_at (i := 12) rfl (fun K9 hK9 => ?_) AllReadyH.nil)
        go_simp
        go_at_call 13
        with_reducible refine (same_rows R8 H8.row hm2 (by omega)).mono ?_
        rintro z W9 ⟨rfl, hbK⟩
        have H9 := H8.later hbK
        clear R8 H8 HK
        have HK := hid H9
        go_wp2_with fail
        refine hK9.out _ _ (cells_at HK.out.rct).1 (fun hHeld => ?_)
        clear hK9 K9
        try simp only [Act.put, List.setIfInBounds_toArray, List.set_cons_zero, List.set_cons_succ]
        refine take_yes (i := 13) (v := ?vb13) rfl (by kernel_rfl) (by kernel_rfl) (by kernel_rfl) (fun _ _ _ h => h) (by rfl) ?hyb13 hHeld ?restb13
        case hyb13 =>
          intro w' hSw
          try dsimp only at hSw
          go_simp <;> with_reducible rfl
        try simp only [Act.put, List.setIfInBounds_toArray, List.set_cons_zero, List.set_cons_succ]
        refine take_yes (i := 14) (v := ?vb14) rfl (by kernel_rfl) (by kernel_rfl) (by kernel_rfl) (fun _ _ _ h => h) (by rfl) ?hyb14 hHeld ?restb14
        case hyb14 =>
          intro w' hSw
          try dsimp only at hSw
          go_simp <;> with_reducible rfl
        try simp only [Act.put, List.setIfInBounds_toArray, List.set_cons_zero, List.set_cons_succ]
        refine take_yes (i := 15) (v := ?vb15) rfl (by kernel_rfl) (by kernel_rfl) (by kernel_rfl) (fun _ _ _ h => h) (by rfl) ?hyb15 hHeld ?restb15
        case hyb15 =>
          intro w' hSw
          try dsimp only at hSw
          go_simp <;> with_reducible rfl
        try simp only [Act.put, List.setIfInBounds_toArray, List.set_cons_zero, List.set_cons_succ]
        refine take_yes (i := 16) (v := ?vb16) rfl (by kernel_rfl) (by kernel_rfl) (by kernel_rfl) (fun _ _ _ h => h) (by rfl) ?hyb16 hHeld ?restb16
        case hyb16 =>
          intro w' hSw
          try dsimp only at hSw
          go_simp <;> with_reducible rfl
        try simp only [Act.put, List.setIfInBounds_toArray, List.set_cons_zero, List.set_cons_succ]
        refine take_yes (i := 17) (v := ?vb17) rfl (by kernel_rfl) (by kernel_rfl) (by kernel_rfl) (fun _ _ _ h => h) (by rfl) ?hyb17 hHeld ?restb17
        case hyb17 =>
          intro w' hSw
          try dsimp only at hSw
          go_simp <;> with_reducible rfl
        try simp only [Act.put, List.setIfInBounds_toArray, List.set_cons_zero, List.set_cons_succ]
        refine take_yes (i := 19) (v := ?vb19) rfl (by kernel_rfl) (by kernel_rfl) (by kernel_rfl) (fun _ _ _ h => h) (by rfl) ?hyb19 hHeld ?restb19
        case hyb19 =>
          intro w' hSw
          try dsimp only at hSw
          go_simp <;> with_reducible rfl
        try simp only [Act.put, List.setIfInBounds_toArray, List.set_cons_zero, List.set_cons_succ]
        refine take_yes (i := 20) (v := ?vb20) rfl (by kernel_rfl) (by kernel_rfl) (by kernel_rfl) (fun _ _ _ h => h) (by rfl) ?hyb20 hHeld ?restb20
        case hyb20 =>
          intro w' hSw
          try dsimp only at hSw
          go_simp <;> with_reducible rfl
        try simp only [Act.put, List.setIfInBounds_toArray, List.set_cons_zero, List.set_cons_succ]
        clear hHeld
        refine wpAnyH_ready (rs := [18]) (by kernel_rfl) (by simp) (cons_at (i := 18) rfl (fun K9 hK9 => ?_) AllReadyH.nil)
        go_simp
        go_at_call 15
        with_reducible refine (wd_see H9.tab a20 a21 a22 a23 hM hmM).mono ?_
        rintro z W10 ⟨p10, c10, rfl, R10, hbK⟩
        have H10 := H9.later hbK
        clear H9 HK
        have HK := hid H10
        go_wp2_with fail
        refine hK9.out _ _ (cells_at HK.out.rct).1 (fun hHeld => ?_)
        clear hK9 K9
        try simp only [Act.put, List.setIfInBounds_toArray, List.set_cons_zero, List.set_cons_succ]
        clear hHeld
        refine wpAnyH_ready (rs := [21]) (by kernel_rfl) (by simp) (cons_at (i := 21) rfl (fun K9 hK9 => ?_) AllReadyH.nil)
        go_simp
        go_at_call 16
        with_reducible refine (ref_seen H10.row hm2 (by omega) a20 a21 a22 a23 hM hmM).mono ?_
        rintro z W11 ⟨p11, c11, rfl, R11, hbK⟩
        have H11 := H10.later hbK
        have R10 := R10.later hbK
        clear H10 HK
        have HK := hid H11
        go_wp2_with fail
        refine hK9.out _ _ (cells_at HK.out.rct).1 (fun hHeld => ?_)
        clear hK9 K9
        try simp only [Act.put, List.setIfInBounds_toArray, List.set_cons_zero, List.set_cons_succ]
        clear hHeld
        refine wpAnyH_ready (rs := [22]) (by kernel_rfl) (by simp) (cons_at (i := 22) rfl (fun K9 hK9 => ?_) AllReadyH.nil)
        go_simp
        go_at_call 13
        with_reducible refine (same_rows R10 R11 hmM hmM9).mono ?_
        rintro z W12 ⟨rfl, hbK⟩
        have H12 := H11.later hbK
        clear R10 R11 H11 HK
        have HK := hid H12
        go_wp2_with fail
        refine hK9.out _ _ (cells_at HK.out.rct).1 (fun hHeld => ?_)
        clear hK9 K9
        try simp only [Act.put, List.setIfInBounds_toArray, List.set_cons_zero, List.set_cons_succ]
        refine take_yes (i := 23) (v := ?vb23) rfl (by kernel_rfl) (by kernel_rfl) (by kernel_rfl) (fun _ _ _ h => h) (by rfl) ?hyb23 hHeld ?restb23
        case hyb23 =>
          intro w' hSw
          try dsimp only at hSw
          go_simp <;> with_reducible rfl
        try simp only [Act.put, List.setIfInBounds_toArray, List.set_cons_zero, List.set_cons_succ]
        refine take_yes (i := 24) (v := ?vb24) rfl (by kernel_rfl) (by kernel_rfl) (by kernel_rfl) (fun _ _ _ h => h) (by rfl) ?hyb24 hHeld ?restb24
        case hyb24 =>
          intro w' hSw
          try dsimp only at hSw
          go_simp <;> with_reducible rfl
        try simp only [Act.put, List.setIfInBounds_toArray, List.set_cons_zero, List.set_cons_succ]
        refine take_yes (i := 25) (v := ?vb25) rfl (by kernel_rfl) (by kernel_rfl) (by kernel_rfl) (fun _ _ _ h => h) (by rfl) ?hyb25 hHeld ?restb25
        case hyb25 =>
          intro w' hSw
          try dsimp only at hSw
          go_simp <;> with_reducible rfl
        try simp only [Act.put, List.setIfInBounds_toArray, List.set_cons_zero, List.set_cons_succ]
        refine take_yes (i := 26) (v := ?vb26) rfl (by kernel_rfl) (by kernel_rfl) (by kernel_rfl) (fun _ _ _ h => h) (by rfl) ?hyb26 hHeld ?restb26
        case hyb26 =>
          intro w' hSw
          try dsimp only at hSw
          go_simp <;> with_reducible rfl
        try simp only [Act.put, List.setIfInBounds_toArray, List.set_cons_zero, List.set_cons_succ]
        refine take_yes (i := 28) (v := ?vb28) rfl (by kernel_rfl) (by kernel_rfl) (by kernel_rfl) (fun _ _ _ h => h) (by rfl) ?hyb28 hHeld ?restb28
        case hyb28 =>
          intro w' hSw
          try dsimp only at hSw
          go_simp <;> with_reducible rfl
        try simp only [Act.put, List.setIfInBounds_toArray, List.set_cons_zero, List.set_cons_succ]
        refine take_yes (i := 29) (v := ?vb29) rfl (by kernel_rfl) (by kernel_rfl) (by kernel_rfl) (fun _ _ _ h => h) (by rfl) ?hyb29 hHeld ?restb29
        case hyb29 =>
          intro w' hSw
          try dsimp only at hSw
          go_simp <;> with_reducible rfl
        try simp only [Act.put, List.setIfInBounds_toArray, List.set_cons_zero, List.set_cons_succ]
        clear hHeld
        refine wpAnyH_ready (rs := [27]) (by kernel_rfl) (by simp) (cons_at (i := 27) rfl (fun K9 hK9 => ?_) AllReadyH.nil)
        go_simp
        go_at_call 17
        with_reducible refine (wd_len H12.tab hm2).mono ?_
        rintro z W13 ⟨rfl, hw⟩
        have HE := hid H12
        have hw2 := hid hw
        clear H12 hw
        go_wp2_with fail
        have hw3 := hw2.out
        subst hw3
        refine hK9.out _ _ (cells_at HE.out.rct).1 (fun hHeld => ?_)
        clear hK9 K9
        try simp only [Act.put, List.setIfInBounds_toArray, List.set_cons_zero, List.set_cons_succ]
        refine take_yes (i := 30) (v := ?vb30) rfl (by kernel_rfl) (by kernel_rfl) (by kernel_rfl) (fun _ _ _ h => h) (by rfl) ?hyb30 hHeld ?restb30
        case hyb30 =>
          intro w' hSw
          try dsimp only at hSw
          go_simp <;> with_reducible rfl
        try simp only [Act.put, List.setIfInBounds_toArray, List.set_cons_zero, List.set_cons_succ]
        refine take_yes (i := 31) (v := ?vb31) rfl (by kernel_rfl) (by kernel_rfl) (by kernel_rfl) (fun _ _ _ h => h) (by rfl) ?hyb31 hHeld ?restb31
        case hyb31 =>
          intro w' hSw
          try dsimp only at hSw
          go_simp <;> with_reducible rfl
        try simp only [Act.put, List.setIfInBounds_toArray, List.set_cons_zero, List.set_cons_succ]
        refine wpAnyH_done (by kernel_rfl) ?_ _
        go_wp2_with fail
        go_roundw
        case rel => exact ⟨k + 1, L', p5, m', cap5, by omega, by go_num, rfl, hm2, hSL, hid HE.out.tab, hid HE.out.row⟩
        case measure => simp [intOf]; omega
    · obtain rfl : k = n := by omega
      have hlt' : ¬ (k : Int) < (k : Int) := by omega
      have hb := T.out.below
      have HMr := hid (HM0.out.below hb)
      have HRr := hid (HR0.out.later hb)
      have HQr := hid (HQ0.out.later hb)
      have hBr := below_on hB0 hb
      clear hb
      go_wp2_with fail
      with_reducible refine (wd_of HMr.out HRr.out HI.out hn hm HQr.out HI1.out HT1 hl1 hLk).mono ?_
      rintro z W2 ⟨ob2, rfl, T2'⟩
      have T2h := hid T2'
      have R2 := hid (HRW.out.later T2'.below)
      have hB2 := below_on hBr T2'.below
      clear T2' T HRW HMr HRr HQr hBr
      go_wp2_with fail
      with_reducible refine (wd_all T2h.out hmL).mono ?_
      rintro z W3 ⟨p3, c3, rfl, R3, hb3⟩
      have R3' := hid (R2.out.later hb3)
      have hB3 := below_on hB2 hb3
      clear T2h R2 hb3 hB2
      go_wp2_with fail
      with_reducible refine (same_rows R3 R3'.out hmL (by omega)).mono ?_
      rintro z W4 ⟨rfl, hb4⟩
      have hB4 := below_on hB3 hb4
      go_wp2_with fail
      go_ret
      exact ⟨rfl, by first | exact hB4 | (rw [← hgb]; exact hB4)⟩

theorem worldPlays_own : ownKnob Tryz.prog.godebug = none := by kernel_rfl
theorem worldPlays_laidOut : laidOutB Tryz.prog = true := by kernel_rfl
set_option maxRecDepth 100000 in
theorem worldPlays_lifted (os : Os) (started : os.Started) (H : Type) (enc : TypeId × Value → H) :
    ReturnsInHanded {} Tryz.checked os 3 .any (fun w args => (Rows.worldPlaysSpec.pre enc Tryz.prog Tryz.f3 [] false w args ∧ laidMetH Tryz.prog laids w) ∧ sizedMet enc Tryz.prog Tryz.f3 (OpenSpec.ofChange Rows.worldPlaysSpec) false w args) (Rows.worldPlaysSpec.post enc Tryz.prog Tryz.f3 false true false false) := by
  refine returnsInHanded_of_change_and (C := Tryz.checked) (X := fun w _ => laidMetH Tryz.prog laids w) (fun _ _ _ hh h => h.of_heap hh) own_knob started (by kernel_rfl) Tryz.func3
    (ChangeSpec.witness_shaped (enc := enc) (C := Tryz.checked) (os := os) (X := fun w _ => laidMetH Tryz.prog laids w) false (World.laidAll Tryz.prog os laids) #[.slice none 0 0, .slice none 0 0, .agg #[.int .i64 0, .int .i64 0, .int .i64 0, .int .i64 0]] 8 rfl (World.shaped_of_ZipB (by kernel_rfl) (by kernel_rfl)) (by kernel_rfl) (by kernel_rfl) (by kernel_rfl) (door_met os _)) ?_
  intro W base args ds gs before hval0 hW _ _ hL _
  have hval : ∀ (j : Nat) t v, Tryz.f3.params[j]? = some t → args[j]? = some v → Value.okWide Tryz.prog W .any base t v := hval0
  have hW' := hW
  obtain ⟨p, q, hA0, hV, rfl, hfz, hnd⟩ := hW
  have hA : DataW.TrodAll enc Tryz.prog W 0 (fun _ => true) true Tryz.f3.params.toList args.toList ds p := hA0
  rw [Tryz.params3] at hA hval
  obtain ⟨v0, vs0, d0, ds0, p0, q0, hargs, rfl, rfl, h0, r0⟩ := trodAll_cons hA
  obtain ⟨v1, vs1, d1, ds1, p1, q1, rfl, rfl, rfl, h1, r1⟩ := trodAll_cons r0
  obtain ⟨v2, vs2, d2, ds2, p2, q2, rfl, rfl, rfl, h2, r2⟩ := trodAll_cons r1
  obtain ⟨rfl, rfl, rfl⟩ := trodAll_nil r2
  obtain rfl : args = #[v0, v1, v2] := by cases args; simp_all
  obtain ⟨rfl, rfl⟩ := trodVars_none hV
  have k0 := h0
  have lt0 : ∀ x ∈ p0, x.block < W.heap.size := by obtain ⟨m, hm⟩ := k0; exact DataW.trod_lt m _ _ _ hm
  have k1 := h1
  have lt1 : ∀ x ∈ p1, x.block < W.heap.size := by obtain ⟨m, hm⟩ := k1; exact DataW.trod_lt m _ _ _ hm
  have k2 := h2
  have lt2 : ∀ x ∈ p2, x.block < W.heap.size := by obtain ⟨m, hm⟩ := k2; exact DataW.trod_lt m _ _ _ hm
  obtain ⟨a0, cap0, L0, rfl, i0, r0', c0, m0⟩ := open_cms (hval 0 22 v0 rfl rfl) h0
  obtain ⟨a1, len1, cap1, rfl⟩ := okWide_slice Tryz.underlying23 (hval 1 23 v1 rfl rfl)
  obtain ⟨ts1, ht1, hb1, hr1, hl1⟩ : ∃ ts1 : List Int, ts1.length = len1 ∧ (∀ n ∈ ts1, (Lit.int .i64 n).wf = true) ∧ RowIs W a1 (nums .i64 ts1) ∧ len1 ≤ maxLen := by
    obtain ⟨fuel, hf⟩ := h1
    rcases open_ints Tryz.underlying23 Tryz.underlying3 (by kernel_rfl) hf with ⟨hcs, _⟩ | ⟨x, l, c, ss, hcs, _, hl, hm, hz, _, hcell, hws⟩
    · simp [Value.cells] at hcs
      obtain ⟨rfl, rfl, rfl⟩ := hcs
      exact ⟨[], rfl, by simp, .inl rfl, by unfold maxLen; omega⟩
    · simp [Value.cells] at hcs
      obtain ⟨rfl, rfl, rfl⟩ := hcs
      have hz' : ss.length = cap1 := by simpa using hz
      obtain ⟨ts, e1, e2, e3⟩ := row_ints (len := len1) (by omega) hcell hws
      exact ⟨ts, e1, e2, e3, by omega⟩
  obtain ⟨c20, c21, c22, c23, y20, y21, y22, y23, n2, rfl, rfl, rfl, t20, t21, t22, t23⟩ := Go.Joins.open_agg4 Tryz.underlying25 (by kernel_rfl) (by kernel_rfl) (hval 2 25 v2 rfl rfl) h2
  obtain ⟨a20, e20, -, w20⟩ := DataW.trod_int Tryz.underlying3 t20
  obtain rfl : c20 = .int .i64 a20 := by simpa using e20
  obtain ⟨a21, e21, -, w21⟩ := DataW.trod_int Tryz.underlying3 t21
  obtain rfl : c21 = .int .i64 a21 := by simpa using e21
  obtain ⟨a22, e22, -, w22⟩ := DataW.trod_int Tryz.underlying3 t22
  obtain rfl : c22 = .int .i64 a22 := by simpa using e22
  obtain ⟨a23, e23, -, w23⟩ := DataW.trod_int Tryz.underlying3 t23
  obtain rfl : c23 = .int .i64 a23 := by simpa using e23
  clear hA0 hval0
  refine (worldPlays_walk W (of_laid hL) a0 cap0 L0 i0 r0' c0 m0 a1 len1 cap1 ts1 ht1 hb1 hr1 hl1 a20 a21 a22 a23).mono fun e W' ⟨he, bel⟩ => ?_
  subst he
  exact ⟨_, rfl, _, _, _, [], _, [], hW', trodAll_mk1 (shut_bool Tryz.underlying4 _), (trodAll_cons_mk (Below.trod worldPlays_laidOut (by kernel_rfl) (of_decide_eq_true (by kernel_rfl)) k0 bel lt0) (trodAll_cons_mk (Below.trod worldPlays_laidOut (by kernel_rfl) (of_decide_eq_true (by kernel_rfl)) k1 bel lt1) (trodAll_cons_mk (Below.trod worldPlays_laidOut (by kernel_rfl) (of_decide_eq_true (by kernel_rfl)) k2 bel lt2) trodAll_mk0))), rfl, bel.frame _, fun h => by cases h⟩

theorem worldPlays_over : Rows.worldPlaysRow.holds Tryz.pinned (OpenSpec.ofChange Rows.worldPlaysSpec) :=
  OpenClaim.holds_of_wide 3 Tryz.f3 rfl rfl rfl rfl rfl rfl rfl ⟨rfl, rfl, rfl, rfl, rfl⟩ rfl rfl rfl rfl rfl (by kernel_rfl) Tryz.func3 (by kernel_rfl)
    (of_decide_eq_true (by kernel_rfl)) (by unfold Func.isWrapper; first | (rw [if_pos (by decide +kernel)]; kernel_rfl) | (rw [if_neg (by decide +kernel)]; exact ⟨rfl, rfl⟩))
    (fun os started H enc _ => worldPlays_lifted os started H enc)

theorem worldPlays_holds : Rows.WorldPlaysCardSaid :=
  Claim7.holds_tied_plain_at .later [] [.data] true (true, "dedd6cb34770d93af0edbf2928e7be5c3a09ebc128949375eb309686618b9df1") true
    worldPlays_over (fun _ h => by cases h) (by kernel_rfl) (fun _ h => by cases h) worldPlays_row_tie rfl ⟨rfl, rfl⟩ (by kernel_rfl) rfl
    (fun f fn hf hfn => by
      obtain rfl : f = 3 := Option.some.inj ((show Tryz.prog.funcNamed "vedette/vedettelaw12.WorldPlays" = some 3 by kernel_rfl).symm.trans hf) |>.symm
      obtain rfl : fn = Tryz.f3 := (Option.some.inj (Tryz.func3.symm.trans hfn)).symm
      exact ⟨by kernel_rfl, fun j t ht => by
        rw [Tryz.params3] at ht
        have hm : t ∈ [22, 23, 25] := by simpa using Array.mem_of_getElem? ht
        have hall : ([22, 23, 25].all fun u => !Tryz.prog.wantsStandIn u) = true := by kernel_rfl
        exact (show Tryz.prog.wantsStandIn t = false by simpa using List.all_eq_true.1 hall t hm)⟩)
    (by kernel_rfl)
#print axioms worldPlays_holds
end Go.Proofs.YtfoncphdbaaedaaGreatDoor
