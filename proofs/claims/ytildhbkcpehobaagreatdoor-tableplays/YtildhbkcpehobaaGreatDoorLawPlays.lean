/- For every row of steps: each put, set, drop of a table and each copy of it answers as the document says, and all things, those of a rectangle, of a cell, by a number, are the document's behind each. No conditions. -/
import Derived.Test.YtildhbkcpehobaaGreatDoorKnown9
import Derived.Test.YtildhbkcpehobaaGreatDoorTbY
import Derived.Test.YtildhbkcpehobaaGreatDoorTbZ
import Derived.Deep.CutBlock
import Derived.Test.YtildhbkcpehobaaGreatDoorLaid
import Derived.Test.YtildhbkcpehobaaGreatDoorCards
import Derived.Test.YtildhbkcpehobaaGreatDoorTie
import Derived.SevenTiedAt
import Derived.ProofKit
import Derived.OpenShut
import Derived.ShutString
import Derived.ChangeOld
import Derived.Below
import Derived.SizedLaws
namespace Go.Proofs.YtildhbkcpehobaaGreatDoor
open Go.ChangeShapes Go.WideShapes Go.ChangeAt Go.RowKit
open Go.ChangeMaps (open_string shut_string)
set_option linter.unusedVariables false

theorem TK.one {W0 w : World} {tb : Nat} {L : List Th} {g : Nat} {K : List Nat} (k : TK W0 w tb L (g :: K)) : TK W0 w tb L K := by
  obtain ⟨X, h1, h2⟩ := k.has
  exact ⟨X, h1, fun x hx => h2 x (List.mem_cons_of_mem _ hx)⟩
set_option maxRecDepth 100000 in
set_option maxHeartbeats 8000000 in
theorem tablePlays_walk (w : World) (hL : Masks w) (a0 : Option Addr) (cap0 : Nat) (L0 : List St) (i0 : ∀ s ∈ L0, inS s) (r0 : RowG St.cs 17 w a0 L0) (c0 : L0.length ≤ cap0) (m0 : cap0 ≤ maxLen) :
    Calls Tryz.prog 3 #[.slice a0 L0.length cap0] w fun e w' => e = .returned (.bool true) ∧ Below w.heap.size w w' := by
  have CK := known9 w hL
  have HM := hid hL
  have HR := hid r0
  have HI := hid i0
  have hm0 : cap0 ≤ 9223372036854775807 := m0
  clear hL r0 i0 m0
  obtain ⟨n, hn⟩ : ∃ n, Hid (L0.length = n) := ⟨_, rfl⟩
  rw [hn.out] at c0 ⊢
  by_cases hbig : n ≤ 50
  · have hbig' : ¬ (50 : Int) < (n : Int) := by omega
    go_enter Tryz.func3, Tryz.ntmps3
    go_wp2_with fail
    with_reducible refine CK.mono ?_
    rintro z W0 ⟨rfl, hb0⟩
    have HM0 := hid (HM.out.below hb0)
    have HR0 := hid (HR.out.later hb0)
    clear CK HM HR
    go_wp2_with fail
    with_reducible refine (tk_new HM0.out).mono ?_
    rintro z W1 ⟨tb1, rfl, T1⟩
    go_wp2_with fail
    go_loopw [5, 3, 4] (fun i s3 s4 wr => ∃ (k tb : Nat) (L : List Th) (p : Option Addr) (m cap : Nat), k ≤ n ∧ i = .int .i64 (k : Nat) ∧ s3 = .pointer (some ⟨tb, 0, none⟩) ∧ s4 = .slice p m cap ∧ Hid (L.length = m) ∧ m ≤ k ∧ TK W0 wr tb L (rowB p) ∧ Hid (RowT wr p L)) (fun i _ _ _ => n - (intOf i).toNat)
    case atStart => exact ⟨0, tb1, [], none, 0, 0, by omega, rfl, rfl, rfl, (show Hid _ from rfl), Nat.le_refl _, T1, (show Hid _ from .inl rfl)⟩
    case round =>
      obtain ⟨k, tb, L, p, m, cap, hk, rfl, rfl, rfl, hm, hmk, T, HRW⟩ := hrel
      clear T1
      have hG := hid T.good
      by_cases hlt : k < n
      · have hlt' : (k : Int) < (n : Int) := by omega
        obtain ⟨s, hs⟩ := get_some L0 k (by rw [hn.out]; exact hlt)
        have hin := HI.out s (List.mem_of_getElem? hs)
        obtain ⟨hi1, hi2⟩ := (show inT s.t ∧ inI s.t.id from hin)
        obtain ⟨b, off, rfl, hc⟩ := st_at (HR0.out.later T.below) hs
        clear hs
        obtain ⟨W2, hW2⟩ : ∃ W2, wr.alloc (stO s) = W2 := ⟨_, rfl⟩
        have hb2 : Below wr.heap.size wr W2 := by rw [← hW2]; exact below1 _ _
        have Q2 : QS W0 W2 tb wr.heap.size L L p s := ⟨by rw [← hW2]; exact T.also (below1 _ _) (Nat.le_refl _) (by simp), HRW.out.later hb2, by rw [← hW2]; exact new_at _ _ _ rfl⟩
        unfold stO at hW2
        have HW2 := hid hW2
        clear hW2 T HRW hb2
        go_upto_region 11 with fail
        rw [HW2.out]
        clear HW2 hc
        obtain ⟨sb, hsb⟩ : ∃ sb, wr.heap.size = sb := ⟨_, rfl⟩
        rw [hsb] at Q2 ⊢
        clear hsb
        obtain ⟨q, hq⟩ : ∃ q, few4 s.t.f = q := ⟨_, rfl⟩
        have ck := cells_at Q2.step
        go_wp2_with fail
        with_reducible refine (fewT_at hq _ hi1).mono ?_
        rintro z W3 ⟨rfl, hb3⟩
        have Q3 := Q2.later hb3
        clear Q2 ck hb3 hq
        cases q
        · go_wp2_with fail
          have hB := Q3.tab.below
          go_ret
          exact ⟨rfl, below_on hb0 hB⟩
        · go_wp2_with fail
          with_reducible refine (qs_copy Q3 HM0.out).mono ?_
          rintro z W4 ⟨cb, rfl, H4⟩
          clear Q3
          obtain ⟨a, ha⟩ : ∃ a, Hid (atI s.t.id L = a) := ⟨_, rfl⟩
          have ck := cells_at H4.step
          have hm9 : m ≤ 999 := by omega
          go_wp2_with fail
          with_reducible refine (ref_at6 H4.row hm hm9 ha).mono ?_
          rintro z W5 ⟨rfl, hw⟩
          rw [hw]
          clear hw W5 ck
          go_upto_block 2 with fail
          go_cut [3, 4, 8, 9] from 38 to 95 (fun s3 s4 s8 s9 wx => ∃ (tb' : Nat) (L' : List Th) (p' : Option Addr) (m' cap' : Nat) (e : Int), s3 = .pointer (some ⟨tb', 0, none⟩) ∧ s4 = .slice p' m' cap' ∧ s8 = .int .i64 e ∧ s9 = .int .i64 e ∧ Hid (L'.length = m') ∧ m' ≤ k + 1 ∧ PS W0 wx tb' cb sb L' L L' p' s)
          case first =>
            have ck := cells_at H4.step
            have hl2 : L.length < 200 := by rw [hm.out]; omega
            obtain ⟨q1, hq1⟩ : ∃ q1, Hid (isT s.t = q1) := ⟨_, rfl⟩
            obtain ⟨q2, hq2⟩ : ∃ q2, Hid (hasT s.t.id L = q2) := ⟨_, rfl⟩
            have dp := hid (does_put (t := s.t) hl2)
            have ds := hid (does_set (t := s.t) (L := L))
            have hal : Hid ((q2 = true → 0 ≤ a) ∧ (q2 = false → a = -1)) := ⟨fun e => by obtain ⟨j, _, j1, _⟩ := atI_has (hq2.out.trans e); have := ha.out; omega, fun e => by rw [← ha.out]; exact atI_not (hq2.out.trans e)⟩
            by_cases k1 : s.k ≤ 1
            · cases q1
              · as_aux_lemma =>
                  obtain ⟨e1, e2⟩ := dp.out.1 hq1.out
                  have C := ps_put H4 hi1 (hid e1) (hid e2)
                  clear e1 e2
                  go_wp2_with fail
                  with_reducible refine C.mono ?_
                  rintro z W5 ⟨rfl, H5⟩
                  clear C H4 ck
                  have ck := cells_at H5.step
                  go_wp2_with fail
                  with_reducible refine (risT_at hq1 _ hi1).mono ?_
                  rintro z W6 ⟨rfl, hb6⟩
                  have H6 := H5.later hb6
                  clear H5 ck hb6
                  go_wp2_with fail
                  go_meet
                  exact ⟨tb, L, p, m, cap, 11, rfl, rfl, rfl, rfl, hm, by omega, H6⟩
              · cases q2
                · as_aux_lemma =>
                    obtain ⟨e1, e2⟩ := dp.out.2.2 hq1.out hq2.out
                    have hma : a = -1 := hal.out.2 rfl
                    subst hma
                    have C := ps_put H4 hi1 (hid e1) (hid e2)
                    clear e1 e2
                    obtain ⟨M, hM⟩ : ∃ M, Hid (witT s.t L = M) := ⟨_, rfl⟩
                    obtain ⟨mm, hmm⟩ : ∃ mm, Hid (M.length = mm) := ⟨_, rfl⟩
                    have hml : mm ≤ k + 1 := by rw [← hmm.out, ← hM.out]; have := wit_len (t := s.t) (L := L); have := hm.out; omega
                    rw [hM.out] at C
                    go_wp2_with fail
                    with_reducible refine C.mono ?_
                    rintro z W5 ⟨rfl, H5⟩
                    clear C H4 ck
                    have ck := cells_at H5.step
                    go_wp2_with fail
                    with_reducible refine (risT_at hq1 _ hi1).mono ?_
                    rintro z W6 ⟨rfl, hb6⟩
                    have H6 := H5.later hb6
                    clear H5 ck hb6
                    have ck := cells_at H6.step
                    go_wp2_with fail
                    with_reducible refine (ref_with H6.row hG.out.rise hm hm9 hM hmm).mono ?_
                    rintro z W7 ⟨p7, c7, rfl, R7, hp7, hb7⟩
                    have H7 := H6.row2 hb7 R7 hp7
                    clear H6 ck hb7 R7 hp7
                    go_wp2_with fail
                    go_meet
                    exact ⟨tb, M, p7, mm, c7, 0, rfl, rfl, rfl, rfl, hmm, hml, H7⟩
                · as_aux_lemma =>
                    obtain ⟨e1, e2⟩ := dp.out.2.1 hq2.out
                    have hma : 0 ≤ a := hal.out.1 rfl
                    have C := ps_put H4 hi1 (hid e1) (hid e2)
                    clear e1 e2
                    go_wp2_with fail
                    with_reducible refine C.mono ?_
                    rintro z W5 ⟨rfl, H5⟩
                    clear C H4 ck
                    have ck := cells_at H5.step
                    go_wp2_with fail
                    with_reducible refine (risT_at hq1 _ hi1).mono ?_
                    rintro z W6 ⟨rfl, hb6⟩
                    have H6 := H5.later hb6
                    clear H5 ck hb6
                    go_wp2_with fail
                    go_meet
                    exact ⟨tb, L, p, m, cap, 11, rfl, rfl, rfl, rfl, hm, by omega, H6⟩
            by_cases k2 : s.k ≤ 3
            · cases q1
              · as_aux_lemma =>
                  obtain ⟨e1, e2⟩ := ds.out.1 hq1.out
                  have C := ps_set H4 hi1 (hid e1) (hid e2)
                  clear e1 e2
                  go_wp2_with fail
                  with_reducible refine C.mono ?_
                  rintro z W5 ⟨rfl, H5⟩
                  clear C H4 ck
                  have ck := cells_at H5.step
                  go_wp2_with fail
                  with_reducible refine (risT_at hq1 _ hi1).mono ?_
                  rintro z W6 ⟨rfl, hb6⟩
                  have H6 := H5.later hb6
                  clear H5 ck hb6
                  go_wp2_with fail
                  go_meet
                  exact ⟨tb, L, p, m, cap, 11, rfl, rfl, rfl, rfl, hm, by omega, H6⟩
              · cases q2
                · as_aux_lemma =>
                    obtain ⟨e1, e2⟩ := ds.out.2.1 hq1.out hq2.out
                    have hma : a = -1 := hal.out.2 rfl
                    subst hma
                    have C := ps_set H4 hi1 (hid e1) (hid e2)
                    clear e1 e2
                    go_wp2_with fail
                    with_reducible refine C.mono ?_
                    rintro z W5 ⟨rfl, H5⟩
                    clear C H4 ck
                    have ck := cells_at H5.step
                    go_wp2_with fail
                    with_reducible refine (risT_at hq1 _ hi1).mono ?_
                    rintro z W6 ⟨rfl, hb6⟩
                    have H6 := H5.later hb6
                    clear H5 ck hb6
                    go_wp2_with fail
                    go_meet
                    exact ⟨tb, L, p, m, cap, 15, rfl, rfl, rfl, rfl, hm, by omega, H6⟩
                · as_aux_lemma =>
                    obtain ⟨e1, e2⟩ := ds.out.2.2 hq1.out hq2.out
                    have hma : ¬ a < 0 := by have := hal.out.1 rfl; omega
                    have C := ps_set H4 hi1 (hid e1) (hid e2)
                    clear e1 e2
                    obtain ⟨M, hM⟩ : ∃ M, Hid (witT s.t L = M) := ⟨_, rfl⟩
                    obtain ⟨mm, hmm⟩ : ∃ mm, Hid (M.length = mm) := ⟨_, rfl⟩
                    have hml : mm ≤ k + 1 := by rw [← hmm.out, ← hM.out]; have := wit_len (t := s.t) (L := L); have := hm.out; omega
                    rw [hM.out] at C
                    go_wp2_with fail
                    with_reducible refine C.mono ?_
                    rintro z W5 ⟨rfl, H5⟩
                    clear C H4 ck
                    have ck := cells_at H5.step
                    go_wp2_with fail
                    with_reducible refine (risT_at hq1 _ hi1).mono ?_
                    rintro z W6 ⟨rfl, hb6⟩
                    have H6 := H5.later hb6
                    clear H5 ck hb6
                    have ck := cells_at H6.step
                    go_wp2_with fail
                    with_reducible refine (ref_with H6.row hG.out.rise hm hm9 hM hmm).mono ?_
                    rintro z W7 ⟨p7, c7, rfl, R7, hp7, hb7⟩
                    have H7 := H6.row2 hb7 R7 hp7
                    clear H6 ck hb7 R7 hp7
                    go_wp2_with fail
                    go_meet
                    exact ⟨tb, M, p7, mm, c7, 0, rfl, rfl, rfl, rfl, hmm, hml, H7⟩
            by_cases k3 : s.k = 4
            · have k3' : (s.k == 4) = true := by simpa using k3
              clear k3
              cases q2
              · as_aux_lemma =>
                  have hma : a = -1 := hal.out.2 rfl
                  subst hma
                  have C := ps_drop H4 hi2 (x := 15) (L' := L) (show Hid _ from by unfold tdE; rw [hq2.out]; rfl) (show Hid _ from out_no hq2.out)
                  go_wp2_with fail
                  with_reducible refine C.mono ?_
                  rintro z W5 ⟨rfl, H5⟩
                  clear C H4 ck
                  go_wp2_with fail
                  go_meet
                  exact ⟨tb, L, p, m, cap, 15, rfl, rfl, rfl, rfl, hm, by omega, H5⟩
              · as_aux_lemma =>
                  have hma : ¬ a < 0 := by have := hal.out.1 rfl; omega
                  obtain ⟨M, hM⟩ : ∃ M, Hid (outT s.t.id L = M) := ⟨_, rfl⟩
                  obtain ⟨mm, hmm⟩ : ∃ mm, Hid (M.length = mm) := ⟨_, rfl⟩
                  have hml : mm ≤ k + 1 := by rw [← hmm.out, ← hM.out]; have := out_length s.t.id L; have := hm.out; omega
                  have C := ps_drop H4 hi2 (x := 0) (L' := M) (show Hid _ from by unfold tdE; rw [hq2.out]; rfl) (show Hid _ from hM.out)
                  go_wp2_with fail
                  with_reducible refine C.mono ?_
                  rintro z W5 ⟨rfl, H5⟩
                  clear C H4 ck
                  have ck := cells_at H5.step
                  go_wp2_with fail
                  with_reducible refine (ref_without H5.row hm hm9 hM hmm).mono ?_
                  rintro z W7 ⟨p7, c7, rfl, R7, hp7, hb7⟩
                  have H7 := H5.row2 hb7 R7 hp7
                  clear H5 ck hb7 R7 hp7
                  go_wp2_with fail
                  go_meet
                  exact ⟨tb, M, p7, mm, c7, 0, rfl, rfl, rfl, rfl, hmm, hml, H7⟩
            · as_aux_lemma =>
                have k3' : (s.k == 4) = false := by simpa using k3
                clear k3
                go_wp2_with fail
                with_reducible refine (ps_copy H4 HM0.out).mono ?_
                rintro z W5 ⟨tb', rfl, H5⟩
                clear H4 ck
                go_wp2_with fail
                go_meet
                exact ⟨tb', L, p, m, cap, 0, rfl, rfl, rfl, rfl, hm, by omega, H5⟩
          case rest =>
            as_aux_lemma =>
              obtain ⟨tb', L', p', m', cap', e, rfl, rfl, rfl, rfl, hm', hml, H5⟩ := hcut
              clear H4
              go_wp2_with fail
              with_reducible refine (ps_cput H5 (thN_in 999999 0 0)).mono ?_
              rintro z W6 ⟨⟨f, rfl⟩, Q6⟩
              clear H5
              have ck := cells_at Q6.step
              go_wp2_with fail
              with_reducible refine (law_alike Q6.tab Q6.row hm' s hin).mono ?_
              rintro z W7 ⟨rfl, hb7⟩
              have Q7 := Q6.later hb7
              clear Q6 ck hb7
              go_wp2_with fail
              go_roundw
              case rel => exact ⟨k + 1, tb', L', p', m', cap', by omega, by go_num, rfl, rfl, hm', by omega, Q7.tab.one, hid Q7.row⟩
              case measure => simp [intOf]; omega
      · obtain rfl : k = n := by omega
        have hlt' : ¬ (k : Int) < (k : Int) := by omega
        have hm9 : m ≤ 999 := by omega
        go_wp2_with fail
        with_reducible refine (tk_of T.mask HRW.out hm (by unfold maxLen; omega) (hid (fun t ht => hG.out.fit t ht)) (hid (of_all hG.out))).mono ?_
        rintro z W2 ⟨ob2, rfl, O2⟩
        have R2 := hid (HRW.out.later O2.below)
        have hB2 := (T.later O2.below).below
        clear T HRW
        go_wp2_with fail
        with_reducible refine (tk_all O2 hm).mono ?_
        rintro z W3 ⟨p3, c3, rfl, R3, hb3⟩
        have hB3 := below_on hB2 hb3
        have R3' := hid (R2.out.later hb3)
        clear O2 R2
        go_wp2_with fail
        with_reducible refine (same_at R3 R3'.out hm hm9).mono ?_
        rintro z W4 ⟨rfl, hb4⟩
        have hB4 := below_on hB3 hb4
        go_wp2_with fail
        go_ret
        exact ⟨rfl, below_on hb0 hB4⟩
  · have hbig' : (50 : Int) < (n : Int) := by omega
    go_enter Tryz.func3, Tryz.ntmps3
    go_wp2_with fail
    with_reducible refine CK.mono ?_
    rintro z W0 ⟨rfl, hb0⟩
    go_wp2_with fail
    go_ret
    exact ⟨rfl, hb0⟩

theorem tablePlays_own : ownKnob Tryz.prog.godebug = none := by kernel_rfl
theorem tablePlays_laidOut : laidOutB Tryz.prog = true := by kernel_rfl
set_option maxRecDepth 100000 in
theorem tablePlays_lifted (os : Os) (started : os.Started) (H : Type) (enc : TypeId × Value → H) :
    ReturnsInHanded {} Tryz.checked os 3 .any (fun w args => (Rows.tablePlaysSpec.pre enc Tryz.prog Tryz.f3 [] false w args ∧ laidMetH Tryz.prog laids w) ∧ sizedMet enc Tryz.prog Tryz.f3 (OpenSpec.ofChange Rows.tablePlaysSpec) false w args) (Rows.tablePlaysSpec.post enc Tryz.prog Tryz.f3 false true false false) := by
  refine returnsInHanded_of_change_and (C := Tryz.checked) (X := fun w _ => laidMetH Tryz.prog laids w) (fun _ _ _ hh h => h.of_heap hh) own_knob started (by kernel_rfl) Tryz.func3
    (ChangeSpec.witness_shaped (enc := enc) (C := Tryz.checked) (os := os) (X := fun w _ => laidMetH Tryz.prog laids w) false (World.laidAll Tryz.prog os laids) #[.slice none 0 0] 8 rfl (World.shaped_of_ZipB (by kernel_rfl) (by kernel_rfl)) (by kernel_rfl) (by kernel_rfl) (by kernel_rfl) (door_met os _)) ?_
  intro W base args ds gs before hval0 hW _ _ hL _
  have hval : ∀ (j : Nat) t v, Tryz.f3.params[j]? = some t → args[j]? = some v → Value.okWide Tryz.prog W .any base t v := hval0
  have hW' := hW
  obtain ⟨p, q, hA0, hV, rfl, hfz, hnd⟩ := hW
  have hA : DataW.TrodAll enc Tryz.prog W 0 (fun _ => true) true Tryz.f3.params.toList args.toList ds p := hA0
  rw [Tryz.params3] at hA hval
  obtain ⟨v0, vs0, d0, ds0, p0, q0, hargs, rfl, rfl, h0, r0⟩ := trodAll_cons hA
  obtain ⟨rfl, rfl, rfl⟩ := trodAll_nil r0
  obtain rfl : args = #[v0] := by cases args; simp_all
  obtain ⟨rfl, rfl⟩ := trodVars_none hV
  have k0 := h0
  have lt0 : ∀ x ∈ p0, x.block < W.heap.size := by obtain ⟨m, hm⟩ := k0; exact DataW.trod_lt m _ _ _ hm
  obtain ⟨a0, cap0, L0, rfl, i0, r0', c0, m0⟩ := open_sts (hval 0 22 v0 rfl rfl) h0
  clear hA0 hval0
  refine (tablePlays_walk W (of_laid hL) a0 cap0 L0 i0 r0' c0 m0).mono fun e W' ⟨he, bel⟩ => ?_
  subst he
  exact ⟨_, rfl, _, _, _, [], _, [], hW', trodAll_mk1 (shut_bool Tryz.underlying4 _), (trodAll_cons_mk (Below.trod tablePlays_laidOut (by kernel_rfl) (of_decide_eq_true (by kernel_rfl)) k0 bel lt0) trodAll_mk0), rfl, bel.frame _, fun h => by cases h⟩

theorem tablePlays_over : Rows.tablePlaysRow.holds Tryz.pinned (OpenSpec.ofChange Rows.tablePlaysSpec) :=
  OpenClaim.holds_of_wide 3 Tryz.f3 rfl rfl rfl rfl rfl rfl rfl ⟨rfl, rfl, rfl, rfl, rfl⟩ rfl rfl rfl rfl rfl (by kernel_rfl) Tryz.func3 (by kernel_rfl)
    (of_decide_eq_true (by kernel_rfl)) (by unfold Func.isWrapper; first | (rw [if_pos (by decide +kernel)]; kernel_rfl) | (rw [if_neg (by decide +kernel)]; exact ⟨rfl, rfl⟩))
    (fun os started H enc _ => tablePlays_lifted os started H enc)

theorem tablePlays_holds : Rows.TablePlaysCardSaid :=
  Claim7.holds_tied_plain_at .later [] [.data] true (true, "d9d926ac80f0b20c3e7248b8e4698ed8673b883bb1d65ab7714ba090b6d9de23") true
    tablePlays_over (fun _ h => by cases h) (by kernel_rfl) (fun _ h => by cases h) tablePlays_row_tie rfl ⟨rfl, rfl⟩ (by kernel_rfl) rfl
    (fun f fn hf hfn => by
      obtain rfl : f = 3 := Option.some.inj ((show Tryz.prog.funcNamed "vedette/vedettelaw9.TablePlays" = some 3 by kernel_rfl).symm.trans hf) |>.symm
      obtain rfl : fn = Tryz.f3 := (Option.some.inj (Tryz.func3.symm.trans hfn)).symm
      exact ⟨by kernel_rfl, fun j t ht => by
        rw [Tryz.params3] at ht
        have hm : t ∈ [22] := by simpa using Array.mem_of_getElem? ht
        have hall : ([22].all fun u => !Tryz.prog.wantsStandIn u) = true := by kernel_rfl
        exact (show Tryz.prog.wantsStandIn t = false by simpa using List.all_eq_true.1 hall t hm)⟩)
    (by kernel_rfl)
#print axioms tablePlays_holds
end Go.Proofs.YtildhbkcpehobaaGreatDoor
