/- QuadPlays holds (tied card): every row of puts, moves, drops: each error; whoever is in whatever rectangle, how deep it is, behind each; the package's table of masks starts as the program's text lays it. -/
import Derived.Test.YtihmpdjlfpbieaaDoorKnown8
import Derived.Test.YtihmpdjlfpbieaaDoorQdQ
import Derived.Deep.CutBlock
import Derived.Test.YtihmpdjlfpbieaaDoorLaid
import Derived.Test.YtihmpdjlfpbieaaDoorCards
import Derived.Test.YtihmpdjlfpbieaaDoorTie
import Derived.SevenTiedAt
import Derived.ProofKit
import Derived.OpenShut
import Derived.ShutString
import Derived.ChangeOld
import Derived.Below
import Derived.SizedLaws
namespace Go.Proofs.YtihmpdjlfpbieaaDoor
open Go.ChangeShapes Go.WideShapes Go.ChangeAt Go.RowKit
open Go.ChangeMaps (open_string shut_string)
set_option linter.unusedVariables false

theorem ms_c0 {W0 W : World} {tb rb cb sb : Nat} {s : St} {Lt Lr Lc : List Mk} (h : MS W0 W tb rb cb sb s Lt Lr Lc) : W.cell? ⟨sb, 0, none⟩ = some (.int .i64 s.k) := (cells_at h.box).1 0
theorem ms_c1 {W0 W : World} {tb rb cb sb : Nat} {s : St} {Lt Lr Lc : List Mk} (h : MS W0 W tb rb cb sb s Lt Lr Lc) : W.cell? ⟨sb, 1, none⟩ = some (.int .i64 s.id) := (cells_at h.box).1 1
theorem ms_c2 {W0 W : World} {tb rb cb sb : Nat} {s : St} {Lt Lr Lc : List Mk} (h : MS W0 W tb rb cb sb s Lt Lr Lc) : W.cell? ⟨sb, 2, none⟩ = some (.int .i64 s.x) := (cells_at h.box).1 2
theorem ms_c3 {W0 W : World} {tb rb cb sb : Nat} {s : St} {Lt Lr Lc : List Mk} (h : MS W0 W tb rb cb sb s Lt Lr Lc) : W.cell? ⟨sb, 3, none⟩ = some (.int .i64 s.y) := (cells_at h.box).1 3
set_option maxRecDepth 100000 in
set_option maxHeartbeats 8000000 in
theorem quadPlays_walk (w : World) (hL : Masks w) (a0 : Option Addr) (cap0 : Nat) (L0 : List St) (r0 : RowG St.cs 8 w a0 L0) (c0 : L0.length ≤ cap0) (m0 : cap0 ≤ maxLen) :
    Calls Tryd.prog 3 #[.slice a0 L0.length cap0] w fun e w' => e = .returned (.bool true) ∧ Below w.heap.size w w' := by
  have CK := known8 w hL
  have HM := hid hL
  have HR := hid r0
  have hm0 : cap0 ≤ 9223372036854775807 := m0
  clear hL r0 m0
  obtain ⟨n, hn⟩ : ∃ n, Hid (L0.length = n) := ⟨_, rfl⟩
  rw [hn.out] at c0 ⊢
  by_cases hbig : n ≤ 60
  · have hbig' : ¬ (60 : Int) < (n : Int) := by omega
    go_enter Tryd.func3, Tryd.ntmps3
    go_wp2_with fail
    with_reducible refine CK.mono ?_
    rintro z W0 ⟨rfl, hb0⟩
    have HM0 := hid (HM.out.below hb0)
    have HR0 := hid (HR.out.later hb0)
    clear CK HM HR
    go_wp2_with fail
    with_reducible refine (ts_new W0).mono ?_
    rintro z W1 ⟨rfl, T1, hb1⟩
    have H0 := ls_new HM0.out T1 hb1
    clear HM0 T1 hb1
    go_wp2_with fail
    go_loopw [5, 3] (fun i s3 wr => ∃ (k tb : Nat) (L : List Mk), k ≤ n ∧ i = .int .i64 (k : Nat) ∧ s3 = .pointer (some ⟨tb, 0, none⟩) ∧ LS W0 wr tb W1.heap.size L L ∧ L.length ≤ k) (fun i _ _ => n - (intOf i).toNat)
    case atStart => exact ⟨0, W0.heap.size, [], by omega, rfl, rfl, H0, Nat.le_refl _⟩
    case round =>
      obtain ⟨k, tb, L, hk, rfl, rfl, H, hLl⟩ := hrel
      clear H0
      by_cases hlt : k < n
      · have hlt' : (k : Int) < (n : Int) := by omega
        obtain ⟨s, hs⟩ := get_some L0 k (by rw [hn.out]; exact hlt)
        obtain ⟨b, off, rfl, d0, d1, d2, d3, d4, d5, d6, d7⟩ := st_at (HR0.out.later H.below) hs
        clear hs
        have C := ls_copy (s := s) H (by omega) (w1 := wr.alloc (stO s)) (below1 _ _) (Nat.le_refl _) (new_at _ _ _ rfl)
        unfold stO at C
        go_wp2_with fail
        with_reducible refine C.mono ?_
        rintro z W2 ⟨cb, rfl, H2⟩
        clear C d0 d1 d2 d3 d4 d5 d6 d7 H
        obtain ⟨sb, hsb⟩ : ∃ sb, wr.heap.size = sb := ⟨_, rfl⟩
        rw [hsb] at H2 ⊢
        clear hsb
        go_upto_block 2 with fail
        go_cut [3, 8, 9] from 22 to 138 (fun s3 s8 s9 wx => ∃ (tb' : Nat) (L' : List Mk) (e : Int), s3 = .pointer (some ⟨tb', 0, none⟩) ∧ s8 = .int .i64 e ∧ s9 = .int .i64 e ∧ MS W0 wx tb' W1.heap.size cb sb s L' L' L ∧ L'.length ≤ L.length + 1)
        case first =>
          have f0 := ms_c0 H2
          have f1 := ms_c1 H2
          have f2 := ms_c2 H2
          have f3 := ms_c3 H2
          have hl9 : L.length ≤ 999 := by omega
          have hpw := rpt_len s.id s.x s.y L
          have hmw := rmv_len s.id s.x s.y L
          have hdw := rdr_len s.id L
          by_cases k1 : s.k ≤ 1
          · go_wp2_with fail
            go_region_held3 (fun w' => w'.cell? ⟨sb, 1, none⟩ = some (.int .i64 s.id) ∧ w'.cell? ⟨sb, 2, none⟩ = some (.int .i64 s.x) ∧ w'.cell? ⟨sb, 3, none⟩ = some (.int .i64 s.y))
              (first | go_keep | exact ⟨ms_c1 H3, ms_c2 H3, ms_c3 H3⟩)
              (first
                | (go_at_call 10; with_reducible refine (ms_put (H2.later (by first | exact Below.refl _ _ | exact (Below.refl _ _).drew)) hl9 s.id s.x s.y).mono ?_; rintro z W3 ⟨rfl, H3⟩)
                | (go_at_call 11; with_reducible refine (ms_rput H3 hl9 s.id s.x s.y).mono ?_; rintro z W4 ⟨rfl, H3⟩))
            all_goals
              go_wp2_with fail
              go_meet
              exact ⟨tb, rptS s.id s.x s.y L, rptE s.id s.x s.y L, rfl, rfl, rfl, H3, hpw⟩
          by_cases k2 : s.k ≤ 3
          · go_wp2_with fail
            go_region_held3 (fun w' => w'.cell? ⟨sb, 1, none⟩ = some (.int .i64 s.id) ∧ w'.cell? ⟨sb, 2, none⟩ = some (.int .i64 s.x) ∧ w'.cell? ⟨sb, 3, none⟩ = some (.int .i64 s.y))
              (first | go_keep | exact ⟨ms_c1 H3, ms_c2 H3, ms_c3 H3⟩)
              (first
                | (go_at_call 12; with_reducible refine (ms_move (H2.later (by first | exact Below.refl _ _ | exact (Below.refl _ _).drew)) hl9 s.id s.x s.y).mono ?_; rintro z W3 ⟨rfl, H3⟩)
                | (go_at_call 13; with_reducible refine (ms_rmove H3 s.id s.x s.y).mono ?_; rintro z W4 ⟨rfl, H3⟩))
            all_goals
              go_wp2_with fail
              go_meet
              exact ⟨tb, rmvS s.id s.x s.y L, rmvE s.id s.x s.y L, rfl, rfl, rfl, H3, hmw⟩
          by_cases k3 : s.k = 4
          · have k3' : (s.k == 4) = true := by simpa using k3
            clear k3
            go_wp2_with fail
            go_region_held3 (fun w' => w'.cell? ⟨sb, 1, none⟩ = some (.int .i64 s.id))
              (first | go_keep | exact ms_c1 H3)
              (first
                | (go_at_call 14; with_reducible refine (ms_drop (H2.later (by first | exact Below.refl _ _ | exact (Below.refl _ _).drew)) hl9 s.id).mono ?_; rintro z W3 ⟨rfl, H3⟩)
                | (go_at_call 15; with_reducible refine (ms_rdrop H3 hl9 s.id).mono ?_; rintro z W4 ⟨rfl, H3⟩))
            all_goals
              go_wp2_with fail
              go_meet
              exact ⟨tb, rdrS s.id L, rdrE s.id L, rfl, rfl, rfl, H3, hdw⟩
          · have k3' : (s.k == 4) = false := by simpa using k3
            clear k3
            go_wp2_with fail
            with_reducible refine (ms_copy H2 hl9).mono ?_
            rintro z W3 ⟨tb', rfl, H3⟩
            go_wp2_with fail
            go_meet
            exact ⟨tb', L, 0, rfl, rfl, rfl, H3, by omega⟩
        case rest =>
          obtain ⟨tb', L', e, rfl, rfl, rfl, H3, hl3⟩ := hcut
          clear H2
          have hl9 : L'.length ≤ 999 := by omega
          have hLc : L.length ≤ 999 := by omega
          obtain ⟨px, hpx⟩ : ∃ px, Hid (ratX s.id L' = px) := ⟨_, rfl⟩
          obtain ⟨py, hpy⟩ : ∃ py, Hid (ratY s.id L' = py) := ⟨_, rfl⟩
          obtain ⟨pb, hpb⟩ : ∃ pb, Hid (ratB s.id L' = pb) := ⟨_, rfl⟩
          go_wp2_with fail
          with_reducible refine (ms_cput H3 hLc 777777 0 0).mono ?_
          rintro z W5 ⟨⟨f, rfl⟩, H5, hbox5⟩
          have B5 := hid hbox5
          have f1 : W5.cell? ⟨sb, 1, none⟩ = some (.int .i64 s.id) := (cells_at hbox5).1 1
          clear H3 hbox5
          have C := ls_at H5 s.id
          rw [hpx.out, hpy.out, hpb.out] at C
          go_wp2_with fail
          with_reducible refine C.mono ?_
          rintro z W6 ⟨rfl, hb6⟩
          have H6 := H5.later hb6
          have B6 := hid (var_on hb6 B5.out (lt_of_at B5.out))
          clear C H5 B5 hb6 f1
          go_upto_region 21 with fail
          obtain ⟨W7, hW7⟩ : ∃ W7, W6.alloc (.cells #[.int .i64 px, .int .i64 py] 31) = W7 := ⟨_, rfl⟩
          rw [hW7]
          have hb7 : Below W6.heap.size W6 W7 := by rw [← hW7]; exact below1 _ _
          have H7 := H6.later hb7
          have B7 := hid (var_on hb7 B6.out (lt_of_at B6.out))
          have P7 := hid (show W7.heap[W6.heap.size]? = some (.cells #[.int .i64 px, .int .i64 py] 31 (0, 0)) by rw [← hW7]; exact new_at _ _ _ rfl)
          have f1 : W7.cell? ⟨sb, 1, none⟩ = some (.int .i64 s.id) := (cells_at B7.out).1 1
          clear H6 B6 hW7 hb7
          have C := ls_rat H7 s.id
          rw [hpx.out, hpy.out, hpb.out] at C
          go_wp2_with fail
          with_reducible refine C.mono ?_
          rintro z W8 ⟨rfl, hb8⟩
          have H8 := H7.later hb8
          have B8 := hid (var_on hb8 B7.out (lt_of_at B7.out))
          have P8 := hid (var_on hb8 P7.out (lt_of_at P7.out))
          clear C H7 B7 P7 hb8 f1
          obtain ⟨M, hM⟩ : ∃ M, Hid (rinL L' ⟨s.r0, s.r1, s.r2, s.r3⟩ = M) := ⟨_, rfl⟩
          have hMl : M.length ≤ 100000 := by rw [← hM.out]; have := rin_le L' ⟨s.r0, s.r1, s.r2, s.r3⟩; omega
          obtain ⟨nl, hnl⟩ : ∃ nl, Hid (L'.length = nl) := ⟨_, rfl⟩
          obtain ⟨dd, hdd⟩ : ∃ dd, Hid (dep L' = dd) := ⟨_, rfl⟩
          go_upto_region 22 with fail
          obtain ⟨W9, hW9⟩ : ∃ W9, W8.alloc (.cells #[.int .i64 px, .int .i64 py] 31) = W9 := ⟨_, rfl⟩
          rw [hW9]
          have hb9 : Below W8.heap.size W8 W9 := by rw [← hW9]; exact below1 _ _
          have H9 := H8.later hb9
          have B9 := hid (var_on hb9 B8.out (lt_of_at B8.out))
          have P9 := hid (var_on hb9 P8.out (lt_of_at P8.out))
          have Q9 := hid (show W9.heap[W8.heap.size]? = some (.cells #[.int .i64 px, .int .i64 py] 31 (0, 0)) by rw [← hW9]; exact new_at _ _ _ rfl)
          clear H8 B8 P8 hW9 hb9
          obtain ⟨pr, cr, R9⟩ := H9.row
          rw [hnl.out] at R9
          have c4 : W9.cell? ⟨sb, 4, none⟩ = some (.int .i64 s.r0) := (cells_at B9.out).1 4
          have c5 : W9.cell? ⟨sb, 5, none⟩ = some (.int .i64 s.r1) := (cells_at B9.out).1 5
          have c6 : W9.cell? ⟨sb, 6, none⟩ = some (.int .i64 s.r2) := (cells_at B9.out).1 6
          have c7 : W9.cell? ⟨sb, 7, none⟩ = some (.int .i64 s.r3) := (cells_at B9.out).1 7
          have e0 : W9.cell? ⟨W6.heap.size, 0, none⟩ = some (.int .i64 px) := (cells_at P9.out).1 0
          have e1 : W9.cell? ⟨W6.heap.size, 1, none⟩ = some (.int .i64 py) := (cells_at P9.out).1 1
          have e2 : W9.cell? ⟨W8.heap.size, 0, none⟩ = some (.int .i64 px) := (cells_at Q9.out).1 0
          have e3 : W9.cell? ⟨W8.heap.size, 1, none⟩ = some (.int .i64 py) := (cells_at Q9.out).1 1
          have e4 : W9.cell? ⟨W1.heap.size, 0, none⟩ = some (.slice pr nl cr) := (cells_at R9).1 0
          have ep : ∀ W, (Op.equalIn 10000 31 (pt px py) (pt px py)).run Tryd.prog W = .ok true W := fun W => by have := equal_pt W px py px py; simpa using this
          have ee : (e != e) = false := by simp
          have en : ((nl : Int) != (nl : Int)) = false := by simp
          have ed : ((dd : Int) != (dd : Int)) = false := by simp
          have eb : (pb != pb) = false := by cases pb <;> rfl
          clear R9 B9 P9 Q9
          go_region_held3 (fun w' => w'.cell? ⟨sb, 4, none⟩ = some (.int .i64 s.r0) ∧ w'.cell? ⟨sb, 5, none⟩ = some (.int .i64 s.r1) ∧ w'.cell? ⟨sb, 6, none⟩ = some (.int .i64 s.r2) ∧ w'.cell? ⟨sb, 7, none⟩ = some (.int .i64 s.r3) ∧ w'.cell? ⟨W6.heap.size, 0, none⟩ = some (.int .i64 px) ∧ w'.cell? ⟨W6.heap.size, 1, none⟩ = some (.int .i64 py) ∧ w'.cell? ⟨W8.heap.size, 0, none⟩ = some (.int .i64 px) ∧ w'.cell? ⟨W8.heap.size, 1, none⟩ = some (.int .i64 py) ∧ w'.cell? ⟨W1.heap.size, 0, none⟩ = some (.slice pr nl cr))
            (first | go_keep | (go_split_ands; refine ⟨?_, ?_, ?_, ?_, ?_, ?_, ?_, ?_, ?_⟩ <;> exact cell_below hbK (by assumption)))
            (first
              | (go_at_call 19; with_reducible refine (ls_in (H9.later (by first | exact Below.refl _ _ | exact (Below.refl _ _).drew)) hl9 s.r0 s.r1 s.r2 s.r3 hM).mono ?_; rintro z W10 ⟨p10, c10, rfl, G10, hbK⟩
                 have H10 := (H9.later (by first | exact (Below.refl _ _).drew | exact Below.refl _ _)).later hbK)
              | (go_at_call 20; with_reducible refine (ls_rin H10 hl9 s.r0 s.r1 s.r2 s.r3 hM).mono ?_; rintro z W11 ⟨p11, c11, rfl, G11, hbK⟩
                 have H11 := H10.later hbK
                 have G10 := G10.later hbK)
              | (go_at_call 18; with_reducible refine (law_same G10 G11 hMl hMl).mono ?_; rw [decide_eq_true (rfl : M = M)]; rintro z W12 ⟨rfl, hbK⟩
                 have H12 := H11.later hbK)
              | (go_at_call 21; with_reducible refine (ls_len H12 hnl).mono ?_; rintro z W13 ⟨rfl, hw13⟩; have hbK : Below W12.heap.size W12 W13 := (by rw [hw13]; exact Below.refl _ _)
                 have H13 := H12.later hbK; clear hw13)
              | (go_at_call 22; with_reducible refine (ls_depth H13 hl9 hdd).mono ?_; rintro z W14 ⟨rfl, hbK⟩
                 have H14 := H13.later hbK)
              | (go_at_call 23; with_reducible refine (ls_rdepth H14 hl9 hdd).mono ?_; rintro z W15 ⟨rfl, hbK⟩
                 have H15 := H14.later hbK))
          all_goals
            go_wp2_with fail
            go_roundw
            case rel =>
              exact ⟨k + 1, tb', L', by omega, by go_num, rfl, H15, by omega⟩
            case measure => simp [intOf]; omega
      · obtain rfl : k = n := by omega
        have hlt' : ¬ (k : Int) < (k : Int) := by omega
        go_wp2_with fail
        go_ret
        exact ⟨rfl, below_on hb0 H.below⟩
  · have hbig' : (60 : Int) < (n : Int) := by omega
    go_enter Tryd.func3, Tryd.ntmps3
    go_wp2_with fail
    with_reducible refine CK.mono ?_
    rintro z W1 ⟨rfl, hb1⟩
    clear CK HM HR
    go_wp2
    go_ret
    exact ⟨rfl, hb1⟩

theorem quadPlays_own : ownKnob Tryd.prog.godebug = none := by kernel_rfl
theorem quadPlays_laidOut : laidOutB Tryd.prog = true := by kernel_rfl
set_option maxRecDepth 100000 in
theorem quadPlays_lifted (os : Os) (started : os.Started) (H : Type) (enc : TypeId × Value → H) :
    ReturnsInHanded {} Tryd.checked os 3 .any (fun w args => (Rows.quadPlaysSpec.pre enc Tryd.prog Tryd.f3 [] false w args ∧ laidMetH Tryd.prog laids w) ∧ sizedMet enc Tryd.prog Tryd.f3 (OpenSpec.ofChange Rows.quadPlaysSpec) false w args) (Rows.quadPlaysSpec.post enc Tryd.prog Tryd.f3 false true false false) := by
  refine returnsInHanded_of_change_and (C := Tryd.checked) (X := fun w _ => laidMetH Tryd.prog laids w) (fun _ _ _ hh h => h.of_heap hh) own_knob started (by kernel_rfl) Tryd.func3
    (ChangeSpec.witness_shaped (enc := enc) (C := Tryd.checked) (os := os) (X := fun w _ => laidMetH Tryd.prog laids w) false (World.laidAll Tryd.prog os laids) #[.slice none 0 0] 8 rfl (World.shaped_of_ZipB (by kernel_rfl) (by kernel_rfl)) (by kernel_rfl) (by kernel_rfl) (by kernel_rfl) (door_met os _)) ?_
  intro W base args ds gs before hval0 hW _ _ hL _
  have hval : ∀ (j : Nat) t v, Tryd.f3.params[j]? = some t → args[j]? = some v → Value.okWide Tryd.prog W .any base t v := hval0
  have hW' := hW
  obtain ⟨p, q, hA0, hV, rfl, hfz, hnd⟩ := hW
  have hA : DataW.TrodAll enc Tryd.prog W 0 (fun _ => true) true Tryd.f3.params.toList args.toList ds p := hA0
  rw [Tryd.params3] at hA hval
  obtain ⟨v0, vs0, d0, ds0, p0, q0, hargs, rfl, rfl, h0, r0⟩ := trodAll_cons hA
  obtain ⟨rfl, rfl, rfl⟩ := trodAll_nil r0
  obtain rfl : args = #[v0] := by cases args; simp_all
  obtain ⟨rfl, rfl⟩ := trodVars_none hV
  have k0 := h0
  have lt0 : ∀ x ∈ p0, x.block < W.heap.size := by obtain ⟨m, hm⟩ := k0; exact DataW.trod_lt m _ _ _ hm
  obtain ⟨a0, cap0, L0, rfl, r0', c0, m0⟩ := open_sts (hval 0 22 v0 rfl rfl) h0
  clear hA0 hval0
  refine (quadPlays_walk W (of_laid hL) a0 cap0 L0 r0' c0 m0).mono fun e W' ⟨he, bel⟩ => ?_
  subst he
  exact ⟨_, rfl, _, _, _, [], _, [], hW', trodAll_mk1 (shut_bool Tryd.underlying4 _), (trodAll_cons_mk (Below.trod quadPlays_laidOut (by kernel_rfl) (of_decide_eq_true (by kernel_rfl)) k0 bel lt0) trodAll_mk0), rfl, bel.frame _, fun h => by cases h⟩

theorem quadPlays_over : Rows.quadPlaysRow.holds Tryd.pinned (OpenSpec.ofChange Rows.quadPlaysSpec) :=
  OpenClaim.holds_of_wide 3 Tryd.f3 rfl rfl rfl rfl rfl rfl rfl ⟨rfl, rfl, rfl, rfl, rfl⟩ rfl rfl rfl rfl rfl (by kernel_rfl) Tryd.func3 (by kernel_rfl)
    (of_decide_eq_true (by kernel_rfl)) (by unfold Func.isWrapper; first | (rw [if_pos (by decide +kernel)]; kernel_rfl) | (rw [if_neg (by decide +kernel)]; exact ⟨rfl, rfl⟩))
    (fun os started H enc _ => quadPlays_lifted os started H enc)

theorem quadPlays_holds : Rows.QuadPlaysCardSaid :=
  Claim7.holds_tied_plain_at .later [] [.data] true (true, "a3d3f3cb190d71e3138e9286177bb5d40067a19e978e45158a4118de4e4999b4") false
    quadPlays_over (fun _ h => by cases h) (by kernel_rfl) (fun _ h => by cases h) quadPlays_row_tie rfl ⟨rfl, rfl⟩ (by kernel_rfl) rfl
    (fun f fn hf hfn => by
      obtain rfl : f = 3 := Option.some.inj ((show Tryd.prog.funcNamed "vedette/vedettelaw8.QuadPlays" = some 3 by kernel_rfl).symm.trans hf) |>.symm
      obtain rfl : fn = Tryd.f3 := (Option.some.inj (Tryd.func3.symm.trans hfn)).symm
      exact ⟨by kernel_rfl, fun j t ht => by
        rw [Tryd.params3] at ht
        have hm : t ∈ [22] := by simpa using Array.mem_of_getElem? ht
        have hall : ([22].all fun u => !Tryd.prog.wantsStandIn u) = true := by kernel_rfl
        exact (show Tryd.prog.wantsStandIn t = false by simpa using List.all_eq_true.1 hall t hm)⟩)
    (by kernel_rfl)
#print axioms quadPlays_holds
end Go.Proofs.YtihmpdjlfpbieaaDoor
