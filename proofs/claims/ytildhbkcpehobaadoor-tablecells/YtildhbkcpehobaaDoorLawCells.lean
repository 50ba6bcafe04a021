/- For every row of things: what a table made of it holds is found cell by cell, each thing once, rising, and as it is by its number. No conditions. -/
import Derived.Test.YtildhbkcpehobaaDoorKnown9
import Derived.Test.YtildhbkcpehobaaDoorCellsQ
import Derived.Test.YtildhbkcpehobaaDoorLaid
import Derived.Test.YtildhbkcpehobaaDoorCards
import Derived.Test.YtildhbkcpehobaaDoorTie
import Derived.SevenTiedAt
import Derived.ProofKit
import Derived.OpenShut
import Derived.ShutString
import Derived.ChangeOld
import Derived.Below
import Derived.SizedLaws
namespace Go.Proofs.YtildhbkcpehobaaDoor
open Go.ChangeShapes Go.WideShapes Go.ChangeAt Go.RowKit
open Go.ChangeMaps (open_string shut_string)
set_option linter.unusedVariables false

/-- how many things stand in the first cells, the one ahead of them counted -/
def cntC (L : List Th) : Nat → Nat
  | 0 => 0
  | k + 1 => cntC L k + (inT_r (cellR ((k : Int) - 1)) L).length
theorem cell_len {L : List Th} (h : ∀ t ∈ L, onB t.x t.y = true) (k : Nat) : (inT_r (cellR ((k : Int) - 1)) L).length = L.countP (fun t => decide (ofN t.x t.y + 1 = k)) := by
  unfold inT_r
  rw [← List.countP_eq_length_filter]
  refine List.countP_congr fun t ht => ?_
  have ho := h t ht
  have hl := ofN_lt t.x t.y
  by_cases hk : 1 ≤ k ∧ k ≤ 16
  · obtain ⟨c, rfl⟩ : ∃ c, k = c + 1 := ⟨k - 1, by omega⟩
    have e : ((c + 1 : Nat) : Int) - 1 = (c : Int) := by omega
    rw [e, cellR_of (by omega), in_cell (by omega), ho]
    simp
    omega
  · have hc : isC ((k : Int) - 1) = false := by
      simp [isC]
      omega
    have hb : inB (cellR ((k : Int) - 1)) t.x t.y = false := by
      have := List.filter_eq_nil_iff.1 (cellR_in hc [t]) t (by simp)
      simpa using this
    rw [hb]
    simp
    omega
theorem cntC_eq {L : List Th} (h : ∀ t ∈ L, onB t.x t.y = true) : ∀ k, cntC L k = L.countP (fun t => decide (ofN t.x t.y + 1 < k))
  | 0 => by simp [cntC]
  | k + 1 => by
    rw [cntC, cntC_eq h k, cell_len h]
    clear h
    induction L with
    | nil => rfl
    | cons a L ih =>
      simp only [List.countP_cons, decide_eq_true_eq]
      split <;> split <;> split <;> omega
theorem cntC_all {L : List Th} (h : ∀ t ∈ L, onB t.x t.y = true) : cntC L 18 = L.length := by
  rw [cntC_eq h, List.countP_eq_length]
  intro t ht
  have := ofN_lt t.x t.y
  simp
  omega
theorem cntC_le {L : List Th} (h : ∀ t ∈ L, onB t.x t.y = true) (k : Nat) : cntC L k ≤ L.length := by
  rw [cntC_eq h]
  exact List.countP_le_length
theorem rise_at {L : List Th} (h : Rise L) {i : Nat} {a b : Th} (h1 : L[i]? = some a) (h2 : L[i + 1]? = some b) : a.id < b.id := by
  obtain ⟨l1, e1⟩ := List.getElem?_eq_some_iff.1 h1
  obtain ⟨l2, e2⟩ := List.getElem?_eq_some_iff.1 h2
  have := List.pairwise_iff_getElem.1 h i (i + 1) l1 l2 (by omega)
  rw [e1, e2] at this
  exact this
set_option maxRecDepth 100000 in
set_option maxHeartbeats 4000000 in
theorem tableCells_walk (w : World) (hL : Masks w) (a0 : Option Addr) (cap0 : Nat) (L0 : List Th) (i0 : ∀ t ∈ L0, inT t) (r0 : RowT w a0 L0) (c0 : L0.length ≤ cap0) (m0 : cap0 ≤ maxLen) :
    Calls Tryd.prog 3 #[.slice a0 L0.length cap0] w fun e w' => e = .returned (.bool true) ∧ Below w.heap.size w w' := by
  have CK := known9 w hL
  have HM := hid hL
  have HR := hid r0
  have HI := hid i0
  clear hL r0 i0
  obtain ⟨n, hn⟩ : ∃ n, Hid (L0.length = n) := ⟨_, rfl⟩
  have hm : n ≤ maxLen := by rw [← hn.out]; omega
  obtain ⟨q, hq⟩ : ∃ q, Hid (fewL L0 = q) := ⟨_, rfl⟩
  obtain ⟨L, hLL⟩ : ∃ L, Hid (ofT L0 = L) := ⟨_, rfl⟩
  rw [hn.out]
  clear c0 m0
  go_enter Tryd.func3, Tryd.ntmps3
  go_wp2_with fail
  refine CK.mono ?_
  rintro z W0 ⟨rfl, hb0⟩
  have HM0 := hid (HM.out.below hb0)
  have HR0 := hid (HR.out.later hb0)
  clear CK HM HR
  have CF := few_things W0 a0 cap0 L0 HR0.out HI.out (by rw [hn.out]; exact hm)
  rw [hn.out, hq.out] at CF
  go_wp2_with fail
  with_reducible refine CF.mono ?_
  rintro z W1 ⟨rfl, hb1⟩
  have HM1 := hid (HM0.out.below hb1)
  have HR1 := hid (HR0.out.later hb1)
  have hB1 := below_on hb0 hb1
  clear CF HM0 HR0 hb0 hb1
  cases q
  · go_wp2_with fail
    go_ret
    exact ⟨rfl, hB1⟩
  · go_wp2_with fail
    with_reducible refine (tk_of HM1.out HR1.out hn hm HI hLL).mono ?_
    rintro z W2 ⟨tb, rfl, T2⟩
    have hG := hid T2.good
    have hon : Hid (∀ t ∈ L, onB t.x t.y = true) := fun t ht => (isT_parts (hG.out.is t ht)).2.2
    have hLl : L.length ≤ 200 := hG.out.len
    clear HM1 HR1
    go_wp2_with fail
    go_loopw [5, 4] (fun s5 s4 wr => ∃ (k : Nat), k ≤ 18 ∧ s5 = .int .i64 ((k : Int) - 1) ∧ s4 = .int .i64 (cntC L k : Nat) ∧ TK W1 wr tb L []) (fun s5 _ _ => (17 - intOf s5).toNat)
    case atStart => exact ⟨0, by omega, rfl, rfl, T2⟩
    case round =>
      obtain ⟨k, hk, rfl, rfl, T⟩ := hrel
      clear T2
      by_cases hlt : k < 18
      · have hlt' : (k : Int) - 1 ≤ 16 := by omega
        obtain ⟨M, hM⟩ : ∃ M, Hid (inT_r (cellR ((k : Int) - 1)) L = M) := ⟨_, rfl⟩
        obtain ⟨nm, hnm⟩ : ∃ nm, Hid (M.length = nm) := ⟨_, rfl⟩
        have hMs : Hid (∀ t ∈ M, t ∈ L) := fun t ht => by rw [← hM.out] at ht; exact mem_inT ht
        have hMr : Hid (Rise M) := by show Rise M; rw [← hM.out]; exact hG.out.rise.filter _
        have hnl : nm ≤ 200 := by
          rw [← hnm.out, ← hM.out]
          exact Nat.le_trans (List.length_filter_le _ _) hLl
        have hc1 : cntC L k ≤ 200 := Nat.le_trans (cntC_le hon.out k) hLl
        have hstep : Hid (cntC L (k + 1) = cntC L k + nm) := by show cntC L (k + 1) = _; rw [cntC, hM.out, hnm.out]
        obtain ⟨ck, hck⟩ : ∃ ck, cntC L k = ck := ⟨_, rfl⟩
        rw [hck] at hc1 hstep ⊢
        clear hck
        go_wp2_with fail
        with_reducible refine (tk_cell T ((k : Int) - 1) hM hnm).mono ?_
        rintro z W3 ⟨p3, c3, rfl, R3, hb3⟩
        have T3 := T.later hb3
        have HR3 := hid R3
        clear T hb3 R3
        go_wp2_with fail
        rename World => W3'
        go_loopw [7] (fun s7 wr => ∃ (i : Nat), i ≤ nm ∧ s7 = .int .i64 (i : Nat) ∧ TK W1 wr tb L [] ∧ Hid (RowT wr p3 M)) (fun s7 _ => nm - (intOf s7).toNat)
        case atStart => exact ⟨0, by omega, rfl, T3, HR3⟩
        case round =>
          obtain ⟨i, hi, rfl, T4, HR4⟩ := hrel
          clear T3 HR3
          by_cases hil : i < nm
          · have hil' : (i : Int) < (nm : Int) := by omega
            obtain ⟨t, ht⟩ := get_th M i (by rw [hnm.out]; exact hil)
            have htL := hMs.out t (List.mem_of_getElem? ht)
            have hf := hid (show (findT t.id L).getD zT = t by rw [find_mem_th hG.out.rise htL]; rfl)
            have hh := hid (show hasT t.id L = true from has_iff.2 ⟨t, htL, rfl⟩)
            have hid' := isT_inI (hG.out.is t htL)
            obtain ⟨bl, off, rfl, hc⟩ := HR4.out.at ht
            have HT := hid ht
            clear ht htL
            go_wp2_with fail
            with_reducible refine (tk_get T4 hid' hf hh).mono ?_
            rintro z W5 ⟨rfl, hb5⟩
            have T5 := T4.later hb5
            have HR5 := hid (HR4.out.later hb5)
            clear T4 HR4 hc hb5
            obtain ⟨W6, hW6⟩ : ∃ W6, W5.alloc t.o = W6 := ⟨_, rfl⟩
            have hb6 : Below W5.heap.size W5 W6 := by rw [← hW6]; exact below1 _ _
            have K6 := hid (show W6.heap[W5.heap.size]? = some t.o by rw [← hW6]; exact new_at _ _ _ rfl)
            have T6 := T5.later hb6
            have HR6 := hid (HR5.out.later hb6)
            unfold Th.o at hW6
            have HW6 := hid hW6
            clear hW6 T5 HR5 hb6
            go_upto_region 15 with fail
            rw [HW6.out]
            clear HW6
            obtain ⟨b1, off1, e1, hc⟩ := HR6.out.at HT.out
            simp only [Option.some.injEq, Addr.mk.injEq, and_true] at e1
            obtain ⟨rfl, rfl⟩ := e1
            have cx := cells_at K6.out
            have hQ := equal_th_at (eqT_self t)
            by_cases hi0 : i = 0
            · subst hi0
              simp only [Nat.zero_mul, Nat.add_zero] at hc
              go_quiet (fail)
              go_wp2_with fail
              go_roundw
              case rel => exact ⟨1, by omega, by go_num, T6.later (below_drewN (Below.refl _ _) _), hid (HR6.out.later (below_drewN (Below.refl _ _) _))⟩
              case measure => simp [intOf]; omega
            · obtain ⟨j, rfl⟩ : ∃ j, i = j + 1 := ⟨i - 1, by omega⟩
              obtain ⟨u, hu⟩ := get_th M j (by rw [hnm.out]; omega)
              have hlt2 := rise_at hMr.out hu HT.out
              have hdec : decide (t.id ≤ u.id) = false := by simpa using hlt2
              obtain ⟨b2, off2, e2, hd⟩ := HR6.out.at hu
              simp only [Option.some.injEq, Addr.mk.injEq, and_true] at e2
              obtain ⟨rfl, rfl⟩ := e2
              clear hu hlt2
              go_quiet (fail)
              go_wp2_with fail
              go_roundw
              case rel => exact ⟨j + 1 + 1, by omega, by go_num, T6.later (below_drewN (Below.refl _ _) _), hid (HR6.out.later (below_drewN (Below.refl _ _) _))⟩
              case measure => simp [intOf]; omega
          · obtain rfl : i = nm := by omega
            have hil' : ¬ (i : Int) < (i : Int) := by omega
            go_wp2_with fail
            go_roundw
            case rel => exact ⟨k + 1, by omega, by go_num, by rw [hstep.out]; go_num, T4⟩
            case measure => simp [intOf]; omega
      · obtain rfl : k = 18 := by omega
        have hlt' : ¬ ((18 : Nat) : Int) - 1 ≤ 16 := by omega
        rw [cntC_all hon.out]
        obtain ⟨nl, hnl⟩ : ∃ nl, Hid (L.length = nl) := ⟨_, rfl⟩
        rw [hnl.out] at hLl ⊢
        go_wp2_with fail
        with_reducible refine (tk_len T hnl).mono ?_
        rintro z W4 ⟨rfl, hw⟩
        rw [hw]
        clear hw
        go_wp2_with fail
        with_reducible refine (tk_all T hnl).mono ?_
        rintro z W5 ⟨p5, c5, rfl, -, hb5⟩
        have hB := (T.later hb5).below
        clear T
        go_wp2
        go_ret
        exact ⟨rfl, below_on hB1 hB⟩

theorem tableCells_own : ownKnob Tryd.prog.godebug = none := by kernel_rfl
theorem tableCells_laidOut : laidOutB Tryd.prog = true := by kernel_rfl
set_option maxRecDepth 100000 in
theorem tableCells_lifted (os : Os) (started : os.Started) (H : Type) (enc : TypeId × Value → H) :
    ReturnsInHanded {} Tryd.checked os 3 .any (fun w args => (Rows.tableCellsSpec.pre enc Tryd.prog Tryd.f3 [] false w args ∧ laidMetH Tryd.prog laids w) ∧ sizedMet enc Tryd.prog Tryd.f3 (OpenSpec.ofChange Rows.tableCellsSpec) false w args) (Rows.tableCellsSpec.post enc Tryd.prog Tryd.f3 false true false false) := by
  refine returnsInHanded_of_change_and (C := Tryd.checked) (X := fun w _ => laidMetH Tryd.prog laids w) (fun _ _ _ hh h => h.of_heap hh) own_knob started (by kernel_rfl) Tryd.func3
    (ChangeSpec.witness_shaped (enc := enc) (C := Tryd.checked) (os := os) (X := fun w _ => laidMetH Tryd.prog laids w) false (World.laidAll Tryd.prog os laids) #[.slice none 0 0] 8 rfl (World.shaped_of_ZipB (by kernel_rfl) (by kernel_rfl)) (by kernel_rfl) (by kernel_rfl) (by kernel_rfl) (door_met os _)) ?_
  intro W base args ds gs before hval0 hW _ _ hL _
  have hval : ∀ (j : Nat) t v, Tryd.f3.params[j]? = some t → args[j]? = some v → Value.okWide Tryd.prog W .any base t v := hval0
  have hW' := hW
  obtain ⟨p, q, hA0, hV, rfl, hfz, hnd⟩ := hW
  have hA : DataW.TrodAll enc Tryd.prog W 0 (fun _ => true) true Tryd.f3.params.toList args.toList ds p := hA0
  rw [Tryd.params3] at hA hval
  obtain ⟨v0, vs0, d0, ds0, p0, q0, hargs, rfl, rfl, h0, r0⟩ := trodAll_cons hA
  obtain ⟨rfl, rfl, rfl⟩ := trodAll_nil r0
  obtain rfl : args = #[v0] := by cases args; simp_all
  obtain ⟨rfl, rfl⟩ := trodVars_none hV
  have k0 := h0
  have lt0 : ∀ x ∈ p0, x.block < W.heap.size := by obtain ⟨m, hm⟩ := k0; exact DataW.trod_lt m _ _ _ hm
  obtain ⟨a0, cap0, L0, rfl, i0, r0', c0, m0⟩ := open_ths (hval 0 22 v0 rfl rfl) h0
  clear hA0 hval0
  refine (tableCells_walk W (of_laid hL) a0 cap0 L0 i0 r0' c0 m0).mono fun e W' ⟨he, bel⟩ => ?_
  subst he
  exact ⟨_, rfl, _, _, _, [], _, [], hW', trodAll_mk1 (shut_bool Tryd.underlying4 _), (trodAll_cons_mk (Below.trod tableCells_laidOut (by kernel_rfl) (of_decide_eq_true (by kernel_rfl)) k0 bel lt0) trodAll_mk0), rfl, bel.frame _, fun h => by cases h⟩

theorem tableCells_over : Rows.tableCellsRow.holds Tryd.pinned (OpenSpec.ofChange Rows.tableCellsSpec) :=
  OpenClaim.holds_of_wide 3 Tryd.f3 rfl rfl rfl rfl rfl rfl rfl ⟨rfl, rfl, rfl, rfl, rfl⟩ rfl rfl rfl rfl rfl (by kernel_rfl) Tryd.func3 (by kernel_rfl)
    (of_decide_eq_true (by kernel_rfl)) (by unfold Func.isWrapper; first | (rw [if_pos (by decide +kernel)]; kernel_rfl) | (rw [if_neg (by decide +kernel)]; exact ⟨rfl, rfl⟩))
    (fun os started H enc _ => tableCells_lifted os started H enc)

theorem tableCells_holds : Rows.TableCellsCardSaid :=
  Claim7.holds_tied_plain_at .later [] [.data] true (true, "4d1cb17433c6e5fb01383cd22658f0a672d33ddc86b52a01092985a336b79d3d") true
    tableCells_over (fun _ h => by cases h) (by kernel_rfl) (fun _ h => by cases h) tableCells_row_tie rfl ⟨rfl, rfl⟩ (by kernel_rfl) rfl
    (fun f fn hf hfn => by
      obtain rfl : f = 3 := Option.some.inj ((show Tryd.prog.funcNamed "vedette/vedettelaw9.TableCells" = some 3 by kernel_rfl).symm.trans hf) |>.symm
      obtain rfl : fn = Tryd.f3 := (Option.some.inj (Tryd.func3.symm.trans hfn)).symm
      exact ⟨by kernel_rfl, fun j t ht => by
        rw [Tryd.params3] at ht
        have hm : t ∈ [22] := by simpa using Array.mem_of_getElem? ht
        have hall : ([22].all fun u => !Tryd.prog.wantsStandIn u) = true := by kernel_rfl
        exact (show Tryd.prog.wantsStandIn t = false by simpa using List.all_eq_true.1 hall t hm)⟩)
    (by kernel_rfl)
#print axioms tableCells_holds
end Go.Proofs.YtildhbkcpehobaaDoor
