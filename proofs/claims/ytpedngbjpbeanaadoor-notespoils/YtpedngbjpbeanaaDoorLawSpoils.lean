/- Of every note and every way to spoil it NoteSpoils returns true. -/
import Derived.Test.YtpedngbjpbeanaaDoorNtSp
import Derived.Test.YtpedngbjpbeanaaDoorNtB
import Derived.Test.YtpedngbjpbeanaaDoorCards
import Derived.Test.YtpedngbjpbeanaaDoorTie
import Derived.SevenTiedAt
import Derived.ProofKit
import Derived.OpenShut
import Derived.ShutString
import Derived.ChangeOld
import Derived.Below
import Derived.SizedLaws
namespace Go.Proofs.YtpedngbjpbeanaaDoor
open Go.ChangeShapes Go.WideShapes Go.ChangeAt Go.RowKit
open Go.ChangeMaps (open_string shut_string)
set_option linter.unusedVariables false

set_option maxRecDepth 100000 in
set_option maxHeartbeats 8000000 in
theorem noteSpoils_walk (w : World) (hL : Masks w) (a0 : Nt) (s0 : Ns) (f0 : FitN a0) (r0 : RowN w s0 a0) (m0 : LenN a0) (n0 : NilN s0 a0) (a1 : Int) (w1 : (Lit.int .u8 a1).wf = true) :
    Calls Tryd.prog 4 #[a0.v s0, .int .u8 a1] w fun e w' => e = .returned (.bool true) ∧ Below w.heap.size w w' := by
  obtain ⟨Q, hQ⟩ : ∃ Q : Ending → World → Prop, Hid ((fun e w' => e = .returned (.bool true) ∧ Below w.heap.size w w') = Q) := ⟨_, rfl⟩
  have QQ := hid (fun w' (h : Below w.heap.size w w') => (show Q (.returned (.bool true)) w' by rw [← hQ.out]; exact ⟨rfl, h⟩))
  rw [hQ.out]
  clear hQ
  have hr1 := bounds_u8 w1
  clear w1
  obtain ⟨W_0, hW⟩ : ∃ W, W = w.alloc (a0.o s0) := ⟨_, rfl⟩
  have hB_0 := hid (show Below w.heap.size w W_0 by rw [hW]; exact below1 _ _)
  have hA_0 := hid (show W_0.heap[w.heap.size]? = some (a0.o s0) by rw [hW]; exact new_at _ _ _ rfl)
  have hR_0 := hid (r0.later hB_0.out)
  have HR0 := hid r0
  have HM := hid hL
  have F0 := hid f0
  have Z0 := hid n0
  clear r0 hL f0 n0
  go_enter Tryd.func4, Tryd.ntmps4
  go_upto_region 1 with fail
  rw [← hW]
  clear hW
  have C := known_holds _ (HM.out.below hB_0.out)
  go_wp2_with fail
  refine C.mono ?_
  rintro x W_1 ⟨rfl, hb⟩
  have hB_1 := hid (below_on hB_0.out hb)
  have hA_1 := hid (var_on hb hA_0.out (at_lt hA_0.out))
  have hR_1 := hid (hR_0.out.later hb)
  clear hb hB_0 C hA_0 hR_0
  have C := few_note hR_1.out F0.out m0
  go_wp2_with (first
      | ((with_reducible refine wpList_load_ntG ?_ (.tmp 2) rfl rfl hA_1.out ?_); · rfl))
  refine C.mono ?_
  rintro x W_2 ⟨q, rfl, hf0, hb⟩
  have hB_2 := hid (below_on hB_1.out hb)
  have hA_2 := hid (var_on hb hA_1.out (at_lt hA_1.out))
  have hR_2 := hid (hR_1.out.later hb)
  clear hb hB_1 C hA_1 hR_1
  cases q
  · go_wp2_with fail
    first
      | exact QQ.out _ hB_2.out
      | (go_ret; exact QQ.out _ hB_2.out)
  have e0 := hid (hf0 rfl)
  clear hf0
  obtain ⟨R, hRR⟩ : ∃ R, Hid (isN a0 3 = R) := ⟨_, rfl⟩
  have C := note_is (HM.out.below hB_2.out) hR_2.out (ask_of F0.out m0) hRR
  go_wp2_with (first
      | ((with_reducible refine wpList_load_ntG ?_ (.tmp 2) rfl rfl hA_2.out ?_); · rfl))
  refine C.mono ?_
  rintro x W_3 ⟨rfl, hb⟩
  have hB_3 := hid (below_on hB_2.out hb)
  have hA_3 := hid (var_on hb hA_2.out (at_lt hA_2.out))
  have hR_3 := hid (hR_2.out.later hb)
  clear hb hB_2 C hA_2 hR_2
  cases R
  · go_wp2_with fail
    first
      | exact QQ.out _ hB_3.out
      | (go_ret; exact QQ.out _ hB_3.out)
  have h4 := hid (isN_three hRR.out).1
  obtain ⟨W_4, hW⟩ : ∃ W2, W2 = W_3.alloc (a0.o s0) := ⟨_, rfl⟩
  have hb : Below W_3.heap.size W_3 W_4 := by rw [hW]; exact below1 _ _
  have hN_4 := hid (show W_4.heap[W_3.heap.size]? = some (a0.o s0) by rw [hW]; exact new_at _ _ _ rfl)
  have hA_4 := hid (var_on hb hA_3.out (at_lt hA_3.out))
  have hR_4 := hid (hR_3.out.later hb)
  have hB_4 := hid (below_on hB_3.out hb)
  have hg1 : w.heap.size < W_3.heap.size := at_lt hA_3.out
  go_upto_region 6 with ((with_reducible refine wpList_load_ntG ?_ (.tmp 2) rfl rfl hA_3.out ?_); · rfl)
  rw [← hW]
  obtain ⟨g5, hg5⟩ : ∃ g, Hid (W_3.heap.size = g) := ⟨_, rfl⟩
  rw [hg5.out] at hN_4 hg1 ⊢
  clear hW hg5 hb hA_3 hR_3 hB_3
  have cA := (cells_at hA_4.out).1
  have lA := at_lt hA_4.out
  have cN := cells_at hN_4.out
  have lN := at_lt hN_4.out
  have hlo := m0
  obtain ⟨fr, be, mo, ha, gi, wa⟩ := a0
  obtain ⟨pm, cm, ph, ch, pg, cg, pw, cw⟩ := s0
  have hr7 : ∃ r : Nat, a1 % 7 = (r : Int) ∧ r < 7 := ⟨(a1 % 7).toNat, by omega, by omega⟩
  obtain ⟨r, hr, hr7⟩ := hr7
  have hcase : r = 0 ∨ r = 1 ∨ r = 2 ∨ r = 3 ∨ r = 4 ∨ r = 5 ∨ r = 6 := by omega
  clear hr7
  rcases hcase with rfl | rfl | rfl | rfl | rfl | rfl | rfl
  · go_upto_region 20 with fail
    obtain ⟨WX, hWX⟩ : ∃ WX, Hid (WX = (W_4.setCell ⟨g5, 0, none⟩ (.int .i64 3))) := ⟨_, rfl⟩
    rw [← hWX.out]
    have HNo := hid (sp0_no ⟨fr, be, mo, ha, gi, wa⟩)
    have hFM := hid (show FitN (sp0 ⟨fr, be, mo, ha, gi, wa⟩) from ⟨F0.out.mo, F0.out.gi, F0.out.wa⟩)
    have hLM := (show LenN (sp0 ⟨fr, be, mo, ha, gi, wa⟩) from ⟨m0.mo, m0.ha, m0.gi, m0.wa⟩)
    obtain ⟨M, hMe⟩ : ∃ M, Hid (M = sp0 ⟨fr, be, mo, ha, gi, wa⟩) := ⟨_, rfl⟩
    obtain ⟨sM, hsM⟩ : ∃ sM : Ns, Hid (sM = ⟨pm, cm, ph, ch, pg, cg, pw, cw⟩) := ⟨_, rfl⟩
    have hB_90 := hid (show Below w.heap.size w WX by rw [hWX.out]; exact hB_4.out.setCell (show w.heap.size ≤ g5 by omega) _)
    have hA_90 := hid (show WX.heap[w.heap.size]? = some (Nt.o ⟨fr, be, mo, ha, gi, wa⟩ ⟨pm, cm, ph, ch, pg, cg, pw, cw⟩) by rw [hWX.out]; exact set_off hA_4.out (by omega) _)
    have hN_90 := hid (show WX.heap[g5]? = some (Nt.o (sp0 ⟨fr, be, mo, ha, gi, wa⟩) ⟨pm, cm, ph, ch, pg, cg, pw, cw⟩) by rw [hWX.out]; exact set_at hN_4.out _ rfl)
    have hR_90 := hid (HR0.out.later hB_90.out)
    have hS_90 := hid (show RowN WX ⟨pm, cm, ph, ch, pg, cg, pw, cw⟩ (sp0 ⟨fr, be, mo, ha, gi, wa⟩) from ⟨hR_90.out.mo, hR_90.out.ha, hR_90.out.gi, hR_90.out.wa⟩)
    rw [← hMe.out] at HNo hFM hLM hN_90 hS_90
    rw [← hsM.out] at hN_90 hS_90
    have hNe := hid (ne_of_isN hRR.out HNo.out)
    have CA : ∀ (w' : World), Masks w' → RowN w' ⟨pm, cm, ph, ch, pg, cg, pw, cw⟩ ⟨fr, be, mo, ha, gi, wa⟩ → Calls Tryd.prog 8 #[Nt.v ⟨fr, be, mo, ha, gi, wa⟩ ⟨pm, cm, ph, ch, pg, cg, pw, cw⟩, .int .i64 4] w' fun e w'' => e = .returned (.bool true) ∧ Below w'.heap.size w' w'' := fun w' q1 q2 => note_is q1 q2 (ask_of F0.out m0) h4
    have C := note_is (HM.out.below hB_90.out) hS_90.out (ask_of hFM.out hLM) HNo
    clear hMe hsM lA lN
    try clear cA
    try clear cN
    go_wp2_with (first
        | ((with_reducible refine wpList_load_ntG ?_ (.tmp 2) rfl rfl hA_90.out ?_); · rfl)
        | ((with_reducible refine wpList_load_ntG ?_ (.tmp 5) rfl rfl hN_90.out ?_); · rfl))
    refine C.mono ?_
    rintro x W_91 ⟨rfl, hb⟩
    have hB_91 := hid (below_on hB_90.out hb)
    have hA_91 := hid (var_on hb hA_90.out (at_lt hA_90.out))
    have hN_91 := hid (var_on hb hN_90.out (at_lt hN_90.out))
    have hR_91 := hid (hR_90.out.later hb)
    have hS_91 := hid (hS_90.out.later hb)
    clear hb hB_90 C hA_90 hN_90 hR_90 hS_90
    have C := note_same (q := false) (hid ⟨(fun h => by cases h), fun h => absurd h hNe.out⟩) hR_91.out hS_91.out m0 hLM
    go_wp2_with (first
        | ((with_reducible refine wpList_load_ntG ?_ (.tmp 2) rfl rfl hA_91.out ?_); · rfl)
        | ((with_reducible refine wpList_load_ntG ?_ (.tmp 5) rfl rfl hN_91.out ?_); · rfl))
    refine C.mono ?_
    rintro x W_92 ⟨rfl, hb⟩
    have hB_92 := hid (below_on hB_91.out hb)
    have hA_92 := hid (var_on hb hA_91.out (at_lt hA_91.out))
    have hN_92 := hid (var_on hb hN_91.out (at_lt hN_91.out))
    have hR_92 := hid (hR_91.out.later hb)
    have hS_92 := hid (hS_91.out.later hb)
    clear hb hB_91 C hA_91 hN_91 hR_91 hS_91
    have C := CA _ (HM.out.below hB_92.out) hR_92.out
    go_wp2_with (first
        | ((with_reducible refine wpList_load_ntG ?_ (.tmp 2) rfl rfl hA_92.out ?_); · rfl)
        | ((with_reducible refine wpList_load_ntG ?_ (.tmp 5) rfl rfl hN_92.out ?_); · rfl))
    refine C.mono ?_
    rintro x W_93 ⟨rfl, hb⟩
    have hB_93 := hid (below_on hB_92.out hb)
    have hA_93 := hid (var_on hb hA_92.out (at_lt hA_92.out))
    have hN_93 := hid (var_on hb hN_92.out (at_lt hN_92.out))
    have hR_93 := hid (hR_92.out.later hb)
    have hS_93 := hid (hS_92.out.later hb)
    clear hb hB_92 C hA_92 hN_92 hR_92 hS_92
    go_wp2_with fail
    first
      | exact QQ.out _ hB_93.out
      | (go_ret; exact QQ.out _ hB_93.out)
  · go_upto_region 20 with fail
    obtain ⟨WX, hWX⟩ : ∃ WX, Hid (WX = (W_4.setCell ⟨g5, 1, none⟩ (.int .i64 (-1)))) := ⟨_, rfl⟩
    rw [← hWX.out]
    have HNo := hid (sp1_no ⟨fr, be, mo, ha, gi, wa⟩)
    have hFM := hid (show FitN (sp1 ⟨fr, be, mo, ha, gi, wa⟩) from ⟨F0.out.mo, F0.out.gi, F0.out.wa⟩)
    have hLM := (show LenN (sp1 ⟨fr, be, mo, ha, gi, wa⟩) from ⟨m0.mo, m0.ha, m0.gi, m0.wa⟩)
    obtain ⟨M, hMe⟩ : ∃ M, Hid (M = sp1 ⟨fr, be, mo, ha, gi, wa⟩) := ⟨_, rfl⟩
    obtain ⟨sM, hsM⟩ : ∃ sM : Ns, Hid (sM = ⟨pm, cm, ph, ch, pg, cg, pw, cw⟩) := ⟨_, rfl⟩
    have hB_90 := hid (show Below w.heap.size w WX by rw [hWX.out]; exact hB_4.out.setCell (show w.heap.size ≤ g5 by omega) _)
    have hA_90 := hid (show WX.heap[w.heap.size]? = some (Nt.o ⟨fr, be, mo, ha, gi, wa⟩ ⟨pm, cm, ph, ch, pg, cg, pw, cw⟩) by rw [hWX.out]; exact set_off hA_4.out (by omega) _)
    have hN_90 := hid (show WX.heap[g5]? = some (Nt.o (sp1 ⟨fr, be, mo, ha, gi, wa⟩) ⟨pm, cm, ph, ch, pg, cg, pw, cw⟩) by rw [hWX.out]; exact set_at hN_4.out _ rfl)
    have hR_90 := hid (HR0.out.later hB_90.out)
    have hS_90 := hid (show RowN WX ⟨pm, cm, ph, ch, pg, cg, pw, cw⟩ (sp1 ⟨fr, be, mo, ha, gi, wa⟩) from ⟨hR_90.out.mo, hR_90.out.ha, hR_90.out.gi, hR_90.out.wa⟩)
    rw [← hMe.out] at HNo hFM hLM hN_90 hS_90
    rw [← hsM.out] at hN_90 hS_90
    have hNe := hid (ne_of_isN hRR.out HNo.out)
    have CA : ∀ (w' : World), Masks w' → RowN w' ⟨pm, cm, ph, ch, pg, cg, pw, cw⟩ ⟨fr, be, mo, ha, gi, wa⟩ → Calls Tryd.prog 8 #[Nt.v ⟨fr, be, mo, ha, gi, wa⟩ ⟨pm, cm, ph, ch, pg, cg, pw, cw⟩, .int .i64 4] w' fun e w'' => e = .returned (.bool true) ∧ Below w'.heap.size w' w'' := fun w' q1 q2 => note_is q1 q2 (ask_of F0.out m0) h4
    have C := note_is (HM.out.below hB_90.out) hS_90.out (ask_of hFM.out hLM) HNo
    clear hMe hsM lA lN
    try clear cA
    try clear cN
    go_wp2_with (first
        | ((with_reducible refine wpList_load_ntG ?_ (.tmp 2) rfl rfl hA_90.out ?_); · rfl)
        | ((with_reducible refine wpList_load_ntG ?_ (.tmp 5) rfl rfl hN_90.out ?_); · rfl))
    refine C.mono ?_
    rintro x W_91 ⟨rfl, hb⟩
    have hB_91 := hid (below_on hB_90.out hb)
    have hA_91 := hid (var_on hb hA_90.out (at_lt hA_90.out))
    have hN_91 := hid (var_on hb hN_90.out (at_lt hN_90.out))
    have hR_91 := hid (hR_90.out.later hb)
    have hS_91 := hid (hS_90.out.later hb)
    clear hb hB_90 C hA_90 hN_90 hR_90 hS_90
    have C := note_same (q := false) (hid ⟨(fun h => by cases h), fun h => absurd h hNe.out⟩) hR_91.out hS_91.out m0 hLM
    go_wp2_with (first
        | ((with_reducible refine wpList_load_ntG ?_ (.tmp 2) rfl rfl hA_91.out ?_); · rfl)
        | ((with_reducible refine wpList_load_ntG ?_ (.tmp 5) rfl rfl hN_91.out ?_); · rfl))
    refine C.mono ?_
    rintro x W_92 ⟨rfl, hb⟩
    have hB_92 := hid (below_on hB_91.out hb)
    have hA_92 := hid (var_on hb hA_91.out (at_lt hA_91.out))
    have hN_92 := hid (var_on hb hN_91.out (at_lt hN_91.out))
    have hR_92 := hid (hR_91.out.later hb)
    have hS_92 := hid (hS_91.out.later hb)
    clear hb hB_91 C hA_91 hN_91 hR_91 hS_91
    have C := CA _ (HM.out.below hB_92.out) hR_92.out
    go_wp2_with (first
        | ((with_reducible refine wpList_load_ntG ?_ (.tmp 2) rfl rfl hA_92.out ?_); · rfl)
        | ((with_reducible refine wpList_load_ntG ?_ (.tmp 5) rfl rfl hN_92.out ?_); · rfl))
    refine C.mono ?_
    rintro x W_93 ⟨rfl, hb⟩
    have hB_93 := hid (below_on hB_92.out hb)
    have hA_93 := hid (var_on hb hA_92.out (at_lt hA_92.out))
    have hN_93 := hid (var_on hb hN_92.out (at_lt hN_92.out))
    have hR_93 := hid (hR_92.out.later hb)
    have hS_93 := hid (hS_92.out.later hb)
    clear hb hB_92 C hA_92 hN_92 hR_92 hS_92
    go_wp2_with fail
    first
      | exact QQ.out _ hB_93.out
      | (go_ret; exact QQ.out _ hB_93.out)
  · obtain ⟨i0, hi, hz0, hz1, hz2⟩ := info_parts Tryd.infoHd
    have HNEWS := hid (news_hd HR0.out.ha)
    have hlen := hid (flatG_length Hd.z ha)
    have hone := hid (all_one hd_one ha)
    have hnil := hid (show ph = none → ha.length = 0 ∧ ch = 0 from Z0.out.ha)
    have hfew : ha.length ≤ 30 := by have := e0.out.ha; simp only at this; omega
    have hfew63 : ha.length ≤ maxLen := by unfold maxLen; omega
    have hBw := hid (show Below w.heap.size w W_4 from hB_4.out)
    go_upto_region 13 with fail
    obtain ⟨u, hu⟩ : ∃ u, (IntKind.i64.wrap (fr + 1)).tmod 3 = u := ⟨_, rfl⟩
    go_region_law (first
      | (refine step_copy rfl (.const (.slice none 0 0)) (.tmp 36) 23 rfl W_4.heap.size 43 i0 zH.v 2 16 Tryd.underlying23 hi hz0 hz1 hz2 rfl (by decide) rfl ph ha.length ch (flatG Hd.cs ha) rfl hlen.out (HNEWS.out W_4.drew hBw.out.drew) hone.out hnil.out hfew63 (by omega) (Nat.le_refl _) ?_
         intro p1 c1 w1 hown1 hgrow1 hblk1
         have hN1 := hid (show w1.heap[g5]? = some (Nt.o ⟨fr, be, mo, ha, gi, wa⟩ ⟨pm, cm, ph, ch, pg, cg, pw, cw⟩) by rw [hgrow1.block _ (by simp; omega) (by simp)]; exact hN_4.out)
         have hA1 := hid (show w1.heap[w.heap.size]? = some (Nt.o ⟨fr, be, mo, ha, gi, wa⟩ ⟨pm, cm, ph, ch, pg, cg, pw, cw⟩) by rw [hgrow1.block _ (by simp; omega) (by simp)]; exact hA_4.out)
         have hs1 : W_4.heap.size ≤ w1.heap.size := by have := hgrow1.size; first | exact this | (simp at this; omega)
         have hb1 : ∀ g, (Value.slice p1 ha.length c1).ownBlock = some g → W_4.heap.size ≤ g := fun g h => by have := hblk1 g h; first | exact this | (simp at this; omega)
         have cA1 := (cells_at hA1.out).1
         have lA1 := at_lt hA1.out
         have lN1 := at_lt hN1.out
         have hB1 := hid (show Below w.heap.size w w1 from hBw.out.drew.grown hgrow1 hBw.out.size (fun k hk => by cases hk)))
      | (refine step_copy rfl (.const (.slice none 0 0)) (.tmp 36) 23 rfl W_4.heap.size 43 i0 zH.v 2 16 Tryd.underlying23 hi hz0 hz1 hz2 rfl (by decide) rfl ph ha.length ch (flatG Hd.cs ha) rfl hlen.out (HNEWS.out (W_4.drew.alloc (Obj.cells #[.int .i64 16, .int .i64 u] 43)) (hBw.out.drew.alloc hBw.out.size _)) hone.out hnil.out hfew63 (by omega) (by simp) ?_
         intro p1 c1 w1 hown1 hgrow1 hblk1
         have hN1 := hid (show w1.heap[g5]? = some (Nt.o ⟨fr, be, mo, ha, gi, wa⟩ ⟨pm, cm, ph, ch, pg, cg, pw, cw⟩) by rw [hgrow1.block _ (by simp; omega) (by simp)]; exact old_at (show W_4.drew.heap[g5]? = _ from hN_4.out) _)
         have hA1 := hid (show w1.heap[w.heap.size]? = some (Nt.o ⟨fr, be, mo, ha, gi, wa⟩ ⟨pm, cm, ph, ch, pg, cg, pw, cw⟩) by rw [hgrow1.block _ (by simp; omega) (by simp)]; exact old_at (show W_4.drew.heap[w.heap.size]? = _ from hA_4.out) _)
         have hs1 : W_4.heap.size ≤ w1.heap.size := by have := hgrow1.size; first | exact this | (simp at this; omega)
         have hb1 : ∀ g, (Value.slice p1 ha.length c1).ownBlock = some g → W_4.heap.size ≤ g := fun g h => by have := hblk1 g h; first | exact this | (simp at this; omega)
         have cA1 := (cells_at hA1.out).1
         have lA1 := at_lt hA1.out
         have lN1 := at_lt hN1.out
         have hX1 := hid (show w1.heap[W_4.heap.size]? = some (Obj.cells #[.int .i64 16, .int .i64 u] 43) by rw [hgrow1.block _ (by simp) (by simp)]; exact new_at _ _ _ rfl)
         have hB1 := hid (show Below w.heap.size w w1 from (hBw.out.drew.alloc hBw.out.size _).grown hgrow1 (by have := hBw.out.size; simp; omega) (fun k hk => by cases hk)))
      | (refine step_append_lies _ rfl (.tmp 37) (.tmp 43) 23 rfl W_4.heap.size 43 i0 zH.v 2 16 Tryd.underlying23 hi hz0 hz1 hz2 rfl (by decide) _ _ _ rfl (hown1.alloc _) ⟨w1.heap.size, 0, none⟩ 1 1 (Hd.cs (⟨16, u⟩ : Hd)) rfl rfl (World.news_of_block (heap_alloc_new _ _)) (hd_one _) (by decide) (by unfold maxLen; omega) (by omega) (by simp; omega) (w1.heap.size + 1) (by simp) ?_
         intro g2 c2 w2 hown2 hgrow2 hat2 hlt2
         have hN2 := hid (show w2.heap[g5]? = some (Nt.o ⟨fr, be, mo, ha, gi, wa⟩ ⟨pm, cm, ph, ch, pg, cg, pw, cw⟩) by rw [hgrow2.block _ (by simp; omega) (fun e => by have := hb1 _ e.symm; omega)]; exact old_at hN1.out _)
         have hA2 := hid (show w2.heap[w.heap.size]? = some (Nt.o ⟨fr, be, mo, ha, gi, wa⟩ ⟨pm, cm, ph, ch, pg, cg, pw, cw⟩) by rw [hgrow2.block _ (by simp; omega) (fun e => by have := hb1 _ e.symm; omega)]; exact old_at hA1.out _)
         have hB2 := hid (show Below w.heap.size w w2 from (hB1.out.alloc hB1.out.size _).grown hgrow2 (by have := hB1.out.size; simp; omega) (fun k hk => by have := hb1 k hk; have := hBw.out.size; omega))
         have hO2 := hid hown2
         have cN2 := cells_at hN2.out
         clear hgrow2 hat2 hown2 hgrow1 hown1 hblk1 hb1 cA1 cN cA lA1 lN1
         )
      | (refine step_append_lies _ rfl (.tmp 37) (.tmp 43) 23 rfl W_4.heap.size 43 i0 zH.v 2 16 Tryd.underlying23 hi hz0 hz1 hz2 rfl (by decide) _ _ _ rfl hown1 ⟨W_4.heap.size, 0, none⟩ 1 1 (Hd.cs (⟨16, u⟩ : Hd)) rfl rfl (World.news_of_block hX1.out) (hd_one _) (by decide) (by unfold maxLen; omega) (by omega) (by omega) w1.heap.size rfl ?_
         intro g2 c2 w2 hown2 hgrow2 hat2 hlt2
         have hN2 := hid (show w2.heap[g5]? = some (Nt.o ⟨fr, be, mo, ha, gi, wa⟩ ⟨pm, cm, ph, ch, pg, cg, pw, cw⟩) by rw [hgrow2.block _ (by omega) (fun e => by have := hb1 _ e.symm; omega)]; exact hN1.out)
         have hA2 := hid (show w2.heap[w.heap.size]? = some (Nt.o ⟨fr, be, mo, ha, gi, wa⟩ ⟨pm, cm, ph, ch, pg, cg, pw, cw⟩) by rw [hgrow2.block _ (by omega) (fun e => by have := hb1 _ e.symm; omega)]; exact hA1.out)
         have hB2 := hid (show Below w.heap.size w w2 from hB1.out.grown hgrow2 hB1.out.size (fun k hk => by have := hb1 k hk; have := hBw.out.size; omega))
         have hO2 := hid hown2
         have cN2 := cells_at hN2.out
         clear hgrow2 hat2 hown2 hgrow1 hown1 hblk1 hb1 cA1 cN cA lA1 lN1
         ))
    all_goals
      obtain ⟨WX, hWX⟩ : ∃ WX, Hid (WX = w2.setCell ⟨g5, 3, none⟩ (.slice (some ⟨g2, 0, none⟩) (ha.length + 1) c2)) := ⟨_, rfl⟩
      try rw [← hWX.out]
      have hL1 : (ha ++ [(⟨16, u⟩ : Hd)]).length = ha.length + 1 := by rw [List.length_append]; rfl
      have hOX := hid (show WX.ownsRow W_4.heap.size 43 2 (.slice (some ⟨g2, 0, none⟩) (ha.length + 1) c2) (ha.length + 1) (flatG Hd.cs (ha ++ [(⟨16, u⟩ : Hd)])) by
        rw [hWX.out, show flatG Hd.cs (ha ++ [(⟨16, u⟩ : Hd)]) = flatG Hd.cs ha ++ Hd.cs (⟨16, u⟩ : Hd) by show flatG Hd.cs (ha ++ [(⟨16, u⟩ : Hd)]) = flatG Hd.cs ha ++ Hd.cs (⟨16, u⟩ : Hd); rw [flatG_append, flatG_one]]
        exact owns_but hO2.out ((But.refl g5 w2).setCell _ _) lN)
      have HNo := hid (sp2_no ⟨fr, be, mo, ha, gi, wa⟩ u)
      have hFM := hid (show FitN (sp2 ⟨fr, be, mo, ha, gi, wa⟩ u) from ⟨F0.out.mo, F0.out.gi, F0.out.wa⟩)
      have hLM := (show LenN (sp2 ⟨fr, be, mo, ha, gi, wa⟩ u) from ⟨m0.mo, (by show (ha ++ [(⟨16, u⟩ : Hd)]).length ≤ maxLen; rw [hL1]; unfold maxLen; omega), m0.gi, m0.wa⟩)
      obtain ⟨M, hMe⟩ : ∃ M, Hid (M = sp2 ⟨fr, be, mo, ha, gi, wa⟩ u) := ⟨_, rfl⟩
      obtain ⟨sM, hsM⟩ : ∃ sM : Ns, Hid (sM = ⟨pm, cm, some ⟨g2, 0, none⟩, c2, pg, cg, pw, cw⟩) := ⟨_, rfl⟩
      have hB_90 := hid (show Below w.heap.size w WX by rw [hWX.out]; exact hB2.out.setCell (show w.heap.size ≤ g5 by omega) _)
      have hA_90 := hid (show WX.heap[w.heap.size]? = some (Nt.o ⟨fr, be, mo, ha, gi, wa⟩ ⟨pm, cm, ph, ch, pg, cg, pw, cw⟩) by rw [hWX.out]; exact set_off hA2.out (by omega) _)
      have hN_90 := hid (show WX.heap[g5]? = some (Nt.o (sp2 ⟨fr, be, mo, ha, gi, wa⟩ u) ⟨pm, cm, some ⟨g2, 0, none⟩, c2, pg, cg, pw, cw⟩) by rw [hWX.out]; refine set_at hN2.out _ ?_; simp [sp2])
      have hR_90 := hid (HR0.out.later hB_90.out)
      have hS_90 := hid (show RowN WX ⟨pm, cm, some ⟨g2, 0, none⟩, c2, pg, cg, pw, cw⟩ (sp2 ⟨fr, be, mo, ha, gi, wa⟩ u) from ⟨hR_90.out.mo, row_ownG Hd.z hOX.out hL1.symm, hR_90.out.gi, hR_90.out.wa⟩)
      rw [← hMe.out] at HNo hFM hLM hN_90 hS_90
      rw [← hsM.out] at hN_90 hS_90
      have hNe := hid (ne_of_isN hRR.out HNo.out)
      have CA : ∀ (w' : World), Masks w' → RowN w' ⟨pm, cm, ph, ch, pg, cg, pw, cw⟩ ⟨fr, be, mo, ha, gi, wa⟩ → Calls Tryd.prog 8 #[Nt.v ⟨fr, be, mo, ha, gi, wa⟩ ⟨pm, cm, ph, ch, pg, cg, pw, cw⟩, .int .i64 4] w' fun e w'' => e = .returned (.bool true) ∧ Below w'.heap.size w' w'' := fun w' q1 q2 => note_is q1 q2 (ask_of F0.out m0) h4
      have C := note_is (HM.out.below hB_90.out) hS_90.out (ask_of hFM.out hLM) HNo
      clear hMe hsM lA lN
      try clear cA
      try clear cN
      go_wp2_with (first
          | ((with_reducible refine wpList_load_ntG ?_ (.tmp 2) rfl rfl hA_90.out ?_); · rfl)
          | ((with_reducible refine wpList_load_ntG ?_ (.tmp 5) rfl rfl hN_90.out ?_); · rfl))
      refine C.mono ?_
      rintro x W_91 ⟨rfl, hb⟩
      have hB_91 := hid (below_on hB_90.out hb)
      have hA_91 := hid (var_on hb hA_90.out (at_lt hA_90.out))
      have hN_91 := hid (var_on hb hN_90.out (at_lt hN_90.out))
      have hR_91 := hid (hR_90.out.later hb)
      have hS_91 := hid (hS_90.out.later hb)
      clear hb hB_90 C hA_90 hN_90 hR_90 hS_90
      have C := note_same (q := false) (hid ⟨(fun h => by cases h), fun h => absurd h hNe.out⟩) hR_91.out hS_91.out m0 hLM
      go_wp2_with (first
          | ((with_reducible refine wpList_load_ntG ?_ (.tmp 2) rfl rfl hA_91.out ?_); · rfl)
          | ((with_reducible refine wpList_load_ntG ?_ (.tmp 5) rfl rfl hN_91.out ?_); · rfl))
      refine C.mono ?_
      rintro x W_92 ⟨rfl, hb⟩
      have hB_92 := hid (below_on hB_91.out hb)
      have hA_92 := hid (var_on hb hA_91.out (at_lt hA_91.out))
      have hN_92 := hid (var_on hb hN_91.out (at_lt hN_91.out))
      have hR_92 := hid (hR_91.out.later hb)
      have hS_92 := hid (hS_91.out.later hb)
      clear hb hB_91 C hA_91 hN_91 hR_91 hS_91
      have C := CA _ (HM.out.below hB_92.out) hR_92.out
      go_wp2_with (first
          | ((with_reducible refine wpList_load_ntG ?_ (.tmp 2) rfl rfl hA_92.out ?_); · rfl)
          | ((with_reducible refine wpList_load_ntG ?_ (.tmp 5) rfl rfl hN_92.out ?_); · rfl))
      refine C.mono ?_
      rintro x W_93 ⟨rfl, hb⟩
      have hB_93 := hid (below_on hB_92.out hb)
      have hA_93 := hid (var_on hb hA_92.out (at_lt hA_92.out))
      have hN_93 := hid (var_on hb hN_92.out (at_lt hN_92.out))
      have hR_93 := hid (hR_92.out.later hb)
      have hS_93 := hid (hS_92.out.later hb)
      clear hb hB_92 C hA_92 hN_92 hR_92 hS_92
      go_wp2_with fail
      first
        | exact QQ.out _ hB_93.out
        | (go_ret; exact QQ.out _ hB_93.out)
  · obtain ⟨i0, hi, hz0, hz1, hz2⟩ := info_parts Tryd.infoHd
    have HNEWS := hid (news_hd HR0.out.ha)
    have hlen := hid (flatG_length Hd.z ha)
    have hone := hid (all_one hd_one ha)
    have hnil := hid (show ph = none → ha.length = 0 ∧ ch = 0 from Z0.out.ha)
    have hfew : ha.length ≤ 30 := by have := e0.out.ha; simp only at this; omega
    have hfew63 : ha.length ≤ maxLen := by unfold maxLen; omega
    have hBw := hid (show Below w.heap.size w W_4 from hB_4.out)
    go_upto_region 15 with fail
    go_region_law (first
      | (refine step_copy rfl (.const (.slice none 0 0)) (.tmp 49) 23 rfl W_4.heap.size 43 i0 zH.v 2 16 Tryd.underlying23 hi hz0 hz1 hz2 rfl (by decide) rfl ph ha.length ch (flatG Hd.cs ha) rfl hlen.out (HNEWS.out W_4.drew hBw.out.drew) hone.out hnil.out hfew63 (by omega) (Nat.le_refl _) ?_
         intro p1 c1 w1 hown1 hgrow1 hblk1
         have hN1 := hid (show w1.heap[g5]? = some (Nt.o ⟨fr, be, mo, ha, gi, wa⟩ ⟨pm, cm, ph, ch, pg, cg, pw, cw⟩) by rw [hgrow1.block _ (by simp; omega) (by simp)]; exact hN_4.out)
         have hA1 := hid (show w1.heap[w.heap.size]? = some (Nt.o ⟨fr, be, mo, ha, gi, wa⟩ ⟨pm, cm, ph, ch, pg, cg, pw, cw⟩) by rw [hgrow1.block _ (by simp; omega) (by simp)]; exact hA_4.out)
         have hs1 : W_4.heap.size ≤ w1.heap.size := by have := hgrow1.size; first | exact this | (simp at this; omega)
         have hb1 : ∀ g, (Value.slice p1 ha.length c1).ownBlock = some g → W_4.heap.size ≤ g := fun g h => by have := hblk1 g h; first | exact this | (simp at this; omega)
         have cA1 := (cells_at hA1.out).1
         have lA1 := at_lt hA1.out
         have lN1 := at_lt hN1.out
         have hB1 := hid (show Below w.heap.size w w1 from hBw.out.drew.grown hgrow1 hBw.out.size (fun k hk => by cases hk)))
      | (refine step_copy rfl (.const (.slice none 0 0)) (.tmp 49) 23 rfl W_4.heap.size 43 i0 zH.v 2 16 Tryd.underlying23 hi hz0 hz1 hz2 rfl (by decide) rfl ph ha.length ch (flatG Hd.cs ha) rfl hlen.out (HNEWS.out (W_4.drew.alloc (Obj.cells #[.int .i64 15, .int .i64 fr] 43)) (hBw.out.drew.alloc hBw.out.size _)) hone.out hnil.out hfew63 (by omega) (by simp) ?_
         intro p1 c1 w1 hown1 hgrow1 hblk1
         have hN1 := hid (show w1.heap[g5]? = some (Nt.o ⟨fr, be, mo, ha, gi, wa⟩ ⟨pm, cm, ph, ch, pg, cg, pw, cw⟩) by rw [hgrow1.block _ (by simp; omega) (by simp)]; exact old_at (show W_4.drew.heap[g5]? = _ from hN_4.out) _)
         have hA1 := hid (show w1.heap[w.heap.size]? = some (Nt.o ⟨fr, be, mo, ha, gi, wa⟩ ⟨pm, cm, ph, ch, pg, cg, pw, cw⟩) by rw [hgrow1.block _ (by simp; omega) (by simp)]; exact old_at (show W_4.drew.heap[w.heap.size]? = _ from hA_4.out) _)
         have hs1 : W_4.heap.size ≤ w1.heap.size := by have := hgrow1.size; first | exact this | (simp at this; omega)
         have hb1 : ∀ g, (Value.slice p1 ha.length c1).ownBlock = some g → W_4.heap.size ≤ g := fun g h => by have := hblk1 g h; first | exact this | (simp at this; omega)
         have cA1 := (cells_at hA1.out).1
         have lA1 := at_lt hA1.out
         have lN1 := at_lt hN1.out
         have hX1 := hid (show w1.heap[W_4.heap.size]? = some (Obj.cells #[.int .i64 15, .int .i64 fr] 43) by rw [hgrow1.block _ (by simp) (by simp)]; exact new_at _ _ _ rfl)
         have hB1 := hid (show Below w.heap.size w w1 from (hBw.out.drew.alloc hBw.out.size _).grown hgrow1 (by have := hBw.out.size; simp; omega) (fun k hk => by cases hk)))
      | (refine step_append_lies _ rfl (.tmp 50) (.tmp 54) 23 rfl W_4.heap.size 43 i0 zH.v 2 16 Tryd.underlying23 hi hz0 hz1 hz2 rfl (by decide) _ _ _ rfl (hown1.alloc _) ⟨w1.heap.size, 0, none⟩ 1 1 (Hd.cs (⟨15, fr⟩ : Hd)) rfl rfl (World.news_of_block (heap_alloc_new _ _)) (hd_one _) (by decide) (by unfold maxLen; omega) (by omega) (by simp; omega) (w1.heap.size + 1) (by simp) ?_
         intro g2 c2 w2 hown2 hgrow2 hat2 hlt2
         have hN2 := hid (show w2.heap[g5]? = some (Nt.o ⟨fr, be, mo, ha, gi, wa⟩ ⟨pm, cm, ph, ch, pg, cg, pw, cw⟩) by rw [hgrow2.block _ (by simp; omega) (fun e => by have := hb1 _ e.symm; omega)]; exact old_at hN1.out _)
         have hA2 := hid (show w2.heap[w.heap.size]? = some (Nt.o ⟨fr, be, mo, ha, gi, wa⟩ ⟨pm, cm, ph, ch, pg, cg, pw, cw⟩) by rw [hgrow2.block _ (by simp; omega) (fun e => by have := hb1 _ e.symm; omega)]; exact old_at hA1.out _)
         have hB2 := hid (show Below w.heap.size w w2 from (hB1.out.alloc hB1.out.size _).grown hgrow2 (by have := hB1.out.size; simp; omega) (fun k hk => by have := hb1 k hk; have := hBw.out.size; omega))
         have hO2 := hid hown2
         have cN2 := cells_at hN2.out
         clear hgrow2 hat2 hown2 hgrow1 hown1 hblk1 hb1 cA1 cN cA lA1 lN1
         )
      | (refine step_append_lies _ rfl (.tmp 50) (.tmp 54) 23 rfl W_4.heap.size 43 i0 zH.v 2 16 Tryd.underlying23 hi hz0 hz1 hz2 rfl (by decide) _ _ _ rfl hown1 ⟨W_4.heap.size, 0, none⟩ 1 1 (Hd.cs (⟨15, fr⟩ : Hd)) rfl rfl (World.news_of_block hX1.out) (hd_one _) (by decide) (by unfold maxLen; omega) (by omega) (by omega) w1.heap.size rfl ?_
         intro g2 c2 w2 hown2 hgrow2 hat2 hlt2
         have hN2 := hid (show w2.heap[g5]? = some (Nt.o ⟨fr, be, mo, ha, gi, wa⟩ ⟨pm, cm, ph, ch, pg, cg, pw, cw⟩) by rw [hgrow2.block _ (by omega) (fun e => by have := hb1 _ e.symm; omega)]; exact hN1.out)
         have hA2 := hid (show w2.heap[w.heap.size]? = some (Nt.o ⟨fr, be, mo, ha, gi, wa⟩ ⟨pm, cm, ph, ch, pg, cg, pw, cw⟩) by rw [hgrow2.block _ (by omega) (fun e => by have := hb1 _ e.symm; omega)]; exact hA1.out)
         have hB2 := hid (show Below w.heap.size w w2 from hB1.out.grown hgrow2 hB1.out.size (fun k hk => by have := hb1 k hk; have := hBw.out.size; omega))
         have hO2 := hid hown2
         have cN2 := cells_at hN2.out
         clear hgrow2 hat2 hown2 hgrow1 hown1 hblk1 hb1 cA1 cN cA lA1 lN1
         ))
    all_goals
      obtain ⟨WX, hWX⟩ : ∃ WX, Hid (WX = w2.setCell ⟨g5, 3, none⟩ (.slice (some ⟨g2, 0, none⟩) (ha.length + 1) c2)) := ⟨_, rfl⟩
      try rw [← hWX.out]
      have hL1 : (ha ++ [(⟨15, fr⟩ : Hd)]).length = ha.length + 1 := by rw [List.length_append]; rfl
      have hOX := hid (show WX.ownsRow W_4.heap.size 43 2 (.slice (some ⟨g2, 0, none⟩) (ha.length + 1) c2) (ha.length + 1) (flatG Hd.cs (ha ++ [(⟨15, fr⟩ : Hd)])) by
        rw [hWX.out, show flatG Hd.cs (ha ++ [(⟨15, fr⟩ : Hd)]) = flatG Hd.cs ha ++ Hd.cs (⟨15, fr⟩ : Hd) by show flatG Hd.cs (ha ++ [(⟨15, fr⟩ : Hd)]) = flatG Hd.cs ha ++ Hd.cs (⟨15, fr⟩ : Hd); rw [flatG_append, flatG_one]]
        exact owns_but hO2.out ((But.refl g5 w2).setCell _ _) lN)
      have HNo := hid (sp3_no ⟨fr, be, mo, ha, gi, wa⟩)
      have hFM := hid (show FitN (sp3 ⟨fr, be, mo, ha, gi, wa⟩) from ⟨F0.out.mo, F0.out.gi, F0.out.wa⟩)
      have hLM := (show LenN (sp3 ⟨fr, be, mo, ha, gi, wa⟩) from ⟨m0.mo, (by show (ha ++ [(⟨15, fr⟩ : Hd)]).length ≤ maxLen; rw [hL1]; unfold maxLen; omega), m0.gi, m0.wa⟩)
      obtain ⟨M, hMe⟩ : ∃ M, Hid (M = sp3 ⟨fr, be, mo, ha, gi, wa⟩) := ⟨_, rfl⟩
      obtain ⟨sM, hsM⟩ : ∃ sM : Ns, Hid (sM = ⟨pm, cm, some ⟨g2, 0, none⟩, c2, pg, cg, pw, cw⟩) := ⟨_, rfl⟩
      have hB_90 := hid (show Below w.heap.size w WX by rw [hWX.out]; exact hB2.out.setCell (show w.heap.size ≤ g5 by omega) _)
      have hA_90 := hid (show WX.heap[w.heap.size]? = some (Nt.o ⟨fr, be, mo, ha, gi, wa⟩ ⟨pm, cm, ph, ch, pg, cg, pw, cw⟩) by rw [hWX.out]; exact set_off hA2.out (by omega) _)
      have hN_90 := hid (show WX.heap[g5]? = some (Nt.o (sp3 ⟨fr, be, mo, ha, gi, wa⟩) ⟨pm, cm, some ⟨g2, 0, none⟩, c2, pg, cg, pw, cw⟩) by rw [hWX.out]; refine set_at hN2.out _ ?_; simp [sp3])
      have hR_90 := hid (HR0.out.later hB_90.out)
      have hS_90 := hid (show RowN WX ⟨pm, cm, some ⟨g2, 0, none⟩, c2, pg, cg, pw, cw⟩ (sp3 ⟨fr, be, mo, ha, gi, wa⟩) from ⟨hR_90.out.mo, row_ownG Hd.z hOX.out hL1.symm, hR_90.out.gi, hR_90.out.wa⟩)
      rw [← hMe.out] at HNo hFM hLM hN_90 hS_90
      rw [← hsM.out] at hN_90 hS_90
      have hNe := hid (ne_of_isN hRR.out HNo.out)
      have CA : ∀ (w' : World), Masks w' → RowN w' ⟨pm, cm, ph, ch, pg, cg, pw, cw⟩ ⟨fr, be, mo, ha, gi, wa⟩ → Calls Tryd.prog 8 #[Nt.v ⟨fr, be, mo, ha, gi, wa⟩ ⟨pm, cm, ph, ch, pg, cg, pw, cw⟩, .int .i64 4] w' fun e w'' => e = .returned (.bool true) ∧ Below w'.heap.size w' w'' := fun w' q1 q2 => note_is q1 q2 (ask_of F0.out m0) h4
      have C := note_is (HM.out.below hB_90.out) hS_90.out (ask_of hFM.out hLM) HNo
      clear hMe hsM lA lN
      try clear cA
      try clear cN
      go_wp2_with (first
          | ((with_reducible refine wpList_load_ntG ?_ (.tmp 2) rfl rfl hA_90.out ?_); · rfl)
          | ((with_reducible refine wpList_load_ntG ?_ (.tmp 5) rfl rfl hN_90.out ?_); · rfl))
      refine C.mono ?_
      rintro x W_91 ⟨rfl, hb⟩
      have hB_91 := hid (below_on hB_90.out hb)
      have hA_91 := hid (var_on hb hA_90.out (at_lt hA_90.out))
      have hN_91 := hid (var_on hb hN_90.out (at_lt hN_90.out))
      have hR_91 := hid (hR_90.out.later hb)
      have hS_91 := hid (hS_90.out.later hb)
      clear hb hB_90 C hA_90 hN_90 hR_90 hS_90
      have C := note_same (q := false) (hid ⟨(fun h => by cases h), fun h => absurd h hNe.out⟩) hR_91.out hS_91.out m0 hLM
      go_wp2_with (first
          | ((with_reducible refine wpList_load_ntG ?_ (.tmp 2) rfl rfl hA_91.out ?_); · rfl)
          | ((with_reducible refine wpList_load_ntG ?_ (.tmp 5) rfl rfl hN_91.out ?_); · rfl))
      refine C.mono ?_
      rintro x W_92 ⟨rfl, hb⟩
      have hB_92 := hid (below_on hB_91.out hb)
      have hA_92 := hid (var_on hb hA_91.out (at_lt hA_91.out))
      have hN_92 := hid (var_on hb hN_91.out (at_lt hN_91.out))
      have hR_92 := hid (hR_91.out.later hb)
      have hS_92 := hid (hS_91.out.later hb)
      clear hb hB_91 C hA_91 hN_91 hR_91 hS_91
      have C := CA _ (HM.out.below hB_92.out) hR_92.out
      go_wp2_with (first
          | ((with_reducible refine wpList_load_ntG ?_ (.tmp 2) rfl rfl hA_92.out ?_); · rfl)
          | ((with_reducible refine wpList_load_ntG ?_ (.tmp 5) rfl rfl hN_92.out ?_); · rfl))
      refine C.mono ?_
      rintro x W_93 ⟨rfl, hb⟩
      have hB_93 := hid (below_on hB_92.out hb)
      have hA_93 := hid (var_on hb hA_92.out (at_lt hA_92.out))
      have hN_93 := hid (var_on hb hN_92.out (at_lt hN_92.out))
      have hR_93 := hid (hR_92.out.later hb)
      have hS_93 := hid (hS_92.out.later hb)
      clear hb hB_92 C hA_92 hN_92 hR_92 hS_92
      go_wp2_with fail
      first
        | exact QQ.out _ hB_93.out
        | (go_ret; exact QQ.out _ hB_93.out)
  · obtain ⟨i0, hi, hz0, hz1, hz2⟩ := info_parts Tryd.infoCm
    have HNEWS := hid (news_cm HR0.out.wa)
    have hlen := hid ((flatG_length cs_len wa : (flatM wa).length = wa.length * 22))
    have hone := hid (all_one cm_one wa)
    have hnil := hid (show pw = none → wa.length = 0 ∧ cw = 0 from Z0.out.wa)
    have hfew : wa.length ≤ 30 := by have := e0.out.wa; simp only at this; omega
    have hfew63 : wa.length ≤ maxLen := by unfold maxLen; omega
    have hBw := hid (show Below w.heap.size w W_4 from hB_4.out)
    go_upto_region 17 with fail
    go_upto_region 20 with (first
      | (at_builtin; refine wpList_copy rfl (.const (.slice none 0 0)) (.tmp 60) 24 rfl W_4.heap.size 52 i0 zC.v 22 216 Tryd.underlying24 hi hz0 hz1 hz2 rfl (by decide) rfl pw wa.length cw (flatM wa) rfl hlen.out (HNEWS.out _ hBw.out) hone.out hnil.out hfew63 (by omega) (Nat.le_refl _) ?_
         intro p1 c1 w1 hown1 hgrow1 hblk1
         have cA1 := (cells_at (show w1.heap[w.heap.size]? = some (Nt.o ⟨fr, be, mo, ha, gi, wa⟩ ⟨pm, cm, ph, ch, pg, cg, pw, cw⟩) by rw [hgrow1.block _ lA (by simp)]; exact hA_4.out)).1)
      | (at_builtin; refine wpList_append_lies _ rfl (.tmp 61) (.tmp 63) 24 rfl W_4.heap.size 52 i0 zC.v 22 216 Tryd.underlying24 hi hz0 hz1 hz2 rfl (by decide) _ _ _ rfl (hown1.alloc _) ⟨w1.heap.size, 0, none⟩ 1 1 spC.cs rfl rfl (World.news_of_block (heap_alloc_new _ _)) (cm_one _) (by decide) (by unfold maxLen; omega) (by omega) (by have := hgrow1.size; simp; omega) (w1.heap.size + 1) (by simp) ?_
         intro g2 c2 w2 hown2 hgrow2 hat2 hlt2
         have hN2 := hid (show w2.heap[g5]? = some (Nt.o ⟨fr, be, mo, ha, gi, wa⟩ ⟨pm, cm, ph, ch, pg, cg, pw, cw⟩) by rw [hgrow2.block _ (by have := hgrow1.size; simp; omega) (fun e => by have := hblk1 _ e.symm; omega)]; exact old_at (by rw [hgrow1.block _ lN (by simp)]; exact hN_4.out) _)
         have hA2 := hid (show w2.heap[w.heap.size]? = some (Nt.o ⟨fr, be, mo, ha, gi, wa⟩ ⟨pm, cm, ph, ch, pg, cg, pw, cw⟩) by rw [hgrow2.block _ (by have := hgrow1.size; simp; omega) (fun e => by have := hblk1 _ e.symm; omega)]; exact old_at (by rw [hgrow1.block _ lA (by simp)]; exact hA_4.out) _)
         have hB2 := hid (show Below w.heap.size w w2 from ((hBw.out.grown hgrow1 hBw.out.size (fun k hk => by cases hk)).alloc (Nat.le_trans hBw.out.size hgrow1.size) _).grown hgrow2 (by have := hgrow1.size; have := hBw.out.size; simp; omega) (fun k hk => Nat.le_trans hBw.out.size (hblk1 k hk)))
         have hO2 := hid hown2
         have cN2 := cells_at hN2.out
         clear hgrow2 hat2 hown2 hgrow1 hown1 hblk1 cA1 cN cA))
    obtain ⟨WX, hWX⟩ : ∃ WX, Hid (WX = w2.setCell ⟨g5, 5, none⟩ (.slice (some ⟨g2, 0, none⟩) (wa.length + 1) c2)) := ⟨_, rfl⟩
    try rw [← hWX.out]
    have hL1 : (wa ++ [spC]).length = wa.length + 1 := by rw [List.length_append]; rfl
    have hOX := hid (show WX.ownsRow W_4.heap.size 52 22 (.slice (some ⟨g2, 0, none⟩) (wa.length + 1) c2) (wa.length + 1) (flatM (wa ++ [spC])) by
      rw [hWX.out, show flatM (wa ++ [spC]) = flatM wa ++ Cm.cs spC by show flatG Cm.cs (wa ++ [spC]) = flatG Cm.cs wa ++ Cm.cs spC; rw [flatG_append, flatG_one]]
      exact owns_but hO2.out ((But.refl g5 w2).setCell _ _) lN)
    have HNo := hid (sp4_no ⟨fr, be, mo, ha, gi, wa⟩)
    have hFM := hid (show FitN (sp4 ⟨fr, be, mo, ha, gi, wa⟩) from ⟨F0.out.mo, F0.out.gi, (fun t ht => by rcases List.mem_append.1 ht with h | h; exact F0.out.wa t h; rw [List.mem_singleton.1 h]; exact in_fit ⟨fit_zF, fit_zF, fit_zF, fit_zF, fit_zF⟩)⟩)
    have hLM := (show LenN (sp4 ⟨fr, be, mo, ha, gi, wa⟩) from ⟨m0.mo, m0.ha, m0.gi, (by show (wa ++ [spC]).length ≤ maxLen; rw [hL1]; unfold maxLen; omega)⟩)
    obtain ⟨M, hMe⟩ : ∃ M, Hid (M = sp4 ⟨fr, be, mo, ha, gi, wa⟩) := ⟨_, rfl⟩
    obtain ⟨sM, hsM⟩ : ∃ sM : Ns, Hid (sM = ⟨pm, cm, ph, ch, pg, cg, some ⟨g2, 0, none⟩, c2⟩) := ⟨_, rfl⟩
    have hB_90 := hid (show Below w.heap.size w WX by rw [hWX.out]; exact hB2.out.setCell (show w.heap.size ≤ g5 by omega) _)
    have hA_90 := hid (show WX.heap[w.heap.size]? = some (Nt.o ⟨fr, be, mo, ha, gi, wa⟩ ⟨pm, cm, ph, ch, pg, cg, pw, cw⟩) by rw [hWX.out]; exact set_off hA2.out (by omega) _)
    have hN_90 := hid (show WX.heap[g5]? = some (Nt.o (sp4 ⟨fr, be, mo, ha, gi, wa⟩) ⟨pm, cm, ph, ch, pg, cg, some ⟨g2, 0, none⟩, c2⟩) by rw [hWX.out]; refine set_at hN2.out _ ?_; simp [sp4])
    have hR_90 := hid (HR0.out.later hB_90.out)
    have hS_90 := hid (show RowN WX ⟨pm, cm, ph, ch, pg, cg, some ⟨g2, 0, none⟩, c2⟩ (sp4 ⟨fr, be, mo, ha, gi, wa⟩) from ⟨hR_90.out.mo, hR_90.out.ha, hR_90.out.gi, rowM_own hOX.out hL1.symm⟩)
    rw [← hMe.out] at HNo hFM hLM hN_90 hS_90
    rw [← hsM.out] at hN_90 hS_90
    have hNe := hid (ne_of_isN hRR.out HNo.out)
    have CA : ∀ (w' : World), Masks w' → RowN w' ⟨pm, cm, ph, ch, pg, cg, pw, cw⟩ ⟨fr, be, mo, ha, gi, wa⟩ → Calls Tryd.prog 8 #[Nt.v ⟨fr, be, mo, ha, gi, wa⟩ ⟨pm, cm, ph, ch, pg, cg, pw, cw⟩, .int .i64 4] w' fun e w'' => e = .returned (.bool true) ∧ Below w'.heap.size w' w'' := fun w' q1 q2 => note_is q1 q2 (ask_of F0.out m0) h4
    have C := note_is (HM.out.below hB_90.out) hS_90.out (ask_of hFM.out hLM) HNo
    clear hMe hsM lA lN
    try clear cA
    try clear cN
    go_wp2_with (first
        | ((with_reducible refine wpList_load_ntG ?_ (.tmp 2) rfl rfl hA_90.out ?_); · rfl)
        | ((with_reducible refine wpList_load_ntG ?_ (.tmp 5) rfl rfl hN_90.out ?_); · rfl))
    refine C.mono ?_
    rintro x W_91 ⟨rfl, hb⟩
    have hB_91 := hid (below_on hB_90.out hb)
    have hA_91 := hid (var_on hb hA_90.out (at_lt hA_90.out))
    have hN_91 := hid (var_on hb hN_90.out (at_lt hN_90.out))
    have hR_91 := hid (hR_90.out.later hb)
    have hS_91 := hid (hS_90.out.later hb)
    clear hb hB_90 C hA_90 hN_90 hR_90 hS_90
    have C := note_same (q := false) (hid ⟨(fun h => by cases h), fun h => absurd h hNe.out⟩) hR_91.out hS_91.out m0 hLM
    go_wp2_with (first
        | ((with_reducible refine wpList_load_ntG ?_ (.tmp 2) rfl rfl hA_91.out ?_); · rfl)
        | ((with_reducible refine wpList_load_ntG ?_ (.tmp 5) rfl rfl hN_91.out ?_); · rfl))
    refine C.mono ?_
    rintro x W_92 ⟨rfl, hb⟩
    have hB_92 := hid (below_on hB_91.out hb)
    have hA_92 := hid (var_on hb hA_91.out (at_lt hA_91.out))
    have hN_92 := hid (var_on hb hN_91.out (at_lt hN_91.out))
    have hR_92 := hid (hR_91.out.later hb)
    have hS_92 := hid (hS_91.out.later hb)
    clear hb hB_91 C hA_91 hN_91 hR_91 hS_91
    have C := CA _ (HM.out.below hB_92.out) hR_92.out
    go_wp2_with (first
        | ((with_reducible refine wpList_load_ntG ?_ (.tmp 2) rfl rfl hA_92.out ?_); · rfl)
        | ((with_reducible refine wpList_load_ntG ?_ (.tmp 5) rfl rfl hN_92.out ?_); · rfl))
    refine C.mono ?_
    rintro x W_93 ⟨rfl, hb⟩
    have hB_93 := hid (below_on hB_92.out hb)
    have hA_93 := hid (var_on hb hA_92.out (at_lt hA_92.out))
    have hN_93 := hid (var_on hb hN_92.out (at_lt hN_92.out))
    have hR_93 := hid (hR_92.out.later hb)
    have hS_93 := hid (hS_92.out.later hb)
    clear hb hB_92 C hA_92 hN_92 hR_92 hS_92
    go_wp2_with fail
    first
      | exact QQ.out _ hB_93.out
      | (go_ret; exact QQ.out _ hB_93.out)
  · obtain ⟨i0, hi, hz0, hz1, hz2⟩ := info_parts Tryd.infoT
    have HNEWS := hid (news_th HR0.out.mo)
    have hlen := hid ((flatG_length (cs := Th.cs) (z := 11) (fun _ => rfl) mo : (flatT mo).length = mo.length * 11))
    have hone := hid (all_one th_one mo)
    have hnil := hid (show pm = none → mo.length = 0 ∧ cm = 0 from Z0.out.mo)
    have hfew : mo.length ≤ 30 := by have := e0.out.mo; simp only at this; omega
    have hfew63 : mo.length ≤ maxLen := by unfold maxLen; omega
    have hBw := hid (show Below w.heap.size w W_4 from hB_4.out)
    go_upto_region 19 with fail
    go_upto_region 20 with (first
      | (at_builtin; refine wpList_copy rfl (.const (.slice none 0 0)) (.tmp 69) 22 rfl W_4.heap.size 54 i0 zT.v 11 120 Tryd.underlying22 hi hz0 hz1 hz2 rfl (by decide) rfl pm mo.length cm (flatT mo) rfl hlen.out (HNEWS.out _ hBw.out) hone.out hnil.out hfew63 (by omega) (Nat.le_refl _) ?_
         intro p1 c1 w1 hown1 hgrow1 hblk1
         have cA1 := (cells_at (show w1.heap[w.heap.size]? = some (Nt.o ⟨fr, be, mo, ha, gi, wa⟩ ⟨pm, cm, ph, ch, pg, cg, pw, cw⟩) by rw [hgrow1.block _ lA (by simp)]; exact hA_4.out)).1)
      | (at_builtin; refine wpList_append_lies _ rfl (.tmp 70) (.tmp 72) 22 rfl W_4.heap.size 54 i0 zT.v 11 120 Tryd.underlying22 hi hz0 hz1 hz2 rfl (by decide) _ _ _ rfl (hown1.alloc _) ⟨w1.heap.size, 0, none⟩ 1 1 spA.cs rfl rfl (World.news_of_block (heap_alloc_new _ _)) (th_one _) (by decide) (by unfold maxLen; omega) (by omega) (by have := hgrow1.size; simp; omega) (w1.heap.size + 1) (by simp) ?_
         intro g2 c2 w2 hown2 hgrow2 hat2 hlt2
         have hN2 := hid (show w2.heap[g5]? = some (Nt.o ⟨fr, be, mo, ha, gi, wa⟩ ⟨pm, cm, ph, ch, pg, cg, pw, cw⟩) by rw [hgrow2.block _ (by have := hgrow1.size; simp; omega) (fun e => by have := hblk1 _ e.symm; omega)]; exact old_at (by rw [hgrow1.block _ lN (by simp)]; exact hN_4.out) _)
         have hA2 := hid (show w2.heap[w.heap.size]? = some (Nt.o ⟨fr, be, mo, ha, gi, wa⟩ ⟨pm, cm, ph, ch, pg, cg, pw, cw⟩) by rw [hgrow2.block _ (by have := hgrow1.size; simp; omega) (fun e => by have := hblk1 _ e.symm; omega)]; exact old_at (by rw [hgrow1.block _ lA (by simp)]; exact hA_4.out) _)
         have hB2 := hid (show Below w.heap.size w w2 from ((hBw.out.grown hgrow1 hBw.out.size (fun k hk => by cases hk)).alloc (Nat.le_trans hBw.out.size hgrow1.size) _).grown hgrow2 (by have := hgrow1.size; have := hBw.out.size; simp; omega) (fun k hk => Nat.le_trans hBw.out.size (hblk1 k hk)))
         have hO2 := hid hown2
         have cN2 := cells_at hN2.out
         clear hgrow2 hat2 hown2 hgrow1 hown1 hblk1 cA1 cN cA))
    obtain ⟨WX, hWX⟩ : ∃ WX, Hid (WX = w2.setCell ⟨g5, 2, none⟩ (.slice (some ⟨g2, 0, none⟩) (mo.length + 1) c2)) := ⟨_, rfl⟩
    try rw [← hWX.out]
    have hL1 : (mo ++ [spA]).length = mo.length + 1 := by rw [List.length_append]; rfl
    have hOX := hid (show WX.ownsRow W_4.heap.size 54 11 (.slice (some ⟨g2, 0, none⟩) (mo.length + 1) c2) (mo.length + 1) (flatT (mo ++ [spA])) by
      rw [hWX.out, show flatT (mo ++ [spA]) = flatT mo ++ Th.cs spA by show flatG Th.cs (mo ++ [spA]) = flatG Th.cs mo ++ Th.cs spA; rw [flatG_append, flatG_one]]
      exact owns_but hO2.out ((But.refl g5 w2).setCell _ _) lN)
    have HNo := hid (sp5_no ⟨fr, be, mo, ha, gi, wa⟩)
    have hFM := hid (show FitN (sp5 ⟨fr, be, mo, ha, gi, wa⟩) from ⟨(fun t ht => by rcases List.mem_append.1 ht with h | h; exact F0.out.mo t h; rw [List.mem_singleton.1 h]; exact ⟨fit_zF, fit_zF, fit_zF, fit_zF⟩), F0.out.gi, F0.out.wa⟩)
    have hLM := (show LenN (sp5 ⟨fr, be, mo, ha, gi, wa⟩) from ⟨(by show (mo ++ [spA]).length ≤ maxLen; rw [hL1]; unfold maxLen; omega), m0.ha, m0.gi, m0.wa⟩)
    obtain ⟨M, hMe⟩ : ∃ M, Hid (M = sp5 ⟨fr, be, mo, ha, gi, wa⟩) := ⟨_, rfl⟩
    obtain ⟨sM, hsM⟩ : ∃ sM : Ns, Hid (sM = ⟨some ⟨g2, 0, none⟩, c2, ph, ch, pg, cg, pw, cw⟩) := ⟨_, rfl⟩
    have hB_90 := hid (show Below w.heap.size w WX by rw [hWX.out]; exact hB2.out.setCell (show w.heap.size ≤ g5 by omega) _)
    have hA_90 := hid (show WX.heap[w.heap.size]? = some (Nt.o ⟨fr, be, mo, ha, gi, wa⟩ ⟨pm, cm, ph, ch, pg, cg, pw, cw⟩) by rw [hWX.out]; exact set_off hA2.out (by omega) _)
    have hN_90 := hid (show WX.heap[g5]? = some (Nt.o (sp5 ⟨fr, be, mo, ha, gi, wa⟩) ⟨some ⟨g2, 0, none⟩, c2, ph, ch, pg, cg, pw, cw⟩) by rw [hWX.out]; refine set_at hN2.out _ ?_; simp [sp5])
    have hR_90 := hid (HR0.out.later hB_90.out)
    have hS_90 := hid (show RowN WX ⟨some ⟨g2, 0, none⟩, c2, ph, ch, pg, cg, pw, cw⟩ (sp5 ⟨fr, be, mo, ha, gi, wa⟩) from ⟨row_own hOX.out hL1.symm, hR_90.out.ha, hR_90.out.gi, hR_90.out.wa⟩)
    rw [← hMe.out] at HNo hFM hLM hN_90 hS_90
    rw [← hsM.out] at hN_90 hS_90
    have hNe := hid (ne_of_isN hRR.out HNo.out)
    have CA : ∀ (w' : World), Masks w' → RowN w' ⟨pm, cm, ph, ch, pg, cg, pw, cw⟩ ⟨fr, be, mo, ha, gi, wa⟩ → Calls Tryd.prog 8 #[Nt.v ⟨fr, be, mo, ha, gi, wa⟩ ⟨pm, cm, ph, ch, pg, cg, pw, cw⟩, .int .i64 4] w' fun e w'' => e = .returned (.bool true) ∧ Below w'.heap.size w' w'' := fun w' q1 q2 => note_is q1 q2 (ask_of F0.out m0) h4
    have C := note_is (HM.out.below hB_90.out) hS_90.out (ask_of hFM.out hLM) HNo
    clear hMe hsM lA lN
    try clear cA
    try clear cN
    go_wp2_with (first
        | ((with_reducible refine wpList_load_ntG ?_ (.tmp 2) rfl rfl hA_90.out ?_); · rfl)
        | ((with_reducible refine wpList_load_ntG ?_ (.tmp 5) rfl rfl hN_90.out ?_); · rfl))
    refine C.mono ?_
    rintro x W_91 ⟨rfl, hb⟩
    have hB_91 := hid (below_on hB_90.out hb)
    have hA_91 := hid (var_on hb hA_90.out (at_lt hA_90.out))
    have hN_91 := hid (var_on hb hN_90.out (at_lt hN_90.out))
    have hR_91 := hid (hR_90.out.later hb)
    have hS_91 := hid (hS_90.out.later hb)
    clear hb hB_90 C hA_90 hN_90 hR_90 hS_90
    have C := note_same (q := false) (hid ⟨(fun h => by cases h), fun h => absurd h hNe.out⟩) hR_91.out hS_91.out m0 hLM
    go_wp2_with (first
        | ((with_reducible refine wpList_load_ntG ?_ (.tmp 2) rfl rfl hA_91.out ?_); · rfl)
        | ((with_reducible refine wpList_load_ntG ?_ (.tmp 5) rfl rfl hN_91.out ?_); · rfl))
    refine C.mono ?_
    rintro x W_92 ⟨rfl, hb⟩
    have hB_92 := hid (below_on hB_91.out hb)
    have hA_92 := hid (var_on hb hA_91.out (at_lt hA_91.out))
    have hN_92 := hid (var_on hb hN_91.out (at_lt hN_91.out))
    have hR_92 := hid (hR_91.out.later hb)
    have hS_92 := hid (hS_91.out.later hb)
    clear hb hB_91 C hA_91 hN_91 hR_91 hS_91
    have C := CA _ (HM.out.below hB_92.out) hR_92.out
    go_wp2_with (first
        | ((with_reducible refine wpList_load_ntG ?_ (.tmp 2) rfl rfl hA_92.out ?_); · rfl)
        | ((with_reducible refine wpList_load_ntG ?_ (.tmp 5) rfl rfl hN_92.out ?_); · rfl))
    refine C.mono ?_
    rintro x W_93 ⟨rfl, hb⟩
    have hB_93 := hid (below_on hB_92.out hb)
    have hA_93 := hid (var_on hb hA_92.out (at_lt hA_92.out))
    have hN_93 := hid (var_on hb hN_92.out (at_lt hN_92.out))
    have hR_93 := hid (hR_92.out.later hb)
    have hS_93 := hid (hS_92.out.later hb)
    clear hb hB_92 C hA_92 hN_92 hR_92 hS_92
    go_wp2_with fail
    first
      | exact QQ.out _ hB_93.out
      | (go_ret; exact QQ.out _ hB_93.out)
  · obtain ⟨i0, hi, hz0, hz1, hz2⟩ := info_parts Tryd.infoT
    have HNEWS := hid (news_th HR0.out.gi)
    have hlen := hid ((flatG_length (cs := Th.cs) (z := 11) (fun _ => rfl) gi : (flatT gi).length = gi.length * 11))
    have hone := hid (all_one th_one gi)
    have hnil := hid (show pg = none → gi.length = 0 ∧ cg = 0 from Z0.out.gi)
    have hfew : gi.length ≤ 30 := by have := e0.out.gi; simp only at this; omega
    have hfew63 : gi.length ≤ maxLen := by unfold maxLen; omega
    have hBw := hid (show Below w.heap.size w W_4 from hB_4.out)
    go_upto_region 7 with fail
    go_upto_region 20 with (first
      | (at_builtin; refine wpList_copy rfl (.const (.slice none 0 0)) (.tmp 20) 22 rfl W_4.heap.size 54 i0 zT.v 11 120 Tryd.underlying22 hi hz0 hz1 hz2 rfl (by decide) rfl pg gi.length cg (flatT gi) rfl hlen.out (HNEWS.out _ hBw.out) hone.out hnil.out hfew63 (by omega) (Nat.le_refl _) ?_
         intro p1 c1 w1 hown1 hgrow1 hblk1
         have cA1 := (cells_at (show w1.heap[w.heap.size]? = some (Nt.o ⟨fr, be, mo, ha, gi, wa⟩ ⟨pm, cm, ph, ch, pg, cg, pw, cw⟩) by rw [hgrow1.block _ lA (by simp)]; exact hA_4.out)).1)
      | (at_builtin; refine wpList_append_lies _ rfl (.tmp 21) (.tmp 24) 22 rfl W_4.heap.size 54 i0 zT.v 11 120 Tryd.underlying22 hi hz0 hz1 hz2 rfl (by decide) _ _ _ rfl (hown1.alloc _) ⟨w1.heap.size, 0, none⟩ 1 1 spB.cs rfl rfl (World.news_of_block (heap_alloc_new _ _)) (th_one _) (by decide) (by unfold maxLen; omega) (by omega) (by have := hgrow1.size; simp; omega) (w1.heap.size + 1) (by simp) ?_
         intro g2 c2 w2 hown2 hgrow2 hat2 hlt2
         have hN2 := hid (show w2.heap[g5]? = some (Nt.o ⟨fr, be, mo, ha, gi, wa⟩ ⟨pm, cm, ph, ch, pg, cg, pw, cw⟩) by rw [hgrow2.block _ (by have := hgrow1.size; simp; omega) (fun e => by have := hblk1 _ e.symm; omega)]; exact old_at (by rw [hgrow1.block _ lN (by simp)]; exact hN_4.out) _)
         have hA2 := hid (show w2.heap[w.heap.size]? = some (Nt.o ⟨fr, be, mo, ha, gi, wa⟩ ⟨pm, cm, ph, ch, pg, cg, pw, cw⟩) by rw [hgrow2.block _ (by have := hgrow1.size; simp; omega) (fun e => by have := hblk1 _ e.symm; omega)]; exact old_at (by rw [hgrow1.block _ lA (by simp)]; exact hA_4.out) _)
         have hB2 := hid (show Below w.heap.size w w2 from ((hBw.out.grown hgrow1 hBw.out.size (fun k hk => by cases hk)).alloc (Nat.le_trans hBw.out.size hgrow1.size) _).grown hgrow2 (by have := hgrow1.size; have := hBw.out.size; simp; omega) (fun k hk => Nat.le_trans hBw.out.size (hblk1 k hk)))
         have hO2 := hid hown2
         have cN2 := cells_at hN2.out
         clear hgrow2 hat2 hown2 hgrow1 hown1 hblk1 cA1 cN cA))
    obtain ⟨WX, hWX⟩ : ∃ WX, Hid (WX = w2.setCell ⟨g5, 4, none⟩ (.slice (some ⟨g2, 0, none⟩) (gi.length + 1) c2)) := ⟨_, rfl⟩
    try rw [← hWX.out]
    have hL1 : (gi ++ [spB]).length = gi.length + 1 := by rw [List.length_append]; rfl
    have hOX := hid (show WX.ownsRow W_4.heap.size 54 11 (.slice (some ⟨g2, 0, none⟩) (gi.length + 1) c2) (gi.length + 1) (flatT (gi ++ [spB])) by
      rw [hWX.out, show flatT (gi ++ [spB]) = flatT gi ++ Th.cs spB by show flatG Th.cs (gi ++ [spB]) = flatG Th.cs gi ++ Th.cs spB; rw [flatG_append, flatG_one]]
      exact owns_but hO2.out ((But.refl g5 w2).setCell _ _) lN)
    have HNo := hid (sp6_no ⟨fr, be, mo, ha, gi, wa⟩)
    have hFM := hid (show FitN (sp6 ⟨fr, be, mo, ha, gi, wa⟩) from ⟨F0.out.mo, (fun t ht => by rcases List.mem_append.1 ht with h | h; exact F0.out.gi t h; rw [List.mem_singleton.1 h]; exact ⟨fit_zF, fit_zF, fit_zF, fit_zF⟩), F0.out.wa⟩)
    have hLM := (show LenN (sp6 ⟨fr, be, mo, ha, gi, wa⟩) from ⟨m0.mo, m0.ha, (by show (gi ++ [spB]).length ≤ maxLen; rw [hL1]; unfold maxLen; omega), m0.wa⟩)
    obtain ⟨M, hMe⟩ : ∃ M, Hid (M = sp6 ⟨fr, be, mo, ha, gi, wa⟩) := ⟨_, rfl⟩
    obtain ⟨sM, hsM⟩ : ∃ sM : Ns, Hid (sM = ⟨pm, cm, ph, ch, some ⟨g2, 0, none⟩, c2, pw, cw⟩) := ⟨_, rfl⟩
    have hB_90 := hid (show Below w.heap.size w WX by rw [hWX.out]; exact hB2.out.setCell (show w.heap.size ≤ g5 by omega) _)
    have hA_90 := hid (show WX.heap[w.heap.size]? = some (Nt.o ⟨fr, be, mo, ha, gi, wa⟩ ⟨pm, cm, ph, ch, pg, cg, pw, cw⟩) by rw [hWX.out]; exact set_off hA2.out (by omega) _)
    have hN_90 := hid (show WX.heap[g5]? = some (Nt.o (sp6 ⟨fr, be, mo, ha, gi, wa⟩) ⟨pm, cm, ph, ch, some ⟨g2, 0, none⟩, c2, pw, cw⟩) by rw [hWX.out]; refine set_at hN2.out _ ?_; simp [sp6])
    have hR_90 := hid (HR0.out.later hB_90.out)
    have hS_90 := hid (show RowN WX ⟨pm, cm, ph, ch, some ⟨g2, 0, none⟩, c2, pw, cw⟩ (sp6 ⟨fr, be, mo, ha, gi, wa⟩) from ⟨hR_90.out.mo, hR_90.out.ha, row_own hOX.out hL1.symm, hR_90.out.wa⟩)
    rw [← hMe.out] at HNo hFM hLM hN_90 hS_90
    rw [← hsM.out] at hN_90 hS_90
    have hNe := hid (ne_of_isN hRR.out HNo.out)
    have CA : ∀ (w' : World), Masks w' → RowN w' ⟨pm, cm, ph, ch, pg, cg, pw, cw⟩ ⟨fr, be, mo, ha, gi, wa⟩ → Calls Tryd.prog 8 #[Nt.v ⟨fr, be, mo, ha, gi, wa⟩ ⟨pm, cm, ph, ch, pg, cg, pw, cw⟩, .int .i64 4] w' fun e w'' => e = .returned (.bool true) ∧ Below w'.heap.size w' w'' := fun w' q1 q2 => note_is q1 q2 (ask_of F0.out m0) h4
    have C := note_is (HM.out.below hB_90.out) hS_90.out (ask_of hFM.out hLM) HNo
    clear hMe hsM lA lN
    try clear cA
    try clear cN
    go_wp2_with (first
        | ((with_reducible refine wpList_load_ntG ?_ (.tmp 2) rfl rfl hA_90.out ?_); · rfl)
        | ((with_reducible refine wpList_load_ntG ?_ (.tmp 5) rfl rfl hN_90.out ?_); · rfl))
    refine C.mono ?_
    rintro x W_91 ⟨rfl, hb⟩
    have hB_91 := hid (below_on hB_90.out hb)
    have hA_91 := hid (var_on hb hA_90.out (at_lt hA_90.out))
    have hN_91 := hid (var_on hb hN_90.out (at_lt hN_90.out))
    have hR_91 := hid (hR_90.out.later hb)
    have hS_91 := hid (hS_90.out.later hb)
    clear hb hB_90 C hA_90 hN_90 hR_90 hS_90
    have C := note_same (q := false) (hid ⟨(fun h => by cases h), fun h => absurd h hNe.out⟩) hR_91.out hS_91.out m0 hLM
    go_wp2_with (first
        | ((with_reducible refine wpList_load_ntG ?_ (.tmp 2) rfl rfl hA_91.out ?_); · rfl)
        | ((with_reducible refine wpList_load_ntG ?_ (.tmp 5) rfl rfl hN_91.out ?_); · rfl))
    refine C.mono ?_
    rintro x W_92 ⟨rfl, hb⟩
    have hB_92 := hid (below_on hB_91.out hb)
    have hA_92 := hid (var_on hb hA_91.out (at_lt hA_91.out))
    have hN_92 := hid (var_on hb hN_91.out (at_lt hN_91.out))
    have hR_92 := hid (hR_91.out.later hb)
    have hS_92 := hid (hS_91.out.later hb)
    clear hb hB_91 C hA_91 hN_91 hR_91 hS_91
    have C := CA _ (HM.out.below hB_92.out) hR_92.out
    go_wp2_with (first
        | ((with_reducible refine wpList_load_ntG ?_ (.tmp 2) rfl rfl hA_92.out ?_); · rfl)
        | ((with_reducible refine wpList_load_ntG ?_ (.tmp 5) rfl rfl hN_92.out ?_); · rfl))
    refine C.mono ?_
    rintro x W_93 ⟨rfl, hb⟩
    have hB_93 := hid (below_on hB_92.out hb)
    have hA_93 := hid (var_on hb hA_92.out (at_lt hA_92.out))
    have hN_93 := hid (var_on hb hN_92.out (at_lt hN_92.out))
    have hR_93 := hid (hR_92.out.later hb)
    have hS_93 := hid (hS_92.out.later hb)
    clear hb hB_92 C hA_92 hN_92 hR_92 hS_92
    go_wp2_with fail
    first
      | exact QQ.out _ hB_93.out
      | (go_ret; exact QQ.out _ hB_93.out)


theorem noteSpoils_own : ownKnob Tryd.prog.godebug = none := by kernel_rfl
theorem noteSpoils_laidOut : laidOutB Tryd.prog = true := by kernel_rfl
set_option maxRecDepth 100000 in
theorem noteSpoils_lifted (os : Os) (started : os.Started) (H : Type) (enc : TypeId × Value → H) :
    ReturnsInHanded {} Tryd.checked os 4 .any (fun w args => (Rows.noteSpoilsSpec.pre enc Tryd.prog Tryd.f4 [] false w args ∧ laidMetH Tryd.prog laids w) ∧ sizedMet enc Tryd.prog Tryd.f4 (OpenSpec.ofChange Rows.noteSpoilsSpec) false w args) (Rows.noteSpoilsSpec.post enc Tryd.prog Tryd.f4 false true false false) := by
  refine returnsInHanded_of_change_and (C := Tryd.checked) (X := fun w _ => laidMetH Tryd.prog laids w) (fun _ _ _ hh h => h.of_heap hh) own_knob started (by kernel_rfl) Tryd.func4
    (ChangeSpec.witness_shaped (enc := enc) (C := Tryd.checked) (os := os) (X := fun w _ => laidMetH Tryd.prog laids w) false (World.laidAll Tryd.prog os laids) #[.agg #[.int .i64 0, .int .i64 0, .slice none 0 0, .slice none 0 0, .slice none 0 0, .slice none 0 0], .int .u8 0] 8 rfl (World.shaped_of_ZipB (by kernel_rfl) (by kernel_rfl)) (by kernel_rfl) (by kernel_rfl) (by kernel_rfl) (door_met os _)) ?_
  intro W base args ds gs before hval0 hW _ _ hL _
  have hval : ∀ (j : Nat) t v, Tryd.f4.params[j]? = some t → args[j]? = some v → Value.okWide Tryd.prog W .any base t v := hval0
  have hW' := hW
  obtain ⟨p, q, hA0, hV, rfl, hfz, hnd⟩ := hW
  have hA : DataW.TrodAll enc Tryd.prog W 0 (fun _ => true) true Tryd.f4.params.toList args.toList ds p := hA0
  rw [Tryd.params4] at hA hval
  obtain ⟨v0, vs0, d0, ds0, p0, q0, hargs, rfl, rfl, h0, r0⟩ := trodAll_cons hA
  obtain ⟨v1, vs1, d1, ds1, p1, q1, rfl, rfl, rfl, h1, r1⟩ := trodAll_cons r0
  obtain ⟨rfl, rfl, rfl⟩ := trodAll_nil r1
  obtain rfl : args = #[v0, v1] := by cases args; simp_all
  obtain ⟨rfl, rfl⟩ := trodVars_none hV
  have k0 := h0
  have lt0 : ∀ x ∈ p0, x.block < W.heap.size := by obtain ⟨m, hm⟩ := k0; exact DataW.trod_lt m _ _ _ hm
  have k1 := h1
  have lt1 : ∀ x ∈ p1, x.block < W.heap.size := by obtain ⟨m, hm⟩ := k1; exact DataW.trod_lt m _ _ _ hm
  obtain ⟨a0, s0, rfl, f0, r0', m0, z0⟩ := open_ntN (hval 0 26 v0 rfl rfl) h0
  obtain ⟨a1, rfl, rfl, rfl, w1⟩ := open_int Tryd.underlying5 (hval 1 5 v1 rfl rfl) h1
  clear hA0 hval0
  refine (noteSpoils_walk W (of_laid hL) a0 s0 f0 r0' m0 z0 a1 w1).mono fun e W' ⟨he, bel⟩ => ?_
  subst he
  exact ⟨_, rfl, _, _, _, [], _, [], hW', trodAll_mk1 (shut_bool Tryd.underlying4 _), (trodAll_cons_mk (Below.trod noteSpoils_laidOut (by kernel_rfl) (of_decide_eq_true (by kernel_rfl)) k0 bel lt0) (trodAll_cons_mk (Below.trod noteSpoils_laidOut (by kernel_rfl) (of_decide_eq_true (by kernel_rfl)) k1 bel lt1) trodAll_mk0)), rfl, bel.frame _, fun h => by cases h⟩

theorem noteSpoils_over : Rows.noteSpoilsRow.holds Tryd.pinned (OpenSpec.ofChange Rows.noteSpoilsSpec) :=
  OpenClaim.holds_of_wide 4 Tryd.f4 rfl rfl rfl rfl rfl rfl rfl ⟨rfl, rfl, rfl, rfl, rfl⟩ rfl rfl rfl rfl rfl (by kernel_rfl) Tryd.func4 (by kernel_rfl)
    (of_decide_eq_true (by kernel_rfl)) (by unfold Func.isWrapper; first | (rw [if_pos (by decide +kernel)]; kernel_rfl) | (rw [if_neg (by decide +kernel)]; exact ⟨rfl, rfl⟩))
    (fun os started H enc _ => noteSpoils_lifted os started H enc)

theorem noteSpoils_holds : Rows.NoteSpoilsCardSaid :=
  Claim7.holds_tied_plain_at .later [] [.data] true (true, "3c6d20aca5cfe6d49a28b3149d252bfc9cda9008a1911849aadb7b82cd662cd3") false
    noteSpoils_over (fun _ h => by cases h) (by kernel_rfl) (fun _ h => by cases h) noteSpoils_row_tie rfl ⟨rfl, rfl⟩ (by kernel_rfl) rfl
    (fun f fn hf hfn => by
      obtain rfl : f = 4 := Option.some.inj ((show Tryd.prog.funcNamed "vedette/vedettelaw17.NoteSpoils" = some 4 by kernel_rfl).symm.trans hf) |>.symm
      obtain rfl : fn = Tryd.f4 := (Option.some.inj (Tryd.func4.symm.trans hfn)).symm
      exact ⟨by kernel_rfl, fun j t ht => by
        rw [Tryd.params4] at ht
        have hm : t ∈ [26, 5] := by simpa using Array.mem_of_getElem? ht
        have hall : ([26, 5].all fun u => !Tryd.prog.wantsStandIn u) = true := by kernel_rfl
        exact (show Tryd.prog.wantsStandIn t = false by simpa using List.all_eq_true.1 hall t hm)⟩)
    (by kernel_rfl)
#print axioms noteSpoils_holds
end Go.Proofs.YtpedngbjpbeanaaDoor
