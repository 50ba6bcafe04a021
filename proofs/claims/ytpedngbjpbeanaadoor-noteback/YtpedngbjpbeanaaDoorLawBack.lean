/- Of every two notes, a tail and where a bit turns NoteBack returns true. -/
import Derived.Test.YtpedngbjpbeanaaDoorNtC
import Derived.Test.YtpedngbjpbeanaaDoorNtD
import Derived.Test.YtpedngbjpbeanaaDoorNtB
import Derived.Test.YtpedngbjpbeanaaDoorCards
import Derived.Test.YtpedngbjpbeanaaDoorTie
import Derived.SevenTiedAt
import Derived.ProofKit
import Derived.OpenShut
import Derived.ShutString
import Derived.ChangeOld
import Derived.Below
import Derived.SizedLaws
namespace Go.Proofs.YtpedngbjpbeanaaDoor
open Go.ChangeShapes Go.WideShapes Go.ChangeAt Go.RowKit
open Go.ChangeMaps (open_string shut_string)
set_option linter.unusedVariables false

set_option maxRecDepth 100000 in
set_option maxHeartbeats 8000000 in
theorem noteBack_walk (w : World) (hL : Masks w) (a0 : Nt) (s0 : Ns) (f0 : FitN a0) (r0 : RowN w s0 a0) (m0 : LenN a0) (a1 : Nt) (s1 : Ns) (f1 : FitN a1) (r1 : RowN w s1 a1) (m1 : LenN a1) (a2 : ByteArray) (w2 : a2.size ≤ maxLen) (a3 : Int) (w3 : (Lit.int .u16 a3).wf = true) (a4 : Int) (w4 : (Lit.int .u8 a4).wf = true) (a5 : Int) (w5 : (Lit.int .u8 a5).wf = true) :
    Calls Tryd.prog 3 #[a0.v s0, a1.v s1, .string a2, .int .u16 a3, .int .u8 a4, .int .u8 a5] w fun e w' => e = .returned (.bool true) ∧ Below w.heap.size w w' := by
  obtain ⟨Q, hQ⟩ : ∃ Q : Ending → World → Prop, Hid ((fun e w' => e = .returned (.bool true) ∧ Below w.heap.size w w') = Q) := ⟨_, rfl⟩
  have QQ := hid (fun w' (h : Below w.heap.size w w') => (show Q (.returned (.bool true)) w' by rw [← hQ.out]; exact ⟨rfl, h⟩))
  rw [hQ.out]
  clear hQ
  have hr3 := bounds_u16 w3
  have hr4 := bounds_u8 w4
  have hr5 := bounds_u8 w5
  have hs2 : a2.size ≤ 9223372036854775807 := by unfold maxLen at w2; omega
  clear w2 w3 w4 w5
  obtain ⟨W_0, hW⟩ : ∃ W, W = (w.alloc (a0.o s0)).alloc (a1.o s1) := ⟨_, rfl⟩
  have hB_0 := hid (show Below w.heap.size w W_0 by rw [hW]; exact Go.Joins.below_alloc2 _ _ _)
  have hA_0 := hid (show W_0.heap[w.heap.size]? = some (a0.o s0) by rw [hW]; exact old_at (new_at _ _ _ rfl) _)
  have hD_0 := hid (show W_0.heap[w.heap.size + 1]? = some (a1.o s1) by rw [hW]; exact new_at _ _ _ (by simp))
  have hR_0 := hid (r0.later hB_0.out)
  have hS_0 := hid (r1.later hB_0.out)
  have HM := hid hL
  have F0 := hid f0
  have F1 := hid f1
  clear r0 r1 hL f0 f1
  go_enter Tryd.func3, Tryd.ntmps3
  go_upto_region 1 with fail
  rw [← hW]
  clear hW
  have C := known_holds _ (HM.out.below hB_0.out)
  go_wp2_with fail
  refine C.mono ?_
  rintro x W_1 ⟨rfl, hb⟩
  have hB_1 := hid (below_on hB_0.out hb)
  have hA_1 := hid (var_on hb hA_0.out (at_lt hA_0.out))
  have hD_1 := hid (var_on hb hD_0.out (at_lt hD_0.out))
  have hR_1 := hid (hR_0.out.later hb)
  have hS_1 := hid (hS_0.out.later hb)
  clear hb hB_0 C hA_0 hD_0 hR_0 hS_0
  have C := few_note hR_1.out F0.out m0
  go_wp2_with (first
      | ((with_reducible refine wpList_load_ntG ?_ (.tmp 6) rfl rfl hA_1.out ?_); · rfl)
      | ((with_reducible refine wpList_load_ntG ?_ (.tmp 7) rfl rfl hD_1.out ?_); · rfl))
  refine C.mono ?_
  rintro x W_2 ⟨q, rfl, hf0, hb⟩
  have hB_2 := hid (below_on hB_1.out hb)
  have hA_2 := hid (var_on hb hA_1.out (at_lt hA_1.out))
  have hD_2 := hid (var_on hb hD_1.out (at_lt hD_1.out))
  have hR_2 := hid (hR_1.out.later hb)
  have hS_2 := hid (hS_1.out.later hb)
  clear hb hB_1 C hA_1 hD_1 hR_1 hS_1
  cases q
  · go_wp2_with fail
    first
      | exact QQ.out _ hB_2.out
      | (go_ret; exact QQ.out _ hB_2.out)
  have e0 := hid (hf0 rfl)
  clear hf0
  have C := few_note hS_2.out F1.out m1
  go_wp2_with (first
      | ((with_reducible refine wpList_load_ntG ?_ (.tmp 6) rfl rfl hA_2.out ?_); · rfl)
      | ((with_reducible refine wpList_load_ntG ?_ (.tmp 7) rfl rfl hD_2.out ?_); · rfl))
  refine C.mono ?_
  rintro x W_3 ⟨q, rfl, hf0, hb⟩
  have hB_3 := hid (below_on hB_2.out hb)
  have hA_3 := hid (var_on hb hA_2.out (at_lt hA_2.out))
  have hD_3 := hid (var_on hb hD_2.out (at_lt hD_2.out))
  have hR_3 := hid (hR_2.out.later hb)
  have hS_3 := hid (hS_2.out.later hb)
  clear hb hB_2 C hA_2 hD_2 hR_2 hS_2
  cases q
  · go_wp2_with fail
    first
      | exact QQ.out _ hB_3.out
      | (go_ret; exact QQ.out _ hB_3.out)
  have e1 := hid (hf0 rfl)
  clear hf0
  by_cases h50 : a2.size ≤ 50
  rotate_left
  · have d0 : (50 : Int) < (a2.size : Int) := by omega
    have d1 : decide ((50 : Int) < (a2.size : Int)) = true := by simpa using d0
    go_wp2_with fail
    first
      | exact QQ.out _ hB_3.out
      | (go_ret; exact QQ.out _ hB_3.out)
  have d0 : ¬ (50 : Int) < (a2.size : Int) := by omega
  have d1 : decide ((50 : Int) < (a2.size : Int)) = false := by simpa using d0
  obtain ⟨R, hRR⟩ : ∃ R, Hid (isN a0 4 = R) := ⟨_, rfl⟩
  have C := note_is (HM.out.below hB_3.out) hR_3.out (ask_of F0.out m0) hRR
  go_wp2_with (first
      | ((with_reducible refine wpList_load_ntG ?_ (.tmp 6) rfl rfl hA_3.out ?_); · rfl)
      | ((with_reducible refine wpList_load_ntG ?_ (.tmp 7) rfl rfl hD_3.out ?_); · rfl))
  refine C.mono ?_
  rintro x W_4 ⟨rfl, hb⟩
  have hB_4 := hid (below_on hB_3.out hb)
  have hA_4 := hid (var_on hb hA_3.out (at_lt hA_3.out))
  have hD_4 := hid (var_on hb hD_3.out (at_lt hD_3.out))
  have hR_4 := hid (hR_3.out.later hb)
  have hS_4 := hid (hS_3.out.later hb)
  clear hb hB_3 C hA_3 hD_3 hR_3 hS_3
  clear d0 d1
  cases R
  · go_wp2_with fail
    first
      | exact QQ.out _ hB_4.out
      | (go_ret; exact QQ.out _ hB_4.out)
  have hbf := bytes_few hRR.out e0.out.mo e0.out.gi
  obtain ⟨N0, hN0⟩ : ∃ N0, Hid (noteB a0 = N0) := ⟨_, rfl⟩
  rw [hN0.out] at hbf
  obtain ⟨hb0, hlN⟩ := hbf
  obtain ⟨B, hBq⟩ : ∃ B, Hid (wrap N0 = B) := ⟨_, rfl⟩
  rw [hBq.out] at hb0
  have HB0 := hid hb0
  have w5 := wrap_five hBq.out
  obtain ⟨H, hH⟩ : ∃ H, Hid ((put N0.length).length = H) := ⟨_, rfl⟩
  have hH2 := (put_length N0.length).2
  rw [hH.out] at w5 hH2
  obtain ⟨w51, w52⟩ := w5
  have hBl : B.length ≤ 40014 := by omega
  have hBl5 : 5 ≤ B.length := by omega
  have hBH : H + 4 ≤ B.length := by omega
  clear hb0 w51
  have C := note_bytes (HM.out.below hB_4.out) hR_4.out F0.out m0 HB0
  go_wp2_with (first
      | ((with_reducible refine wpList_load_ntG ?_ (.tmp 6) rfl rfl hA_4.out ?_); · rfl)
      | ((with_reducible refine wpList_load_ntG ?_ (.tmp 7) rfl rfl hD_4.out ?_); · rfl))
  refine C.mono ?_
  rintro x W_5 ⟨rfl, hb⟩
  have hB_5 := hid (below_on hB_4.out hb)
  have hA_5 := hid (var_on hb hA_4.out (at_lt hA_4.out))
  have hD_5 := hid (var_on hb hD_4.out (at_lt hD_4.out))
  have hR_5 := hid (hR_4.out.later hb)
  have hS_5 := hid (hS_4.out.later hb)
  clear hb hB_4 C hA_4 hD_4 hR_4 hS_4
  have hr : readNt ((⟨B.toArray⟩ : ByteArray) ++ a2).data.toList = (a0, B.length, 0) := by
    have := readNt_back hRR.out F0.out (by rw [hN0.out]; exact hlN) a2.data.toList
    rw [hN0.out, hBq.out] at this
    rw [data_append]
    exact this
  have hs : ((⟨B.toArray⟩ : ByteArray) ++ a2).size ≤ 1000000 := by
    rw [ByteArray.size_append]
    show B.length + _ ≤ _
    omega
  have C := note_read (HM.out.below hB_5.out) (hid hr) hs
  clear hr hs
  go_wp2_with fail
  refine C.mono ?_
  rintro x W_6 ⟨q3, rfl, hown, hfi, hlo, hb⟩
  have hB_6 := hid (below_on hB_5.out hb)
  have hA_6 := hid (var_on hb hA_5.out (at_lt hA_5.out))
  have hD_6 := hid (var_on hb hD_5.out (at_lt hD_5.out))
  have hR_6 := hid (hR_5.out.later hb)
  have hS_6 := hid (hS_5.out.later hb)
  clear hb hB_5 C hA_5 hD_5 hR_5 hS_5
  have LO := hid hlo.len
  have hb : Below W_6.heap.size W_6 (W_6.alloc (a0.o q3)) := below1 _ _
  obtain ⟨W_7, hW2⟩ : ∃ W2, W2 = W_6.alloc (a0.o q3) := ⟨_, rfl⟩
  have hE_7 := hid (show W_7.heap[W_6.heap.size]? = some (a0.o q3) by rw [hW2]; exact new_at _ _ _ rfl)
  rw [← hW2] at hb
  have hO_7 := hid (hown.row.later hb)
  have hB_7 := hid (below_on hB_6.out hb)
  have hA_7 := hid (var_on hb hA_6.out (at_lt hA_6.out))
  have hD_7 := hid (var_on hb hD_6.out (at_lt hD_6.out))
  have hR_7 := hid (hR_6.out.later hb)
  have hS_7 := hid (hS_6.out.later hb)
  go_upto_region 7 with fail
  rw [← hW2]
  obtain ⟨ge, hge⟩ : ∃ ge, Hid (W_6.heap.size = ge) := ⟨_, rfl⟩
  rw [hge.out] at hE_7 ⊢
  clear hW2 hge hb hA_6 hD_6 hR_6 hS_6 hB_6 hown hlo hfi
  rcases hbm : bytesN a1 with ⟨T, g⟩
  have HBM := hid hbm
  clear hbm
  have C := note_bytes (HM.out.below hB_7.out) hS_7.out F1.out m1 HBM
  go_wp2_with (first
      | ((with_reducible refine wpList_load_ntG ?_ (.tmp 6) rfl rfl hA_7.out ?_); · rfl)
      | ((with_reducible refine wpList_load_ntG ?_ (.tmp 7) rfl rfl hD_7.out ?_); · rfl))
  refine C.mono ?_
  rintro x W_8 ⟨rfl, hb⟩
  have hB_8 := hid (below_on hB_7.out hb)
  have hA_8 := hid (var_on hb hA_7.out (at_lt hA_7.out))
  have hD_8 := hid (var_on hb hD_7.out (at_lt hD_7.out))
  have hR_8 := hid (hR_7.out.later hb)
  have hS_8 := hid (hS_7.out.later hb)
  have hE_8 := hid (var_on hb hE_7.out (at_lt hE_7.out))
  have hO_8 := hid (hO_7.out.later hb)
  clear hb hB_7 C hA_7 hD_7 hR_7 hS_7 hE_7 hO_7
  have C := refnote_same (hid (iff_of_true (rfl : true = true) (rfl : a0 = a0))) hR_8.out hO_8.out m0 LO.out
  have x1 : ((B.length : Int) != (B.length : Int)) = false := by simp
  have x2 : ¬ (B.length : Int) < 5 := by omega
  have x3 : decide ((B.length : Int) < 5) = false := by simpa using x2
  go_wp2_with (first
      | ((with_reducible refine wpList_load_ntG ?_ (.tmp 6) rfl rfl hA_8.out ?_); · rfl)
      | ((with_reducible refine wpList_load_ntG ?_ (.tmp 7) rfl rfl hD_8.out ?_); · rfl)
      | ((with_reducible refine wpList_load_ntG ?_ (.tmp 15) rfl rfl hE_8.out ?_); · rfl))
  refine C.mono ?_
  rintro x W_9 ⟨rfl, hb⟩
  have hB_9 := hid (below_on hB_8.out hb)
  have hA_9 := hid (var_on hb hA_8.out (at_lt hA_8.out))
  have hD_9 := hid (var_on hb hD_8.out (at_lt hD_8.out))
  have hR_9 := hid (hR_8.out.later hb)
  have hS_9 := hid (hS_8.out.later hb)
  have hE_9 := hid (var_on hb hE_8.out (at_lt hE_8.out))
  have hO_9 := hid (hO_8.out.later hb)
  clear hb hB_8 C hA_8 hD_8 hR_8 hS_8 hE_8 hO_8
  obtain ⟨q, hq⟩ := pick (a0 = a1)
  have HS := hid (fun (h : g = 0) => same_wrap HB0.out (by subst h; exact HBM.out) F0.out F1.out hq.out)
  have C := refnote_same hq hR_9.out hS_9.out m0 m1
  clear hq
  obtain ⟨c, hc, hc1⟩ : ∃ c : Nat, a5 % (B.length : Int) = (c : Int) ∧ c < B.length := by
    have h1 := Int.emod_nonneg a5 (show (B.length : Int) ≠ 0 by omega)
    have h2 := Int.emod_lt_of_pos a5 (show 0 < (B.length : Int) by omega)
    exact ⟨(a5 % (B.length : Int)).toNat, by omega, by omega⟩
  have hc2 : (c : Int) ≤ (B.length : Int) := by omega
  by_cases hg : g = 0
  rotate_left
  · clear C HS
    have g0 : ((g : Int) == 0) = false := by simpa using hg
    go_upto_region 10 with fail
    have hcut : readNt ((⟨B.toArray⟩ : ByteArray).extract 0 c).data.toList = (zN, 0, 10) := by
      have := read_cut N0 c hlN (by rw [hBq.out]; exact hc1)
      rw [hBq.out] at this
      rw [show ((⟨B.toArray⟩ : ByteArray).extract 0 c).data.toList = B.take c by simp [ByteArray.data_extract]]
      exact this
    have C := note_read (HM.out.below hB_9.out) (s := (⟨B.toArray⟩ : ByteArray).extract 0 c) (hid hcut) (by rw [ByteArray.size_extract]; show min _ B.length - _ ≤ _; omega)
    clear hcut
    go_wp2_with fail
    refine C.mono ?_
    rintro x W_10 ⟨q4, rfl, -, -, -, hb⟩
    have hB_10 := hid (below_on hB_9.out hb)
    clear hb hB_9 C 
    obtain ⟨W_11, hW2⟩ : ∃ W2, W2 = W_10.alloc (zN.o q4) := ⟨_, rfl⟩
    have hB_11 := hid (show Below w.heap.size w W_11 by rw [hW2]; exact hB_10.out.alloc hB_10.out.size _)
    go_upto_region 11 with fail
    rw [← hW2]
    clear hW2 hB_10
    have C := ref_get_eq (hid (show get (⟨B.toArray⟩ : ByteArray).data.toList = (N0.length, H, 0) by have := get_wrap hBq.out hlN; rwa [hH.out] at this)) (by show B.length ≤ maxLen; unfold maxLen; omega) W_11
    go_wp2_with fail
    refine C.mono ?_
    rintro x W9 ⟨rfl, rfl⟩
    clear C
    obtain ⟨k, hk, hk1, hk2⟩ : ∃ k : Nat, wrap64 ((H : Int) + a3 % ((B.length : Int) - (H : Int))) = (k : Int) ∧ H ≤ k ∧ k < B.length := by
      have h1 := Int.emod_nonneg a3 (show ((B.length : Int) - (H : Int)) ≠ 0 by omega)
      have h2 := Int.emod_lt_of_pos a3 (show 0 < ((B.length : Int) - (H : Int)) by omega)
      refine ⟨((H : Int) + a3 % ((B.length : Int) - (H : Int))).toNat, ?_, by omega, by omega⟩
      unfold wrap64
      omega
    obtain ⟨b, hb0⟩ : ∃ b, B[k]? = some b := ⟨B[k]'(by omega), by simp⟩
    obtain ⟨y, hxor, hyb⟩ := bit_xor b (a4 % 8).toNat (by omega)
    obtain ⟨X, hX⟩ : ∃ X, Hid (B.set k y = X) := ⟨_, rfl⟩
    have hXl := hid (show X.length = B.length by rw [← hX.out, List.length_set])
    have hXb : X.length ≤ 40014 := by rw [hXl.out]; exact hBl
    obtain ⟨W_12, cap, hcv1, hv1, hb⟩ := bytes_row (P := Tryd.prog) W9 9 40 5 ⟨B.toArray⟩ Tryd.underlying9 Tryd.underlying40 Tryd.underlying5
    have hcell : W_12.cell? ⟨W9.heap.size, k, none⟩ = some (.int .u8 b.toNat) := by
      rw [hv1.cell? k (by rw [u8s_length]; show k < B.length; omega)]
      simp [u8s, hb0]
    have hfro := hv1.frozen k (by rw [u8s_length]; show k < B.length; omega)
    have hv2 := hv1.setByte k y
    rw [show (⟨B.toArray⟩ : ByteArray).data.toList = B from rfl, hX.out] at hv2
    have hcv2 := hv2.text (P := Tryd.prog) (src := 40) (dst := 9) (cap := cap) Tryd.underlying40 Tryd.underlying5 Tryd.underlying9 hXl.out
    have hB_12 := hid (show Below w.heap.size w (W_12.setCell ⟨W9.heap.size, k, none⟩ (.int .u8 y.toNat)) from (below_on hB_11.out hb).setCell (show w.heap.size ≤ W9.heap.size from hB_11.out.size) _)
    have C := note_read (HM.out.below hB_12.out) (s := (⟨X.toArray⟩ : ByteArray) ++ a2) (hid (show readNt ((⟨X.toArray⟩ : ByteArray) ++ a2).data.toList = (zN, 0, 12) by rw [data_append]; rw [← hX.out]; exact read_turned hBq.out hlN hH.out hk1 hk2 hb0 hyb)) (by rw [ByteArray.size_append]; show X.length + _ ≤ _; omega)
    clear hv1 hv2 hb
    go_upto_region 13 with fail
    go_wp2_with fail
    refine C.mono ?_
    rintro x W10 ⟨q5, rfl, -, -, -, hb⟩
    have hB_13 := hid (below_on hB_12.out (hb.alloc hb.size (zN.o q5)))
    clear hb C hcv1 hcv2 hcell hfro
    go_wp2_with fail
    first
      | exact QQ.out _ hB_13.out
      | (go_ret; exact QQ.out _ hB_13.out)
  subst hg
  have h1 := HS.out rfl
  clear HS
  cases q
  · go_wp2_with (first
        | ((with_reducible refine wpList_load_ntG ?_ (.tmp 6) rfl rfl hA_9.out ?_); · rfl)
        | ((with_reducible refine wpList_load_ntG ?_ (.tmp 7) rfl rfl hD_9.out ?_); · rfl)
        | ((with_reducible refine wpList_load_ntG ?_ (.tmp 15) rfl rfl hE_9.out ?_); · rfl))
    refine C.mono ?_
    rintro x W_10 ⟨rfl, hb⟩
    have hB_10 := hid (below_on hB_9.out hb)
    have hA_10 := hid (var_on hb hA_9.out (at_lt hA_9.out))
    have hD_10 := hid (var_on hb hD_9.out (at_lt hD_9.out))
    have hR_10 := hid (hR_9.out.later hb)
    have hS_10 := hid (hS_9.out.later hb)
    have hE_10 := hid (var_on hb hE_9.out (at_lt hE_9.out))
    have hO_10 := hid (hO_9.out.later hb)
    clear hb hB_9 C hA_9 hD_9 hR_9 hS_9 hE_9 hO_9
    have hcut : readNt ((⟨B.toArray⟩ : ByteArray).extract 0 c).data.toList = (zN, 0, 10) := by
      have := read_cut N0 c hlN (by rw [hBq.out]; exact hc1)
      rw [hBq.out] at this
      rw [show ((⟨B.toArray⟩ : ByteArray).extract 0 c).data.toList = B.take c by simp [ByteArray.data_extract]]
      exact this
    have C := note_read (HM.out.below hB_10.out) (s := (⟨B.toArray⟩ : ByteArray).extract 0 c) (hid hcut) (by rw [ByteArray.size_extract]; show min _ B.length - _ ≤ _; omega)
    clear hcut
    go_wp2_with fail
    refine C.mono ?_
    rintro x W_11 ⟨q4, rfl, -, -, -, hb⟩
    have hB_11 := hid (below_on hB_10.out hb)
    clear hb hB_10 C 
    obtain ⟨W_12, hW2⟩ : ∃ W2, W2 = W_11.alloc (zN.o q4) := ⟨_, rfl⟩
    have hB_12 := hid (show Below w.heap.size w W_12 by rw [hW2]; exact hB_11.out.alloc hB_11.out.size _)
    go_upto_region 11 with fail
    rw [← hW2]
    clear hW2 hB_11
    have C := ref_get_eq (hid (show get (⟨B.toArray⟩ : ByteArray).data.toList = (N0.length, H, 0) by have := get_wrap hBq.out hlN; rwa [hH.out] at this)) (by show B.length ≤ maxLen; unfold maxLen; omega) W_12
    go_wp2_with fail
    refine C.mono ?_
    rintro x W9 ⟨rfl, rfl⟩
    clear C
    obtain ⟨k, hk, hk1, hk2⟩ : ∃ k : Nat, wrap64 ((H : Int) + a3 % ((B.length : Int) - (H : Int))) = (k : Int) ∧ H ≤ k ∧ k < B.length := by
      have h1 := Int.emod_nonneg a3 (show ((B.length : Int) - (H : Int)) ≠ 0 by omega)
      have h2 := Int.emod_lt_of_pos a3 (show 0 < ((B.length : Int) - (H : Int)) by omega)
      refine ⟨((H : Int) + a3 % ((B.length : Int) - (H : Int))).toNat, ?_, by omega, by omega⟩
      unfold wrap64
      omega
    obtain ⟨b, hb0⟩ : ∃ b, B[k]? = some b := ⟨B[k]'(by omega), by simp⟩
    obtain ⟨y, hxor, hyb⟩ := bit_xor b (a4 % 8).toNat (by omega)
    obtain ⟨X, hX⟩ : ∃ X, Hid (B.set k y = X) := ⟨_, rfl⟩
    have hXl := hid (show X.length = B.length by rw [← hX.out, List.length_set])
    have hXb : X.length ≤ 40014 := by rw [hXl.out]; exact hBl
    obtain ⟨W_13, cap, hcv1, hv1, hb⟩ := bytes_row (P := Tryd.prog) W9 9 40 5 ⟨B.toArray⟩ Tryd.underlying9 Tryd.underlying40 Tryd.underlying5
    have hcell : W_13.cell? ⟨W9.heap.size, k, none⟩ = some (.int .u8 b.toNat) := by
      rw [hv1.cell? k (by rw [u8s_length]; show k < B.length; omega)]
      simp [u8s, hb0]
    have hfro := hv1.frozen k (by rw [u8s_length]; show k < B.length; omega)
    have hv2 := hv1.setByte k y
    rw [show (⟨B.toArray⟩ : ByteArray).data.toList = B from rfl, hX.out] at hv2
    have hcv2 := hv2.text (P := Tryd.prog) (src := 40) (dst := 9) (cap := cap) Tryd.underlying40 Tryd.underlying5 Tryd.underlying9 hXl.out
    have hB_13 := hid (show Below w.heap.size w (W_13.setCell ⟨W9.heap.size, k, none⟩ (.int .u8 y.toNat)) from (below_on hB_12.out hb).setCell (show w.heap.size ≤ W9.heap.size from hB_12.out.size) _)
    have C := note_read (HM.out.below hB_13.out) (s := (⟨X.toArray⟩ : ByteArray) ++ a2) (hid (show readNt ((⟨X.toArray⟩ : ByteArray) ++ a2).data.toList = (zN, 0, 12) by rw [data_append]; rw [← hX.out]; exact read_turned hBq.out hlN hH.out hk1 hk2 hb0 hyb)) (by rw [ByteArray.size_append]; show X.length + _ ≤ _; omega)
    clear hv1 hv2 hb
    go_upto_region 13 with fail
    go_wp2_with fail
    refine C.mono ?_
    rintro x W10 ⟨q5, rfl, -, -, -, hb⟩
    have hB_14 := hid (below_on hB_13.out (hb.alloc hb.size (zN.o q5)))
    clear hb C hcv1 hcv2 hcell hfro
    go_wp2_with fail
    first
      | exact QQ.out _ hB_14.out
      | (go_ret; exact QQ.out _ hB_14.out)
  · go_wp2_with (first
        | ((with_reducible refine wpList_load_ntG ?_ (.tmp 6) rfl rfl hA_9.out ?_); · rfl)
        | ((with_reducible refine wpList_load_ntG ?_ (.tmp 7) rfl rfl hD_9.out ?_); · rfl)
        | ((with_reducible refine wpList_load_ntG ?_ (.tmp 15) rfl rfl hE_9.out ?_); · rfl))
    refine C.mono ?_
    rintro x W_10 ⟨rfl, hb⟩
    have hB_10 := hid (below_on hB_9.out hb)
    have hA_10 := hid (var_on hb hA_9.out (at_lt hA_9.out))
    have hD_10 := hid (var_on hb hD_9.out (at_lt hD_9.out))
    have hR_10 := hid (hR_9.out.later hb)
    have hS_10 := hid (hS_9.out.later hb)
    have hE_10 := hid (var_on hb hE_9.out (at_lt hE_9.out))
    have hO_10 := hid (hO_9.out.later hb)
    clear hb hB_9 C hA_9 hD_9 hR_9 hS_9 hE_9 hO_9
    have hcut : readNt ((⟨B.toArray⟩ : ByteArray).extract 0 c).data.toList = (zN, 0, 10) := by
      have := read_cut N0 c hlN (by rw [hBq.out]; exact hc1)
      rw [hBq.out] at this
      rw [show ((⟨B.toArray⟩ : ByteArray).extract 0 c).data.toList = B.take c by simp [ByteArray.data_extract]]
      exact this
    have C := note_read (HM.out.below hB_10.out) (s := (⟨B.toArray⟩ : ByteArray).extract 0 c) (hid hcut) (by rw [ByteArray.size_extract]; show min _ B.length - _ ≤ _; omega)
    clear hcut
    go_wp2_with fail
    refine C.mono ?_
    rintro x W_11 ⟨q4, rfl, -, -, -, hb⟩
    have hB_11 := hid (below_on hB_10.out hb)
    clear hb hB_10 C 
    obtain ⟨W_12, hW2⟩ : ∃ W2, W2 = W_11.alloc (zN.o q4) := ⟨_, rfl⟩
    have hB_12 := hid (show Below w.heap.size w W_12 by rw [hW2]; exact hB_11.out.alloc hB_11.out.size _)
    go_upto_region 11 with fail
    rw [← hW2]
    clear hW2 hB_11
    have C := ref_get_eq (hid (show get (⟨B.toArray⟩ : ByteArray).data.toList = (N0.length, H, 0) by have := get_wrap hBq.out hlN; rwa [hH.out] at this)) (by show B.length ≤ maxLen; unfold maxLen; omega) W_12
    go_wp2_with fail
    refine C.mono ?_
    rintro x W9 ⟨rfl, rfl⟩
    clear C
    obtain ⟨k, hk, hk1, hk2⟩ : ∃ k : Nat, wrap64 ((H : Int) + a3 % ((B.length : Int) - (H : Int))) = (k : Int) ∧ H ≤ k ∧ k < B.length := by
      have h1 := Int.emod_nonneg a3 (show ((B.length : Int) - (H : Int)) ≠ 0 by omega)
      have h2 := Int.emod_lt_of_pos a3 (show 0 < ((B.length : Int) - (H : Int)) by omega)
      refine ⟨((H : Int) + a3 % ((B.length : Int) - (H : Int))).toNat, ?_, by omega, by omega⟩
      unfold wrap64
      omega
    obtain ⟨b, hb0⟩ : ∃ b, B[k]? = some b := ⟨B[k]'(by omega), by simp⟩
    obtain ⟨y, hxor, hyb⟩ := bit_xor b (a4 % 8).toNat (by omega)
    obtain ⟨X, hX⟩ : ∃ X, Hid (B.set k y = X) := ⟨_, rfl⟩
    have hXl := hid (show X.length = B.length by rw [← hX.out, List.length_set])
    have hXb : X.length ≤ 40014 := by rw [hXl.out]; exact hBl
    obtain ⟨W_13, cap, hcv1, hv1, hb⟩ := bytes_row (P := Tryd.prog) W9 9 40 5 ⟨B.toArray⟩ Tryd.underlying9 Tryd.underlying40 Tryd.underlying5
    have hcell : W_13.cell? ⟨W9.heap.size, k, none⟩ = some (.int .u8 b.toNat) := by
      rw [hv1.cell? k (by rw [u8s_length]; show k < B.length; omega)]
      simp [u8s, hb0]
    have hfro := hv1.frozen k (by rw [u8s_length]; show k < B.length; omega)
    have hv2 := hv1.setByte k y
    rw [show (⟨B.toArray⟩ : ByteArray).data.toList = B from rfl, hX.out] at hv2
    have hcv2 := hv2.text (P := Tryd.prog) (src := 40) (dst := 9) (cap := cap) Tryd.underlying40 Tryd.underlying5 Tryd.underlying9 hXl.out
    have hB_13 := hid (show Below w.heap.size w (W_13.setCell ⟨W9.heap.size, k, none⟩ (.int .u8 y.toNat)) from (below_on hB_12.out hb).setCell (show w.heap.size ≤ W9.heap.size from hB_12.out.size) _)
    have C := note_read (HM.out.below hB_13.out) (s := (⟨X.toArray⟩ : ByteArray) ++ a2) (hid (show readNt ((⟨X.toArray⟩ : ByteArray) ++ a2).data.toList = (zN, 0, 12) by rw [data_append]; rw [← hX.out]; exact read_turned hBq.out hlN hH.out hk1 hk2 hb0 hyb)) (by rw [ByteArray.size_append]; show X.length + _ ≤ _; omega)
    clear hv1 hv2 hb
    go_upto_region 13 with fail
    go_wp2_with fail
    refine C.mono ?_
    rintro x W10 ⟨q5, rfl, -, -, -, hb⟩
    have hB_14 := hid (below_on hB_13.out (hb.alloc hb.size (zN.o q5)))
    clear hb C hcv1 hcv2 hcell hfro
    go_wp2_with fail
    first
      | exact QQ.out _ hB_14.out
      | (go_ret; exact QQ.out _ hB_14.out)


theorem noteBack_own : ownKnob Tryd.prog.godebug = none := by kernel_rfl
theorem noteBack_laidOut : laidOutB Tryd.prog = true := by kernel_rfl
set_option maxRecDepth 100000 in
theorem noteBack_lifted (os : Os) (started : os.Started) (H : Type) (enc : TypeId × Value → H) :
    ReturnsInHanded {} Tryd.checked os 3 .any (fun w args => (Rows.noteBackSpec.pre enc Tryd.prog Tryd.f3 [] false w args ∧ laidMetH Tryd.prog laids w) ∧ sizedMet enc Tryd.prog Tryd.f3 (OpenSpec.ofChange Rows.noteBackSpec) false w args) (Rows.noteBackSpec.post enc Tryd.prog Tryd.f3 false true false false) := by
  refine returnsInHanded_of_change_and (C := Tryd.checked) (X := fun w _ => laidMetH Tryd.prog laids w) (fun _ _ _ hh h => h.of_heap hh) own_knob started (by kernel_rfl) Tryd.func3
    (ChangeSpec.witness_shaped (enc := enc) (C := Tryd.checked) (os := os) (X := fun w _ => laidMetH Tryd.prog laids w) false (World.laidAll Tryd.prog os laids) #[.agg #[.int .i64 0, .int .i64 0, .slice none 0 0, .slice none 0 0, .slice none 0 0, .slice none 0 0], .agg #[.int .i64 0, .int .i64 0, .slice none 0 0, .slice none 0 0, .slice none 0 0, .slice none 0 0], .string ByteArray.empty, .int .u16 0, .int .u8 0, .int .u8 0] 8 rfl (World.shaped_of_ZipB (by kernel_rfl) (by kernel_rfl)) (by kernel_rfl) (by kernel_rfl) (by kernel_rfl) (door_met os _)) ?_
  intro W base args ds gs before hval0 hW _ _ hL _
  have hval : ∀ (j : Nat) t v, Tryd.f3.params[j]? = some t → args[j]? = some v → Value.okWide Tryd.prog W .any base t v := hval0
  have hW' := hW
  obtain ⟨p, q, hA0, hV, rfl, hfz, hnd⟩ := hW
  have hA : DataW.TrodAll enc Tryd.prog W 0 (fun _ => true) true Tryd.f3.params.toList args.toList ds p := hA0
  rw [Tryd.params3] at hA hval
  obtain ⟨v0, vs0, d0, ds0, p0, q0, hargs, rfl, rfl, h0, r0⟩ := trodAll_cons hA
  obtain ⟨v1, vs1, d1, ds1, p1, q1, rfl, rfl, rfl, h1, r1⟩ := trodAll_cons r0
  obtain ⟨v2, vs2, d2, ds2, p2, q2, rfl, rfl, rfl, h2, r2⟩ := trodAll_cons r1
  obtain ⟨v3, vs3, d3, ds3, p3, q3, rfl, rfl, rfl, h3, r3⟩ := trodAll_cons r2
  obtain ⟨v4, vs4, d4, ds4, p4, q4, rfl, rfl, rfl, h4, r4⟩ := trodAll_cons r3
  obtain ⟨v5, vs5, d5, ds5, p5, q5, rfl, rfl, rfl, h5, r5⟩ := trodAll_cons r4
  obtain ⟨rfl, rfl, rfl⟩ := trodAll_nil r5
  obtain rfl : args = #[v0, v1, v2, v3, v4, v5] := by cases args; simp_all
  obtain ⟨rfl, rfl⟩ := trodVars_none hV
  have k0 := h0
  have lt0 : ∀ x ∈ p0, x.block < W.heap.size := by obtain ⟨m, hm⟩ := k0; exact DataW.trod_lt m _ _ _ hm
  have k1 := h1
  have lt1 : ∀ x ∈ p1, x.block < W.heap.size := by obtain ⟨m, hm⟩ := k1; exact DataW.trod_lt m _ _ _ hm
  have k2 := h2
  have lt2 : ∀ x ∈ p2, x.block < W.heap.size := by obtain ⟨m, hm⟩ := k2; exact DataW.trod_lt m _ _ _ hm
  have k3 := h3
  have lt3 : ∀ x ∈ p3, x.block < W.heap.size := by obtain ⟨m, hm⟩ := k3; exact DataW.trod_lt m _ _ _ hm
  have k4 := h4
  have lt4 : ∀ x ∈ p4, x.block < W.heap.size := by obtain ⟨m, hm⟩ := k4; exact DataW.trod_lt m _ _ _ hm
  have k5 := h5
  have lt5 : ∀ x ∈ p5, x.block < W.heap.size := by obtain ⟨m, hm⟩ := k5; exact DataW.trod_lt m _ _ _ hm
  obtain ⟨a0, s0, rfl, f0, r0', m0⟩ := open_nt (hval 0 26 v0 rfl rfl) h0
  obtain ⟨a1, s1, rfl, f1, r1', m1⟩ := open_nt (hval 1 26 v1 rfl rfl) h1
  obtain ⟨a2, rfl, rfl, rfl, w2⟩ := open_string Tryd.underlying9 (hval 2 9 v2 rfl rfl) h2
  obtain ⟨a3, rfl, rfl, rfl, w3⟩ := open_int Tryd.underlying27 (hval 3 27 v3 rfl rfl) h3
  obtain ⟨a4, rfl, rfl, rfl, w4⟩ := open_int Tryd.underlying5 (hval 4 5 v4 rfl rfl) h4
  obtain ⟨a5, rfl, rfl, rfl, w5⟩ := open_int Tryd.underlying5 (hval 5 5 v5 rfl rfl) h5
  clear hA0 hval0
  refine (noteBack_walk W (of_laid hL) a0 s0 f0 r0' m0 a1 s1 f1 r1' m1 a2 w2 a3 w3 a4 w4 a5 w5).mono fun e W' ⟨he, bel⟩ => ?_
  subst he
  exact ⟨_, rfl, _, _, _, [], _, [], hW', trodAll_mk1 (shut_bool Tryd.underlying4 _), (trodAll_cons_mk (Below.trod noteBack_laidOut (by kernel_rfl) (of_decide_eq_true (by kernel_rfl)) k0 bel lt0) (trodAll_cons_mk (Below.trod noteBack_laidOut (by kernel_rfl) (of_decide_eq_true (by kernel_rfl)) k1 bel lt1) (trodAll_cons_mk (Below.trod noteBack_laidOut (by kernel_rfl) (of_decide_eq_true (by kernel_rfl)) k2 bel lt2) (trodAll_cons_mk (Below.trod noteBack_laidOut (by kernel_rfl) (of_decide_eq_true (by kernel_rfl)) k3 bel lt3) (trodAll_cons_mk (Below.trod noteBack_laidOut (by kernel_rfl) (of_decide_eq_true (by kernel_rfl)) k4 bel lt4) (trodAll_cons_mk (Below.trod noteBack_laidOut (by kernel_rfl) (of_decide_eq_true (by kernel_rfl)) k5 bel lt5) trodAll_mk0)))))), rfl, bel.frame _, fun h => by cases h⟩

theorem noteBack_over : Rows.noteBackRow.holds Tryd.pinned (OpenSpec.ofChange Rows.noteBackSpec) :=
  OpenClaim.holds_of_wide 3 Tryd.f3 rfl rfl rfl rfl rfl rfl rfl ⟨rfl, rfl, rfl, rfl, rfl⟩ rfl rfl rfl rfl rfl (by kernel_rfl) Tryd.func3 (by kernel_rfl)
    (of_decide_eq_true (by kernel_rfl)) (by unfold Func.isWrapper; first | (rw [if_pos (by decide +kernel)]; kernel_rfl) | (rw [if_neg (by decide +kernel)]; exact ⟨rfl, rfl⟩))
    (fun os started H enc _ => noteBack_lifted os started H enc)

theorem noteBack_holds : Rows.NoteBackCardSaid :=
  Claim7.holds_tied_plain_at .later [] [.data] true (true, "3c6d20aca5cfe6d49a28b3149d252bfc9cda9008a1911849aadb7b82cd662cd3") false
    noteBack_over (fun _ h => by cases h) (by kernel_rfl) (fun _ h => by cases h) noteBack_row_tie rfl ⟨rfl, rfl⟩ (by kernel_rfl) rfl
    (fun f fn hf hfn => by
      obtain rfl : f = 3 := Option.some.inj ((show Tryd.prog.funcNamed "vedette/vedettelaw17.NoteBack" = some 3 by kernel_rfl).symm.trans hf) |>.symm
      obtain rfl : fn = Tryd.f3 := (Option.some.inj (Tryd.func3.symm.trans hfn)).symm
      exact ⟨by kernel_rfl, fun j t ht => by
        rw [Tryd.params3] at ht
        have hm : t ∈ [26, 26, 9, 27, 5, 5] := by simpa using Array.mem_of_getElem? ht
        have hall : ([26, 26, 9, 27, 5, 5].all fun u => !Tryd.prog.wantsStandIn u) = true := by kernel_rfl
        exact (show Tryd.prog.wantsStandIn t = false by simpa using List.all_eq_true.1 hall t hm)⟩)
    (by kernel_rfl)
#print axioms noteBack_holds
end Go.Proofs.YtpedngbjpbeanaaDoor
