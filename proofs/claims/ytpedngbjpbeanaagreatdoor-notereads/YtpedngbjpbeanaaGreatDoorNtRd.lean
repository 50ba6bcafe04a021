/- Contract of the statements' reads: of whatever bytes, what they are read as. -/
import Derived.Test.YtpedngbjpbeanaaGreatDoorKnown17
import Derived.Test.YtpedngbjpbeanaaGreatDoorNtC
import Derived.Test.YtpedngbjpbeanaaGreatDoorNtRi
namespace Go.Proofs.YtpedngbjpbeanaaGreatDoor
open Go.RowKit
set_option linter.unusedVariables false
set_option linter.unusedSimpArgs false
set_option maxRecDepth 100000
theorem unwrap_four {l u : List UInt8} {k : Nat} (h : unwrap l = (u, k, 0)) : 4 ≤ k := by
  rcases ht : texts l 40000 with ⟨b, i, x⟩
  unfold unwrap at h
  rw [ht] at h
  simp only at h
  split at h
  · rename_i hx; simp only [Prod.mk.injEq] at h; exact absurd h.2.2 hx
  · split at h
    · simp at h
    · split at h
      · simp at h
      · simp only [Prod.mk.injEq] at h; omega
theorem readNt_canon {s u : List UInt8} {n : Nt} {k m f : Nat} (h : readNt s = (n, k, 0)) (hu : unwrap s = (u, m, f)) : f = 0 ∧ k = m ∧ bytesN n = (s.take k, 0) ∧ isN n 4 = true := by
  obtain ⟨h1, h2, h3, -⟩ := readNt_ok h
  rw [hu] at h1 h2
  simp only at h1 h2
  subst h1
  have h4 := unwrap_four hu
  have h5 := (unwrap_le hu).2
  have hl : 4 ≤ (s.take k).length := by rw [List.length_take]; omega
  refine ⟨rfl, h2, ?_⟩
  rw [← h3] at hl ⊢
  unfold bytesN at hl ⊢
  by_cases hi : isN n 4 = true
  · rw [if_pos hi] at hl ⊢
    by_cases hw : 40000 < (noteB n).length
    · rw [if_pos hw] at hl
      simp at hl
    · rw [if_neg hw]
      exact ⟨rfl, hi⟩
  · rw [if_neg hi] at hl
    simp at hl
theorem built_nt : Tryz.prog.built 26 [] = some #[.int .i64 0, .int .i64 0, .slice none 0 0, .slice none 0 0, .slice none 0 0, .slice none 0 0] := by kernel_rfl
theorem wpList_build_nt {ops : Array Oper} {rest : List Oper} {o : Oper} {a : Act} {W : World} {Q : Exit → Act → World → Prop} (hw : Region.wanted o (yielded ops a.tmps) = true) (ho : o.op = .build 26 #[])
    (k : wpList Tryz.prog ops Q rest (a.put o.dst (zN.v zS)) W) : wpList Tryz.prog ops Q (o :: rest) a W := by
  have hb : Tryz.prog.built 26 ((#[] : Array (Nat × Operand)).map fun (i, x) => (i, a.eval x)).toList = some #[.int .i64 0, .int .i64 0, .slice none 0 0, .slice none 0 0, .slice none 0 0, .slice none 0 0] := by
    simp only [List.map_toArray, List.map_nil]; exact built_nt
  rw [wpList, if_pos hw]
  exact .inl (wp_build _ _ ho (by rw [hb]; rfl) (by rw [hb]; exact k))
set_option maxHeartbeats 8000000 in
theorem note_reads {w : World} (hM : Masks w) {s : ByteArray} (hs : s.size ≤ 1000000) :
    Calls Tryz.prog 13 #[.string s] w fun e w' => e = .returned (.bool true) ∧ Below w.heap.size w w' := by
  obtain ⟨Q, hQ⟩ : ∃ Q : Ending → World → Prop, Hid ((fun e w' => e = .returned (.bool true) ∧ Below w.heap.size w w') = Q) := ⟨_, rfl⟩
  have QQ := hid (fun w' (h : Below w.heap.size w w') => (show Q (.returned (.bool true)) w' by rw [← hQ.out]; exact ⟨rfl, h⟩))
  rw [hQ.out]
  clear hQ
  rcases hr : readNt s.data.toList with ⟨n, k, e⟩
  rcases hu : unwrap s.data.toList with ⟨u, m, f⟩
  have HM := hid hM
  have HU := hid (show unwrap s.data.toList = ((⟨u.toArray⟩ : ByteArray).data.toList, m, f) from hu)
  have hm := (unwrap_le hu).2
  have hm2 : m ≤ s.size := hm
  have HC := hid (fun (h : e = 0) => readNt_canon (by rw [h] at hr; exact hr) hu)
  have HE := hid (fun (h : ¬ e = 0) => (show n = zN ∧ k = 0 ∧ e = if f = 0 then 11 else f from by have := readNt_err hr h; rwa [hu] at this))
  have HR := hid hr
  clear hm hu hr
  go_enter Tryz.func13, Tryz.ntmps13
  have C := note_read hM HR hs
  clear hM HR
  go_wp2_with fail
  refine C.mono ?_
  rintro x W_1 ⟨q, rfl, hown, hfi, hlo, hb⟩
  have hB_1 := hid hb
  have LO := hid hlo
  have FI := hid hfi
  have hb : Below W_1.heap.size W_1 (W_1.alloc (n.o q)) := below1 _ _
  obtain ⟨W_2, hW2⟩ : ∃ W2, W2 = W_1.alloc (n.o q) := ⟨_, rfl⟩
  have hE_2 := hid (show W_2.heap[W_1.heap.size]? = some (n.o q) by rw [hW2]; exact new_at _ _ _ rfl)
  rw [← hW2] at hb
  have hO_2 := hid (hown.row.later hb)
  have hB_2 := hid (below_on hB_1.out hb)
  go_upto_region 2 with fail
  rw [← hW2]
  obtain ⟨ge, hge⟩ : ∃ ge, Hid (W_1.heap.size = ge) := ⟨_, rfl⟩
  rw [hge.out] at hE_2 ⊢
  clear hW2 hge hb hB_1 hown hlo hfi C
  have C := refopen_at (s := s) (u := ⟨u.toArray⟩) (k := m) (e := f) HU (by omega) W_2
  go_wp2_with fail
  refine C.mono ?_
  rintro x W_3 ⟨rfl, hb⟩
  have hB_3 := hid (below_on hB_2.out hb)
  have hE_3 := hid (var_on hb hE_2.out (at_lt hE_2.out))
  have hO_3 := hid (hO_2.out.later hb)
  clear hb C hB_2 hE_2 hO_2 HU
  by_cases he : e = 0
  · obtain ⟨hf0, hkm, hbn, hin⟩ := HC.out he
    subst he
    subst hf0
    subst hkm
    obtain ⟨B, hBq⟩ : ∃ B, Hid (s.data.toList.take k = B) := ⟨_, rfl⟩
    rw [hBq.out] at hbn
    have hq : ByteArray.mk B.toArray = s.extract 0 k := same_bytes.2 hBq.out.symm
    have hk1 : (0 : Int) ≤ (k : Int) := by omega
    have hk2 : (k : Int) ≤ (s.size : Int) := by omega
    have HIN := hid hin
    have C := note_bytes (HM.out.below hB_3.out) hO_3.out FI.out LO.out.len (hid hbn)
    clear HC HE hin hbn
    go_wp2_with (with_reducible refine wpList_load_nt rfl (.tmp 3) rfl rfl hE_3.out ?_)
    refine C.mono ?_
    rintro x W_4 ⟨rfl, hb⟩
    have hB_4 := hid (below_on hB_3.out hb)
    have hE_4 := hid (var_on hb hE_3.out (at_lt hE_3.out))
    have hO_4 := hid (hO_3.out.later hb)
    clear hb C hB_3 hE_3 hO_3
    have C := refnote_is hO_4.out (ask_of FI.out LO.out.len) HIN
    go_wp2_with ((with_reducible refine wpList_load_ntG ?_ (.tmp 3) rfl rfl hE_4.out ?_); · rfl)
    refine C.mono ?_
    rintro x W_5 ⟨rfl, hb⟩
    have hB_5 := hid (below_on hB_4.out hb)
    clear hb C hB_4 hE_4 hO_4
    go_wp2_with fail
    first
      | exact QQ.out _ hB_5.out
      | (go_ret; exact QQ.out _ hB_5.out)
  · obtain ⟨rfl, rfl, hee⟩ := HE.out he
    have e0 : ((e : Int) != 0) = true := by simpa using he
    have C := refnote_same (hid (iff_of_true (rfl : true = true) (rfl : zN = zN))) hO_3.out (row_zero W_3 zN ⟨rfl, rfl, rfl, rfl⟩ zS) low_zero.len low_zero.len
    by_cases hf : f = 0
    · rw [if_pos hf] at hee
      subst hf
      subst hee
      clear HC HE he
      go_wp2_with (first
        | ((with_reducible refine wpList_load_ntG ?_ (.tmp 3) rfl rfl hE_3.out ?_); · rfl)
        | ((with_reducible refine wpList_build_nt ?_ rfl ?_); · rfl))
      refine C.mono ?_
      rintro x W_5 ⟨rfl, hb⟩
      have hB_5 := hid (below_on hB_3.out hb)
      clear hb C hB_3 hE_3 hO_3
      go_wp2_with fail
      first
        | exact QQ.out _ hB_5.out
        | (go_ret; exact QQ.out _ hB_5.out)
    · rw [if_neg hf] at hee
      subst hee
      have f0 : ((e : Int) == 0) = false := by simpa using hf
      clear HC HE he hf
      go_wp2_with (first
        | ((with_reducible refine wpList_load_ntG ?_ (.tmp 3) rfl rfl hE_3.out ?_); · rfl)
        | ((with_reducible refine wpList_build_nt ?_ rfl ?_); · rfl))
      refine C.mono ?_
      rintro x W_5 ⟨rfl, hb⟩
      have hB_5 := hid (below_on hB_3.out hb)
      clear hb C hB_3 hE_3 hO_3
      go_wp2_with fail
      first
        | exact QQ.out _ hB_5.out
        | (go_ret; exact QQ.out _ hB_5.out)
end Go.Proofs.YtpedngbjpbeanaaGreatDoor
