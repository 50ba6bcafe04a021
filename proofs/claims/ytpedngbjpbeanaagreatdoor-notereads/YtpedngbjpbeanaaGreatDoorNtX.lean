/- Contract of told of a row of commands. -/
import Derived.Test.YtpedngbjpbeanaaGreatDoorNtT
namespace Go.Proofs.YtpedngbjpbeanaaGreatDoor
open Go.RowKit
set_option linter.unusedVariables false
set_option maxRecDepth 100000
set_option maxHeartbeats 2000000 in
theorem cm_told {w : World} {g k : Nat} {p : Option Addr} {cap n : Nat} {L : List Cm} (h : w.cell? ⟨g, k, none⟩ = some (.slice p n cap)) (hn : Hid (L.length = n)) (hr : RowM w p L) (hi : ∀ t ∈ L, fitC t ∧ isCm t = true) (hm : n ≤ 200) :
    Calls Tryz.prog 122 #[cmV g k] w fun e w' => e = .returned (.string ⟨(lstB cmB L).toArray⟩) ∧ Below w.heap.size w w' := by
  have hg : g < w.heap.size := World.block_lt_of_cell? w _ h
  have HR := hid hr
  have HI := hid hi
  obtain ⟨W, hW⟩ : ∃ W, W = w.alloc (cmO g k) := ⟨_, rfl⟩
  have hBW : Below w.heap.size w W := by rw [hW]; exact below1 _ _
  have hA := hid (show W.heap[w.heap.size]? = some (cmO g k) by rw [hW]; exact new_at _ _ _ rfl)
  have hc : W.cell? ⟨g, k, none⟩ = some (.slice p n cap) := cell_below hBW h
  have lW := at_lt hA.out
  have hgW : g < W.heap.size := by omega
  obtain ⟨P, hP⟩ : ∃ P, Hid (P = put n) := ⟨_, rfl⟩
  have lP : P.length ≤ 10 := by rw [hP.out]; exact (put_length _).2
  have hm' : n ≤ 18446744073709551615 := by omega
  clear hr hi h
  go_enter Tryz.func122, Tryz.ntmps122
  go_upto_region 1 with fail
  rw [← hW]
  clear hW
  have cA := (cells_at hA.out).1
  go_wp2_with fail
  refine (put_at hP hm' _).mono ?_
  rintro x W1 ⟨rfl, hb1⟩
  have hA1 := hid (var_on hb1 hA.out lW)
  have hc1 : W1.cell? ⟨g, k, none⟩ = some (.slice p n cap) := cell_below hb1 hc
  have hB1 := below_on hBW hb1
  have lW1 := at_lt hA1.out
  have hgW1 : g < W1.heap.size := by omega
  clear hb1 hA hc hBW cA lW hgW
  have cA := (cells_at hA1.out).1
  go_wp2_with fail
  clear cA hc1
  go_loopw [3, 20] (fun s i wr => ∃ (j : Nat) (A : List UInt8), j ≤ n ∧ i = .int .i64 j ∧ s = .string ⟨A.toArray⟩ ∧ P ++ (L.take j).flatMap cmB = A ∧ A.length ≤ 10 + 300 * j ∧ wr.heap[w.heap.size]? = some (cmO g k) ∧ Below w.heap.size w wr) (fun _ i _ => n - (intOf i).toNat)
  case atStart => exact ⟨0, P, by omega, rfl, rfl, by simp, by omega, hA1.out, hB1⟩
  case round =>
    obtain ⟨j, A, hj, rfl, rfl, hT, hAl, h0, hb⟩ := hrel
    have HT := hid hT
    have A0 := hid h0
    clear hT h0 hA1 hB1
    by_cases hlt : j < n
    · have hlt' : (j : Int) < (n : Int) := by omega
      obtain ⟨t, ht⟩ := get_some L j (by rw [hn.out]; exact hlt)
      obtain ⟨b, off, rfl, hc⟩ := (HR.out.later hb).at ht
      have HC := hid hc
      have hit := HI.out t (List.mem_of_getElem? ht)
      obtain ⟨F, hF⟩ : ∃ F, Hid (cmB t = F) := ⟨_, rfl⟩
      have lF : F.length ≤ 288 := by rw [← hF.out]; exact cmB_len hit.2
      have hnx := hid (show P ++ (L.take (j + 1)).flatMap cmB = A ++ F by rw [List.take_add_one, ht, List.flatMap_append, ← List.append_assoc, HT.out, ← hF.out]; simp)
      clear ht
      go_upto_region 5 with (first
        | with_reducible refine wpList_load_mid_cm rfl (.tmp 22) rfl rfl HC.out ?_
        | ((with_reducible refine wpList_store_cm rfl (.tmp 5) (.tmp 23) rfl rfl rfl (new_zero _) ?_); intro V h9 hb9 hs9))
      have hBv := hb9.below (w := w) (hb.alloc hb.size _) hb.size
      have A0v := hid (hb9.at (old_at A0.out _) (by have := at_lt A0.out; omega))
      have Tv := hid h9
      have lV := at_lt h9
      clear hb9 hs9 h9 A0 hb HC
      have cA := (cells_at A0v.out).1
      have lA := at_lt A0v.out
      go_wp2_with (with_reducible refine wpList_load_cm rfl (.tmp 5) rfl rfl Tv.out ?_)
      refine (bytes_at (B := F) (e := 0) (hid (by unfold bytesC; rw [if_pos hit.2]; exact congrArg (fun x => (x, 0)) hF.out)) hit.1 _).mono ?_
      rintro x w2 ⟨rfl, hb2⟩
      have A02 := hid (var_on hb2 A0v.out lA)
      have hB2 := below_on hBv hb2
      clear hb2 hBv A0v Tv cA lA lV hit
      go_wp2_with fail
      go_roundw
      case rel => exact ⟨j + 1, A ++ F, by omega, by go_num, by rw [ByteArray.mk_append_mk], hnx.out, by rw [List.length_append]; omega, A02.out, hB2⟩
      case measure => simp [intOf]; omega
    · obtain rfl : j = n := by omega
      have hlt' : ¬ (j : Int) < (j : Int) := by omega
      have he : lstB cmB L = A := by
        unfold lstB
        rw [← HT.out, hP.out, hn.out, List.take_of_length_le (by rw [hn.out]; omega)]
      go_wp2_with fail
      go_ret
      exact ⟨rfl, hb⟩
end Go.Proofs.YtpedngbjpbeanaaGreatDoor
