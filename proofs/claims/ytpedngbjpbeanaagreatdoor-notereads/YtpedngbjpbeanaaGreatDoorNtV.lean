/- Contract of told of a row of hands. -/
import Derived.Test.YtpedngbjpbeanaaGreatDoorNtW
namespace Go.Proofs.YtpedngbjpbeanaaGreatDoor
open Go.RowKit
set_option linter.unusedVariables false
set_option maxRecDepth 100000
set_option maxHeartbeats 2000000 in
theorem hd_told {w : World} {g k : Nat} {p : Option Addr} {cap n : Nat} {L : List Hd} (h : w.cell? ⟨g, k, none⟩ = some (.slice p n cap)) (hn : Hid (L.length = n)) (hr : RowG Hd.cs 2 w p L) (hi : ∀ t ∈ L, inH t) (hm : n ≤ 200) :
    Calls Tryz.prog 120 #[hdV g k] w fun e w' => e = .returned (.string ⟨(lstB handB L).toArray⟩) ∧ Below w.heap.size w w' := by
  have hg : g < w.heap.size := World.block_lt_of_cell? w _ h
  have HR := hid hr
  have HI := hid hi
  obtain ⟨W, hW⟩ : ∃ W, W = w.alloc (hdO g k) := ⟨_, rfl⟩
  have hBW : Below w.heap.size w W := by rw [hW]; exact below1 _ _
  have hA := hid (show W.heap[w.heap.size]? = some (hdO g k) by rw [hW]; exact new_at _ _ _ rfl)
  have hc : W.cell? ⟨g, k, none⟩ = some (.slice p n cap) := cell_below hBW h
  have lW := at_lt hA.out
  have hgW : g < W.heap.size := by omega
  obtain ⟨P, hP⟩ : ∃ P, Hid (P = put n) := ⟨_, rfl⟩
  have lP : P.length ≤ 10 := by rw [hP.out]; exact (put_length _).2
  have hm' : n ≤ 18446744073709551615 := by omega
  clear hr hi h
  go_enter Tryz.func120, Tryz.ntmps120
  go_upto_region 1 with fail
  rw [← hW]
  clear hW
  have cA := (cells_at hA.out).1
  go_wp2_with fail
  refine (put_at hP hm' _).mono ?_
  rintro x W1 ⟨rfl, hb1⟩
  have hA1 := hid (var_on hb1 hA.out lW)
  have hc1 : W1.cell? ⟨g, k, none⟩ = some (.slice p n cap) := cell_below hb1 hc
  have hB1 := below_on hBW hb1
  have lW1 := at_lt hA1.out
  have hgW1 : g < W1.heap.size := by omega
  clear hb1 hA hc hBW cA lW hgW
  have cA := (cells_at hA1.out).1
  go_wp2_with fail
  clear cA hc1
  go_loopw [3, 20] (fun s i wr => ∃ (j : Nat) (A : List UInt8), j ≤ n ∧ i = .int .i64 j ∧ s = .string ⟨A.toArray⟩ ∧ P ++ (L.take j).flatMap handB = A ∧ A.length ≤ 10 + 300 * j ∧ wr.heap[w.heap.size]? = some (hdO g k) ∧ Below w.heap.size w wr) (fun _ i _ => n - (intOf i).toNat)
  case atStart => exact ⟨0, P, by omega, rfl, rfl, by simp, by omega, hA1.out, hB1⟩
  case round =>
    obtain ⟨j, A, hj, rfl, rfl, hT, hAl, h0, hb⟩ := hrel
    have HT := hid hT
    have A0 := hid h0
    clear hT h0 hA1 hB1
    by_cases hlt : j < n
    · have hlt' : (j : Int) < (n : Int) := by omega
      obtain ⟨t, ht⟩ := get_some L j (by rw [hn.out]; exact hlt)
      obtain ⟨b, off, rfl, hc⟩ := (HR.out.later hb).at ht
      have c0 := hc 0 _ rfl
      have c1 := hc 1 _ rfl
      rw [Nat.add_zero] at c0
      have hit := HI.out t (List.mem_of_getElem? ht)
      obtain ⟨F, hF⟩ : ∃ F, Hid (handB t = F) := ⟨_, rfl⟩
      have lF : F.length ≤ 288 := by rw [← hF.out]; exact Nat.le_trans (handB_len t) (by omega)
      have hnx := hid (show P ++ (L.take (j + 1)).flatMap handB = A ++ F by rw [List.take_add_one, ht, List.flatMap_append, ← List.append_assoc, HT.out, ← hF.out]; simp)
      clear ht
      obtain ⟨V, hV⟩ : ∃ V, V = wr.alloc t.o := ⟨_, rfl⟩
      have hBv : Below w.heap.size w V := by rw [hV]; exact hb.alloc hb.size _
      have A0v := hid (show V.heap[w.heap.size]? = some (hdO g k) by rw [hV]; exact old_at A0.out _)
      have Tv := hid (show V.heap[wr.heap.size]? = some t.o by rw [hV]; exact new_at _ _ _ rfl)
      go_upto_region 5 with fail
      rw [← hV]
      clear hV A0 hb hc c0 c1
      have cA := (cells_at A0v.out).1
      have lA := at_lt A0v.out
      have cT := (cells_at Tv.out).1
      have lV := at_lt Tv.out
      go_wp2_with fail
      refine (tell_hand hit hF _).mono ?_
      rintro x w2 ⟨rfl, hb2⟩
      have A02 := hid (var_on hb2 A0v.out lA)
      have hB2 := below_on hBv hb2
      clear hb2 hBv A0v Tv cA lA lV hit
      go_wp2_with fail
      go_roundw
      case rel => exact ⟨j + 1, A ++ F, by omega, by go_num, by rw [ByteArray.mk_append_mk], hnx.out, by rw [List.length_append]; omega, A02.out, hB2⟩
      case measure => simp [intOf]; omega
    · obtain rfl : j = n := by omega
      have hlt' : ¬ (j : Int) < (j : Int) := by omega
      have he : lstB handB L = A := by
        unfold lstB
        rw [← HT.out, hP.out, hn.out, List.take_of_length_le (by rw [hn.out]; omega)]
      go_wp2_with fail
      go_ret
      exact ⟨rfl, hb⟩
end Go.Proofs.YtpedngbjpbeanaaGreatDoor
