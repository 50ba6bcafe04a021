/- Contract of Bytes of the package cmd. -/
import Derived.Test.YtfcofhlcainanaaCmI
import Derived.Test.YtfcofhlcainanaaCmQ
namespace Go.Proofs.Ytfcofhlcainanaa
open Go.RowKit
set_option linter.unusedVariables false
/-- the fields' numbers fit, their texts are not too long for the machine -/
def fitC (c : Cm) : Prop := ∀ k, (c.f k).s.size ≤ maxLen ∧ -9223372036854775808 ≤ (c.f k).n ∧ (c.f k).n ≤ 9223372036854775807
theorem fit_sized {c : Cm} (h : fitC c) : sizedC c := fun k => (h k).1
theorem toldL_next {L : List Pa} {k : Nat} {p : Pa} {c : Cm} (hp : L[k]? = some p) : toldL (L.take (k + 1)) c = toldL (L.take k) c ++ p.told c := by
  unfold toldL
  rw [List.take_add_one, hp, List.flatMap_append]
  simp
theorem isC_at {c : Cm} {q : Bool} (h : isC c = q) (hs : sizedC c) (w : World) : Calls Try.prog 11 #[c.v] w fun e w' => e = .returned (.bool q) ∧ Below w.heap.size w w' := by
  rw [← h]; exact cmd_is w c hs
set_option maxHeartbeats 4000000 in
theorem bytes_yes (w : World) (c : Cm) (hs : fitC c) (hi : isC c = true) : Calls Try.prog 10 #[c.v] w fun e w' => e = .returned (.tuple #[.string ⟨(toldL (partsP c.kd) c).toArray⟩, .int .i64 0]) ∧ Below w.heap.size w w' := by
  obtain ⟨W, hW⟩ : ∃ W, W = w.alloc c.o := ⟨_, rfl⟩
  have hB : Below w.heap.size w W := by rw [hW]; exact below1 _ _
  have hA := hid (show W.heap[w.heap.size]? = some c.o by rw [hW]; exact new_at _ _ _ rfl)
  have hlW : w.heap.size < W.heap.size := at_lt hA.out
  obtain ⟨L, hL⟩ : ∃ L, Hid (partsP c.kd = L) := ⟨_, rfl⟩
  have his := hid (show ∀ p ∈ L, p.is c = true by rw [← hL.out]; exact (isC_iff.1 hi).1)
  have hok := hid (show ∀ p ∈ L, p.ok by rw [← hL.out]; exact parts_ok _)
  have hlen : L.length ≤ 9 := by rw [← hL.out]; exact parts_len _
  have HS := hid hs
  have C1 := fun w => isC_at hi (fit_sized hs) w
  rw [hL.out]
  clear hs hi
  go_enter Try.func10, Try.ntmps10
  go_upto_region 1 with fail
  rw [← hW]
  clear hW
  go_wp2_with (with_reducible refine wpList_load_cm rfl (.tmp 1) rfl rfl hA.out ?_)
  refine (C1 _).mono ?_
  rintro x W0 ⟨rfl, hb0⟩
  have hA0 := hid (var_on hb0 hA.out (at_lt hA.out))
  have hB0 := below_on hB hb0
  have hl0 := at_lt hA0.out
  clear hb0 hA C1
  go_wp2_with fail
  refine (cmd_parts hA0.out).mono ?_
  rintro x W1 ⟨v, rfl, hp, hb1⟩
  rw [hL.out] at hp
  have hA1 := hid (var_on hb1 hA0.out (at_lt hA0.out))
  have hB1 := below_on hB0 hb1
  clear hb1 hA0
  obtain ⟨q, cap, rfl⟩ := owns_slice hp
  have hp1 := hp.mono (base' := w.heap.size + 1) (by omega)
  obtain ⟨n, hn⟩ : ∃ n, Hid (L.length = n) := ⟨_, rfl⟩
  rw [hn.out] at hp1 hlen ⊢
  go_wp2_with fail
  go_loopw [4, 12] (fun s i wr => ∃ (k : Nat) (A : List UInt8), k ≤ n ∧ i = .int .i64 k ∧ s = .string ⟨A.toArray⟩ ∧ toldL (L.take k) c = A ∧ A.length ≤ 32 * k ∧ wr.heap[w.heap.size]? = some c.o ∧ RowP wr (w.heap.size + 1) w.heap.size (.slice q n cap) L ∧ Below w.heap.size w wr) (fun _ i _ => n - (intOf i).toNat)
  case atStart => exact ⟨0, [], by omega, rfl, rfl, rfl, by simp, hA1.out, hp1, hB1⟩
  case round =>
    obtain ⟨k, A, hk, rfl, rfl, hT, hAl, hd, hr, hb⟩ := hrel
    have HD := hid hd
    have HT := hid hT
    have lD := at_lt hd
    clear hd hT hp1 hA1 hB1 hp
    by_cases hlt : k < n
    · have hlt' : (k : Int) < (n : Int) := by omega
      obtain ⟨gp, rfl, -⟩ := hr.some (by omega)
      obtain ⟨p, hpk⟩ : ∃ p, L[k]? = some p := ⟨L[k]'(by rw [hn.out]; exact hlt), by simp⟩
      have hpok := hok.out p (List.mem_of_getElem? hpk)
      have hpis := his.out p (List.mem_of_getElem? hpk)
      have hsh := told_short hpis
      have hnx := hid ((toldL_next (c := c) hpk).trans (by rw [HT.out]))
      have hc0 := part_at hr hpk
      have HR := hid hr
      obtain ⟨T, hT⟩ : ∃ T, Hid (p.told c = T) := ⟨_, rfl⟩
      rw [hT.out] at hsh
      have hnT := hid (hnx.out.trans (by rw [hT.out]))
      clear hpk hr hnx
      rcases p with ⟨j, lo, hi⟩ | j
      · have hc : wr.cell? ⟨gp, k, none⟩ = some (.iface 62 (numV w.heap.size j lo hi)) := hc0
        clear hc0
        have hci := cell_i HD.out hpok.1
        obtain ⟨b1, b2⟩ := is_num.1 hpis
        obtain ⟨-, o1, o2, o3, o4⟩ := hpok
        go_wp2_with fail
        refine (num_told _ hci lo hi (by omega) (by omega)).mono ?_
        rw [show put (zig (c.i j)) = T from hT.out]
        rintro x w2 ⟨rfl, hb2⟩
        have hd2 := hid (var_on hb2 HD.out lD)
        have hr2 := hid (HR.out.on hb2)
        have hB2 := below_on hb hb2
        clear hb2 hb hc hci HD HR lD
        go_wp2_with fail
        go_roundw
        case rel => exact ⟨k + 1, A ++ T, by omega, by go_num, by rw [ByteArray.mk_append_mk], hnT.out, by rw [List.length_append]; omega, hd2.out, hr2.out, hB2⟩
        case measure => simp [intOf]; omega
      · have hc : wr.cell? ⟨gp, k, none⟩ = some (.iface 68 (fldV w.heap.size j)) := hc0
        clear hc0
        obtain ⟨hci, hci'⟩ := cell_f HD.out hpok
        obtain ⟨-, f1, f2⟩ := HS.out j
        have hsz : (c.f j).s.size ≤ 1000000 := by
          have h2 : isF (c.f j) = true := hpis
          unfold isF at h2
          simp only [Bool.and_eq_true, decide_eq_true_eq] at h2
          omega
        go_wp2_with fail
        refine (fld_told _ hci hci' hsz f1 f2).mono ?_
        rw [show text (c.f j).s.data.toList ++ put (zig (c.f j).n) = T from hT.out]
        rintro x w2 ⟨rfl, hb2⟩
        have hd2 := hid (var_on hb2 HD.out lD)
        have hr2 := hid (HR.out.on hb2)
        have hB2 := below_on hb hb2
        clear hb2 hb hc hci hci' HD HR lD
        go_wp2_with fail
        go_roundw
        case rel => exact ⟨k + 1, A ++ T, by omega, by go_num, by rw [ByteArray.mk_append_mk], hnT.out, by rw [List.length_append]; omega, hd2.out, hr2.out, hB2⟩
        case measure => simp [intOf]; omega
    · obtain rfl : k = n := by omega
      have hlt' : ¬ (k : Int) < (k : Int) := by omega
      have he : toldL L c = A := by
        rw [← HT.out, List.take_of_length_le (by rw [hn.out]; omega)]
      go_wp2_with fail
      exact bodyPost_ret (v := .tuple #[.string ⟨A.toArray⟩, .int .i64 0]) (by simp [results, Try.results10, go_sem]) rfl ⟨rfl, hb⟩
theorem bytes_no (w : World) (c : Cm) (hs : sizedC c) (hi : isC c = false) : Calls Try.prog 10 #[c.v] w fun e w' => e = .returned (.tuple #[.string ⟨#[]⟩, .int .i64 11]) ∧ Below w.heap.size w w' := by
  obtain ⟨W, hW⟩ : ∃ W, W = w.alloc c.o := ⟨_, rfl⟩
  have hB : Below w.heap.size w W := by rw [hW]; exact below1 _ _
  have hA := hid (show W.heap[w.heap.size]? = some c.o by rw [hW]; exact new_at _ _ _ rfl)
  have C1 := fun w => isC_at hi hs w
  clear hs hi
  go_enter Try.func10, Try.ntmps10
  go_upto_region 1 with fail
  rw [← hW]
  clear hW
  go_wp2_with (with_reducible refine wpList_load_cm rfl (.tmp 1) rfl rfl hA.out ?_)
  refine (C1 _).mono ?_
  rintro x W0 ⟨rfl, hb0⟩
  have hB0 := below_on hB hb0
  go_wp2_with fail
  exact bodyPost_ret (v := .tuple #[.string ⟨#[]⟩, .int .i64 11]) (by simp [results, Try.results10, go_sem]) rfl ⟨rfl, hB0⟩
theorem bytes_at {c : Cm} {B : List UInt8} {e : Nat} (h : Hid (bytesC c = (B, e))) (hs : fitC c) (w : World) : Calls Try.prog 10 #[c.v] w fun x w' => x = .returned (.tuple #[.string ⟨B.toArray⟩, .int .i64 e]) ∧ Below w.heap.size w w' := by
  have h' := h.out
  unfold bytesC at h'
  cases hi : isC c
  · rw [hi, if_neg (by simp)] at h'
    simp only [Prod.mk.injEq] at h'
    obtain ⟨rfl, rfl⟩ := h'
    exact bytes_no w c (fit_sized hs) hi
  · rw [hi, if_pos rfl] at h'
    simp only [Prod.mk.injEq] at h'
    obtain ⟨rfl, rfl⟩ := h'
    exact bytes_yes w c hs hi
end Go.Proofs.Ytfcofhlcainanaa
