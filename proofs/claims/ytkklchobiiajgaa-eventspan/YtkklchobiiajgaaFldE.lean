/- Contracts of Read and of Bytes' refusal, of the package fields. -/
import Derived.Test.YtkklchobiiajgaaFldB
import Derived.Test.YtkklchobiiajgaaFldD
import Derived.Test.YtkklchobiiajgaaFldS
import Derived.WalkMore
namespace Go.Proofs.Ytkklchobiiajgaa
open Go.RowKit
set_option linter.unusedVariables false
theorem fin3d {D D' : Dl} {b c b' c' : Int} (h1 : D = D') (h2 : b = b') (h3 : c = c') : Ending.returned (.tuple #[D.v, .int .i64 b, .int .i64 c]) = .returned (.tuple #[D'.v, .int .i64 b', .int .i64 c']) := by rw [h1, h2, h3]
theorem fin3e {D : Dl} {z e : Nat} {r : Dl × Nat × Nat} (h : r = (D, z, e)) : Ending.returned (.tuple #[D.v, .int .i64 z, .int .i64 e]) = .returned (.tuple #[r.1.v, .int .i64 r.2.1, .int .i64 r.2.2]) := by rw [h]
set_option maxHeartbeats 1000000 in
theorem fields_bytes_no (w : World) (d : Dl) (hD : isD d = false) (hm : d.m < 256) (hs : ∀ k, (d.f k).s.size ≤ maxLen) : Calls Try.prog 57 #[d.v] w fun e w' => e = .returned (.tuple #[.string ⟨#[]⟩, .int .i64 11]) ∧ Below w.heap.size w w' := by
  go_enter Try.func57, Try.ntmps57
  go_wp2_with fail
  refine (fields_isDelta _ d hm hs).mono ?_
  rw [hD]
  rintro y w1 ⟨rfl, hb⟩
  have hB := below_on (below1 w d.o) hb
  go_wp2_with fail
  go_ret2
  exact ⟨rfl, hB⟩
set_option maxHeartbeats 4000000 in
theorem fields_read (w : World) (s : ByteArray) (hs : s.size ≤ 1000000) : Calls Try.prog 67 #[.string s] w fun e w' => e = .returned (.tuple #[(read s.data.toList).1.v, .int .i64 (read s.data.toList).2.1, .int .i64 (read s.data.toList).2.2]) ∧ Below w.heap.size w w' := by
  rcases hh : headR s.data.toList with ⟨D0, z0, e0⟩
  obtain ⟨a1, a2, a3, a4⟩ := headR_ok hh
  have HH := hid hh
  clear hh
  have K0 : Hid ((w.alloc zD.o).heap[w.heap.size]? = some zD.o) := new_at _ _ _ rfl
  go_enter Try.func67, Try.ntmps67
  go_wp2_with fail
  go_step3
  go_wp2_with fail
  refine (fields_head HH hs _).mono ?_
  rintro x w1 ⟨rfl, hb⟩
  have K1 := hid (var_on hb K0.out (at_lt K0.out))
  have l1 := at_lt K1.out
  have hB := below_on (below1 w zD.o) hb
  clear hb K0
  go_wp2_with fail
  go_step3
  go_wp2_with fail
  clear a1 a2 a3 a4
  go_loopw [6, 7, 16] (fun z e i wr => ∃ (b zN eN : Nat) (D : Dl), b ≤ 5 ∧ i = .int .i64 b ∧ z = .int .i64 zN ∧ e = .int .i64 eN ∧ readS s.data.toList b = (D, zN, eN) ∧ wr.heap[w.heap.size]? = some zD.o ∧ wr.heap[w1.heap.size]? = some D.o ∧ Below w.heap.size w wr) (fun _ _ i _ => 5 - (intOf i).toNat)
  case atStart => exact ⟨0, z0, e0, D0, by omega, rfl, rfl, rfl, HH.out, old_at K1.out _, new_at _ _ _ rfl, hB.alloc (by omega) _⟩
  case round =>
    clear hB K1 HH
    obtain ⟨b, z, e, D, hb5, rfl, rfl, rfl, hR, h0, h1, hb⟩ := hrel
    obtain ⟨a1, a2, a3, a4⟩ := readS_ok _ _ _ _ _ hR
    have a1 : z ≤ s.size := a1
    have HR := hid hR
    have c0 := cells_at h0
    have c1 := cells_at h1
    have l0 := at_lt h0
    have l2 := at_lt h1
    have H0 := hid h0
    have H1 := hid h1
    clear hR h0 h1
    by_cases he : e = 0
    · subst he
      clear a4
      obtain rfl | rfl | rfl | rfl | rfl | rfl : b = 0 ∨ b = 1 ∨ b = 2 ∨ b = 3 ∨ b = 4 ∨ b = 5 := by omega
      · obtain ⟨r, hr⟩ : ∃ r, Hid (D.m.testBit 0 = r) := ⟨_, rfl⟩
        cases r
        · go_wp2_with fail
          refine (has_at (k := 0) hr.out _ (by omega) (by omega)).mono ?_
          rintro x w3 ⟨rfl, h3⟩
          rw [h3]
          clear h3 w3
          go_wp2_with fail
          first | go_roundw | refine ⟨?rel, ?measure⟩
          case rel => exact ⟨1, z, 0, D, by omega, rfl, by simp, rfl, readS_skip HR.out hr.out, H0.out, H1.out, hb⟩
          case measure => simp [intOf]
        · rcases hp : pairR (s.data.toList.drop z) with ⟨x, y, k, e⟩
          obtain ⟨b1, b2, b3, b4, b5, b6⟩ := pairR_ok hp
          have hp' : Hid (pairR (s.extract z s.size).data.toList = (x, y, k, e)) := by rw [cut_data]; exact hp
          have HP := hid hp
          clear hp b3 b5 b6
          go_wp2_with fail
          refine (has_at (k := 0) hr.out _ (by omega) (by omega)).mono ?_
          rintro x w3 ⟨rfl, h3⟩
          rw [h3]
          clear h3 w3
          go_wp2_with fail
          refine (fields_point hp' (by rw [ByteArray.size_extract]; omega) _).mono ?_
          rintro x w4 ⟨rfl, hb4⟩
          have M0 := hid (var_on hb4 H0.out l0)
          have M1 := hid (var_on hb4 H1.out l2)
          have hB4 := below_on hb hb4
          have c4 := cells_at M1.out
          have l4 := at_lt M1.out
          clear hb4 hb H0 H1 c0 c1
          go_wp2_with fail
          first | go_roundw | refine ⟨?rel, ?measure⟩
          case rel => exact ⟨1, z + k, e, _, by omega, rfl, by simp, rfl, readS_pt HR.out hr.out HP.out, set_off (set_off M0.out (by omega) _) (by omega) _, set_at (set_at M1.out _ rfl) _ rfl, (hB4.setCell (by simp; omega) _).setCell (by simp; omega) _⟩
          case measure => simp [intOf]
      · obtain ⟨r, hr⟩ : ∃ r, Hid (D.m.testBit 1 = r) := ⟨_, rfl⟩
        cases r
        · go_wp2_with fail
          refine (has_at (k := 1) hr.out _ (by omega) (by omega)).mono ?_
          rintro x w3 ⟨rfl, h3⟩
          rw [h3]
          clear h3 w3
          go_wp2_with fail
          first | go_roundw | refine ⟨?rel, ?measure⟩
          case rel => exact ⟨2, z, 0, D, by omega, rfl, by simp, rfl, readS_skip HR.out hr.out, H0.out, H1.out, hb⟩
          case measure => simp [intOf]
        · rcases hp : fieldR (s.data.toList.drop z) with ⟨f, k, e⟩
          obtain ⟨b1, b2, b3, b4, b5, b6⟩ := fieldR_ok hp
          have hp' : Hid (fieldR (s.extract z s.size).data.toList = (f, k, e)) := by rw [cut_data]; exact hp
          have HP := hid hp
          clear hp b2 b4 b5 b6
          go_wp2_with fail
          refine (has_at (k := 1) hr.out _ (by omega) (by omega)).mono ?_
          rintro x w3 ⟨rfl, h3⟩
          rw [h3]
          clear h3 w3
          go_wp2_with fail
          refine (fields_field hp' (by rw [ByteArray.size_extract]; omega) _).mono ?_
          rintro x w4 ⟨rfl, hb4⟩
          have M0 := hid (var_on hb4 H0.out l0)
          have M1 := hid (var_on hb4 H1.out l2)
          have hB4 := below_on hb hb4
          have c4 := cells_at M1.out
          have l4 := at_lt M1.out
          clear hb4 hb H0 H1 c0 c1
          go_wp2_with fail
          first | go_roundw | refine ⟨?rel, ?measure⟩
          case rel => exact ⟨2, z + k, e, _, by omega, rfl, by simp, rfl, readS_fl (b := 0) HR.out hr.out HP.out, set_off (set_off M0.out (by omega) _) (by omega) _, set_at (set_at M1.out _ rfl) _ rfl, (hB4.setCell (by simp; omega) _).setCell (by simp; omega) _⟩
          case measure => simp [intOf]
      · obtain ⟨r, hr⟩ : ∃ r, Hid (D.m.testBit 2 = r) := ⟨_, rfl⟩
        cases r
        · go_wp2_with fail
          refine (has_at (k := 2) hr.out _ (by omega) (by omega)).mono ?_
          rintro x w3 ⟨rfl, h3⟩
          rw [h3]
          clear h3 w3
          go_wp2_with fail
          first | go_roundw | refine ⟨?rel, ?measure⟩
          case rel => exact ⟨3, z, 0, D, by omega, rfl, by simp, rfl, readS_skip HR.out hr.out, H0.out, H1.out, hb⟩
          case measure => simp [intOf]
        · rcases hp : fieldR (s.data.toList.drop z) with ⟨f, k, e⟩
          obtain ⟨b1, b2, b3, b4, b5, b6⟩ := fieldR_ok hp
          have hp' : Hid (fieldR (s.extract z s.size).data.toList = (f, k, e)) := by rw [cut_data]; exact hp
          have HP := hid hp
          clear hp b2 b4 b5 b6
          go_wp2_with fail
          refine (has_at (k := 2) hr.out _ (by omega) (by omega)).mono ?_
          rintro x w3 ⟨rfl, h3⟩
          rw [h3]
          clear h3 w3
          go_wp2_with fail
          refine (fields_field hp' (by rw [ByteArray.size_extract]; omega) _).mono ?_
          rintro x w4 ⟨rfl, hb4⟩
          have M0 := hid (var_on hb4 H0.out l0)
          have M1 := hid (var_on hb4 H1.out l2)
          have hB4 := below_on hb hb4
          have c4 := cells_at M1.out
          have l4 := at_lt M1.out
          clear hb4 hb H0 H1 c0 c1
          go_wp2_with fail
          first | go_roundw | refine ⟨?rel, ?measure⟩
          case rel => exact ⟨3, z + k, e, _, by omega, rfl, by simp, rfl, readS_fl (b := 1) HR.out hr.out HP.out, set_off (set_off M0.out (by omega) _) (by omega) _, set_at (set_at M1.out _ rfl) _ rfl, (hB4.setCell (by simp; omega) _).setCell (by simp; omega) _⟩
          case measure => simp [intOf]
      · obtain ⟨r, hr⟩ : ∃ r, Hid (D.m.testBit 3 = r) := ⟨_, rfl⟩
        cases r
        · go_wp2_with fail
          refine (has_at (k := 3) hr.out _ (by omega) (by omega)).mono ?_
          rintro x w3 ⟨rfl, h3⟩
          rw [h3]
          clear h3 w3
          go_wp2_with fail
          first | go_roundw | refine ⟨?rel, ?measure⟩
          case rel => exact ⟨4, z, 0, D, by omega, rfl, by simp, rfl, readS_skip HR.out hr.out, H0.out, H1.out, hb⟩
          case measure => simp [intOf]
        · rcases hp : fieldR (s.data.toList.drop z) with ⟨f, k, e⟩
          obtain ⟨b1, b2, b3, b4, b5, b6⟩ := fieldR_ok hp
          have hp' : Hid (fieldR (s.extract z s.size).data.toList = (f, k, e)) := by rw [cut_data]; exact hp
          have HP := hid hp
          clear hp b2 b4 b5 b6
          go_wp2_with fail
          refine (has_at (k := 3) hr.out _ (by omega) (by omega)).mono ?_
          rintro x w3 ⟨rfl, h3⟩
          rw [h3]
          clear h3 w3
          go_wp2_with fail
          refine (fields_field hp' (by rw [ByteArray.size_extract]; omega) _).mono ?_
          rintro x w4 ⟨rfl, hb4⟩
          have M0 := hid (var_on hb4 H0.out l0)
          have M1 := hid (var_on hb4 H1.out l2)
          have hB4 := below_on hb hb4
          have c4 := cells_at M1.out
          have l4 := at_lt M1.out
          clear hb4 hb H0 H1 c0 c1
          go_wp2_with fail
          first | go_roundw | refine ⟨?rel, ?measure⟩
          case rel => exact ⟨4, z + k, e, _, by omega, rfl, by simp, rfl, readS_fl (b := 2) HR.out hr.out HP.out, set_off (set_off M0.out (by omega) _) (by omega) _, set_at (set_at M1.out _ rfl) _ rfl, (hB4.setCell (by simp; omega) _).setCell (by simp; omega) _⟩
          case measure => simp [intOf]
      · obtain ⟨r, hr⟩ : ∃ r, Hid (D.m.testBit 4 = r) := ⟨_, rfl⟩
        cases r
        · go_wp2_with fail
          refine (has_at (k := 4) hr.out _ (by omega) (by omega)).mono ?_
          rintro x w3 ⟨rfl, h3⟩
          rw [h3]
          clear h3 w3
          go_wp2_with fail
          first | go_roundw | refine ⟨?rel, ?measure⟩
          case rel => exact ⟨5, z, 0, D, by omega, rfl, by simp, rfl, readS_skip HR.out hr.out, H0.out, H1.out, hb⟩
          case measure => simp [intOf]
        · rcases hp : fieldR (s.data.toList.drop z) with ⟨f, k, e⟩
          obtain ⟨b1, b2, b3, b4, b5, b6⟩ := fieldR_ok hp
          have hp' : Hid (fieldR (s.extract z s.size).data.toList = (f, k, e)) := by rw [cut_data]; exact hp
          have HP := hid hp
          clear hp b2 b4 b5 b6
          go_wp2_with fail
          refine (has_at (k := 4) hr.out _ (by omega) (by omega)).mono ?_
          rintro x w3 ⟨rfl, h3⟩
          rw [h3]
          clear h3 w3
          go_wp2_with fail
          refine (fields_field hp' (by rw [ByteArray.size_extract]; omega) _).mono ?_
          rintro x w4 ⟨rfl, hb4⟩
          have M0 := hid (var_on hb4 H0.out l0)
          have M1 := hid (var_on hb4 H1.out l2)
          have hB4 := below_on hb hb4
          have c4 := cells_at M1.out
          have l4 := at_lt M1.out
          clear hb4 hb H0 H1 c0 c1
          go_wp2_with fail
          first | go_roundw | refine ⟨?rel, ?measure⟩
          case rel => exact ⟨5, z + k, e, _, by omega, rfl, by simp, rfl, readS_fl (b := 3) HR.out hr.out HP.out, set_off (set_off M0.out (by omega) _) (by omega) _, set_at (set_at M1.out _ rfl) _ rfl, (hB4.setCell (by simp; omega) _).setCell (by simp; omega) _⟩
          case measure => simp [intOf]
      · cases hd : isD D
        · have Hd := hid hd
          clear hd
          go_wp2_with fail
          refine (fields_isDelta _ D (by omega) (fun k => by have := (a3 k).1; unfold maxLen; omega)).mono ?_
          rw [Hd.out]
          rintro x w4 ⟨rfl, hb4⟩
          have M0 := hid (var_on hb4 H0.out l0)
          have M1 := hid (var_on hb4 H1.out l2)
          have hB4 := below_on hb hb4
          have c4 := cells_at M0.out
          have c5 := cells_at M1.out
          have l4 := at_lt M0.out
          clear hb4 hb H0 H1 c0 c1
          go_wp2_with fail
          rw [Exit.noGoto_ret]
          exact bodyPost_ret (v := .tuple #[zD.v, .int .i64 0, .int .i64 11]) (by simp [results, Try.results67, go_sem, c4, zD, zF]) rfl ⟨fin3e (read_bad HR.out Hd.out), below_set12 hB4 (by omega) _ _ _ _ _ _ _ _ _ _ _ _⟩
        · have Hd := hid hd
          clear hd
          go_wp2_with fail
          refine (fields_isDelta _ D (by omega) (fun k => by have := (a3 k).1; unfold maxLen; omega)).mono ?_
          rw [Hd.out]
          rintro x w4 ⟨rfl, hb4⟩
          have M0 := hid (var_on hb4 H0.out l0)
          have M1 := hid (var_on hb4 H1.out l2)
          have hB4 := below_on hb hb4
          have c4 := cells_at M0.out
          have c5 := cells_at M1.out
          have l4 := at_lt M0.out
          clear hb4 hb H0 H1 c0 c1
          go_wp2_with fail
          rw [Exit.noGoto_ret]
          exact bodyPost_ret (v := .tuple #[D.v, .int .i64 z, .int .i64 0]) (by simp [results, Try.results67, go_sem, c4]) rfl ⟨fin3e (read_good HR.out Hd.out), below_set12 hB4 (by omega) _ _ _ _ _ _ _ _ _ _ _ _⟩
    · have q1 : ((e : Int) != 0) = true := by simpa using he
      have q2 : ((e : Int) == 0) = false := by simpa using he
      have HE := hid he
      clear he
      by_cases hlt : b < 5
      · go_wp2_with fail
        rw [Exit.noGoto_ret]
        exact bodyPost_ret (v := .tuple #[zD.v, .int .i64 0, .int .i64 e]) (by simp [results, Try.results67, go_sem, c0, zD, zF]) rfl ⟨fin3e (read_err HR.out HE.out hb5), below_set12 hb (by omega) _ _ _ _ _ _ _ _ _ _ _ _⟩
      · go_wp2_with fail
        rw [Exit.noGoto_ret]
        exact bodyPost_ret (v := .tuple #[zD.v, .int .i64 0, .int .i64 e]) (by simp [results, Try.results67, go_sem, c0, zD, zF]) rfl ⟨fin3e (read_err HR.out HE.out hb5), below_set12 hb (by omega) _ _ _ _ _ _ _ _ _ _ _ _⟩
end Go.Proofs.Ytkklchobiiajgaa
