/- Contract of the reference's Read. -/
import Derived.Test.YtkklchobiiajgaaFldE
import Derived.Test.YtkklchobiiajgaaFldT
import Derived.Deep.Cut
namespace Go.Proofs.Ytkklchobiiajgaa
open Go.RowKit
set_option linter.unusedVariables false
theorem number_bad {s : ByteArray} {a n k e bound : Nat} {c : Int} (h : Hid (get (s.data.toList.drop a) = (n, k, e))) (he : ¬ e = 0) (hs : s.size ≤ 1000000) (ha : a ≤ s.size) (hb : bound ≤ 2000000) (w : World) (B : Int) (hc : c = a) (hB : B = bound) :
    Calls Try.prog 79 #[.string s, .int .i64 c, .int .u64 B] w fun x w' => x = .returned (.tuple #[.int .i64 0, .int .i64 c, .int .i64 e]) ∧ w' = w := by
  subst hc hB
  have := ref_number h hs ha hb w
  rw [if_neg he] at this
  exact this
theorem number_ok {s : ByteArray} {a n k bound X : Nat} {c : Int} (h : Hid (get (s.data.toList.drop a) = (n, k, 0))) (hX : Hid (min n (bound + 1) = X)) (hs : s.size ≤ 1000000) (ha : a ≤ s.size) (hb : bound ≤ 2000000) (w : World) (B : Int) (hc : c = a) (hB : B = bound) :
    Calls Try.prog 79 #[.string s, .int .i64 c, .int .u64 B] w fun x w' => x = .returned (.tuple #[.int .i64 X, .int .i64 (c + k), .int .i64 0]) ∧ w' = w := by
  subst hc hB
  have := ref_number h hs ha hb w
  rw [if_pos rfl, hX.out] at this
  exact this
theorem reftexts_at {s u : ByteArray} {k e : Nat} (h : Hid (texts s.data.toList 12 = (u.data.toList, k, e))) (hs : s.size ≤ 281474976710656) (w : World) :
    Calls Try.prog 80 #[.string s, .int .i64 12] w fun x w' => x = .returned (.tuple #[.string u, .int .i64 k, .int .i64 e]) ∧ w' = w := by
  have := ref_texts s 12 hs (by omega) (by omega) w
  rw [h.out] at this
  exact this
theorem refints_at {s : ByteArray} {n k e : Nat} {z : Int} (h : Hid (get s.data.toList = (n, k, e))) (hz : Hid (zag n = z)) (hs : s.size ≤ maxLen) (w : World) :
    Calls Try.prog 81 #[.string s] w fun x w' => x = .returned (.tuple #[.int .i64 z, .int .i64 k, .int .i64 e]) ∧ w' = w := by
  have := ref_ints s hs w
  rw [h.out, hz.out] at this
  exact this
theorem refD_at {D : Dl} {r : Bool} (h : isD D = r) (w : World) (hm : D.m < 256) (hs : ∀ k, (D.f k).s.size ≤ maxLen) : Calls Try.prog 46 #[D.v] w fun e w' => e = .returned (.bool r) ∧ Below w.heap.size w w' := by
  rw [← h]; exact ref_isDelta w D hm hs
theorem fieldR_at {l : List UInt8} {z i : Nat} {r : Nat × Nat × Nat} (h : get (l.drop (z + i)) = r) : get ((l.drop z).drop i) = r := by rw [List.drop_drop]; exact h
set_option maxRecDepth 100000 in
set_option maxHeartbeats 8000000 in
theorem ref_read (w : World) (s : ByteArray) (hs : s.size ≤ 1000000) : Calls Try.prog 69 #[.string s] w fun e w' => e = .returned (.tuple #[(read s.data.toList).1.v, .int .i64 (read s.data.toList).2.1, .int .i64 (read s.data.toList).2.2]) ∧ Below w.heap.size w w' := by
  rcases hg : get s.data.toList with ⟨n, i, e1⟩
  obtain ⟨a1, a2, a3, a4, a5⟩ := get_ok hg
  have a2 : i ≤ s.size := a2
  have HG := hid hg
  have HG0 : Hid (get (s.data.toList.drop 0) = (n, i, e1)) := hg
  rcases hg2 : get (s.data.toList.drop i) with ⟨m, j, e2⟩
  obtain ⟨b1, b2, b3, b4, b5⟩ := get_ok hg2
  have b2 : j ≤ s.size - i := by have := b2; rw [List.length_drop] at this; exact this
  have HG2 := hid hg2
  clear hg hg2 a5 b5
  by_cases he1 : e1 = 0
  · subst he1
    clear a4
    obtain ⟨X, hX⟩ : ∃ X, Hid (min n (1000000 + 1) = X) := ⟨_, rfl⟩
    by_cases he2 : e2 = 0
    · subst he2
      clear b4
      obtain ⟨Y, hY⟩ : ∃ Y, Hid (min m (31 + 1) = Y) := ⟨_, rfl⟩
      have HP := hid (pairR_3 HG.out HG2.out)
      by_cases hbad : 1000000 < n ∨ m = 0 ∨ 31 < m
      · have xb : X ≤ 1000001 := by rw [← hX.out]; omega
        have yb : Y ≤ 32 := by rw [← hY.out]; omega
        have hb' : 1000000 < X ∨ Y < 1 ∨ 31 < Y := by rw [← hX.out, ← hY.out]; omega
        have HB := hid hbad
        clear hbad
        have BB := hid hb'
        clear hb'
        go_enter Try.func69, Try.ntmps69
        obtain ⟨Q, hQ⟩ : ∃ Q, bodyPost Try.prog Try.f69 (fun e w' => e = .returned (.tuple #[(read s.data.toList).1.v, .int .i64 (read s.data.toList).2.1, .int .i64 (read s.data.toList).2.2]) ∧ Below w.heap.size w w') = Q := ⟨_, rfl⟩
        rw [hQ]
        have HQ := hid hQ
        clear hQ
        go_wp2_with fail
        refine (number_ok (a := 0) (bound := 1000000) HG0 hX hs (by omega) (by omega) _ _ (by omega) (by omega)).mono ?_
        rintro x' w3 ⟨rfl, h3⟩
        rw [h3]
        clear h3 w3
        simp only [Int.zero_add]
        go_wp2_with fail
        refine (number_ok (bound := 31) HG2 hY hs (by omega) (by omega) _ _ (by omega) (by omega)).mono ?_
        rintro x' w3 ⟨rfl, h3⟩
        rw [h3]
        clear h3 w3
        go_wp2_with fail
        all_goals first
          | (exfalso; have := BB.out; omega)
          | (have hq := HQ.out; subst hq; exact bodyPost_ret (v := .tuple #[zD.v, .int .i64 0, .int .i64 11]) (by simp [results, Try.results69, go_sem, zD, zF]) rfl ⟨fin3e (read_err (b := 0) (headR_2 HP.out HB.out) (by decide) (by omega)), Go.Joins.below_alloc3 _ _ _ _⟩)
      · have xe : X = n := by rw [← hX.out]; omega
        have ye : Y = m := by rw [← hY.out]; omega
        subst xe ye
        have n1 : X ≤ 1000000 := by omega
        have n2 : 1 ≤ Y := by omega
        have n3 : Y ≤ 31 := by omega
        clear hbad
        have HH : Hid (readS s.data.toList 0 = (⟨X, Y, 0, 0, zF, zF, zF, zF⟩, i + j, 0)) := headR_3 HP.out n1 n2 n3
        obtain ⟨r, hr⟩ : ∃ r, Hid (Y.testBit 0 = r) := ⟨_, rfl⟩
        have hbq : (bits .and .u8 (Y : Int) 1 != 0) = r := by rw [← hr.out]; have := bit_ne Y 0 (by omega); simpa using this
        have y256 : (Y : Int) % 256 = Y := by omega
        go_enter Try.func69, Try.ntmps69
        obtain ⟨Q, hQ⟩ : ∃ Q, bodyPost Try.prog Try.f69 (fun e w' => e = .returned (.tuple #[(read s.data.toList).1.v, .int .i64 (read s.data.toList).2.1, .int .i64 (read s.data.toList).2.2]) ∧ Below w.heap.size w w') = Q := ⟨_, rfl⟩
        rw [hQ]
        have HQ := hid hQ
        clear hQ
        go_wp2_with fail
        refine (number_ok (a := 0) (bound := 1000000) HG0 hX hs (by omega) (by omega) _ _ (by omega) (by omega)).mono ?_
        rintro x' w3 ⟨rfl, h3⟩
        rw [h3]
        clear h3 w3
        simp only [Int.zero_add]
        go_wp2_with fail
        refine (number_ok (bound := 31) HG2 hY hs (by omega) (by omega) _ _ (by omega) (by omega)).mono ?_
        rintro x' w3 ⟨rfl, h3⟩
        rw [h3]
        clear h3 w3
        go_upto_if 60 with fail
        clear hX hY HG HG0 HG2
        go_cut [8] from 18 (fun z wx => ∃ (zN : Nat) (D : Dl) (x y : Int), z = .int .i64 zN ∧ readS s.data.toList 1 = (D, zN, 0) ∧ Alt D x y ∧ wx.heap[w.heap.size]? = some zD.o ∧ wx.heap[w.heap.size + 1]? = some zD.o ∧ wx.heap[w.heap.size + 1 + 1]? = some (D.at x y).o ∧ Below w.heap.size w wx)
        case first =>
          cases r
          · go_wp2_with fail
            go_meet
            refine ⟨i + j, _, 0, 0, by simp, readS_skip HH.out hr.out, Or.inl ⟨rfl, rfl⟩, ?_, ?_, ?_, ?_⟩
            · exact old_at (old_at (new_at _ _ _ rfl) _) _
            · exact old_at (new_at _ _ _ (by simp)) _
            · refine (new_at _ _ _ (by simp)).trans ?_
              rfl
            · exact Go.Joins.below_alloc3 _ _ _ _
          · rcases hg3 : get (s.data.toList.drop (i + j)) with ⟨x, k1, e3⟩
            obtain ⟨c1, c2, c3, c4, c5⟩ := get_ok hg3
            have c2 : k1 ≤ s.size - (i + j) := by have := c2; rw [List.length_drop] at this; exact this
            have HG3 := hid hg3
            rcases hg4 : get (s.data.toList.drop (i + j + k1)) with ⟨y, k2, e4⟩
            obtain ⟨d1, d2, d3, d4, d5⟩ := get_ok hg4
            have d2 : k2 ≤ s.size - (i + j + k1) := by have := d2; rw [List.length_drop] at this; exact this
            have HG4 := hid hg4
            have HG4' := hid (fieldR_at hg4)
            clear hg3 hg4 c5 d5
            obtain ⟨X', hX'⟩ : ∃ X, Hid (min x (1048576 + 1) = X) := ⟨_, rfl⟩
            obtain ⟨Y', hY'⟩ : ∃ X, Hid (min y (1048576 + 1) = X) := ⟨_, rfl⟩
            have xb : X' ≤ 1048577 := by rw [← hX'.out]; omega
            have yb : Y' ≤ 1048577 := by rw [← hY'.out]; omega
            go_wp2_with fail
            by_cases he3 : e3 = 0
            · subst he3
              refine (number_ok (a := i + j) (bound := 1048576) HG3 hX' hs (by omega) (by omega) _ _ (by omega) (by omega)).mono ?_
              rintro x' w3 ⟨rfl, h3⟩
              rw [h3]
              clear h3 w3
              go_wp2_with fail
              by_cases he4 : e4 = 0
              · subst he4
                refine (number_ok (a := i + j + k1) (bound := 1048576) HG4 hY' hs (by omega) (by omega) _ _ (by omega) (by omega)).mono ?_
                rintro x' w3 ⟨rfl, h3⟩
                rw [h3]
                clear h3 w3
                go_wp2_with fail
                go_meet
                refine ⟨i + j + (k1 + k2), _, X', Y', by simp; try omega, readS_pt HH.out hr.out (pairR_3 HG3.out HG4'.out), (by rw [← hX'.out, ← hY'.out]; exact alt_pt _ x y), ?_, ?_, ?_, ?_⟩
                · exact old_at (old_at (new_at _ _ _ rfl) _) _
                · exact old_at (new_at _ _ _ (by simp)) _
                · refine (new_at _ _ _ (by simp)).trans ?_
                  rfl
                · exact Go.Joins.below_alloc3 _ _ _ _
              · have q4 : ((e4 : Int) != 0) = true := by simpa using he4
                refine (number_bad (a := i + j + k1) (bound := 1048576) HG4 he4 hs (by omega) (by omega) _ _ (by omega) (by omega)).mono ?_
                rintro x' w3 ⟨rfl, h3⟩
                rw [h3]
                clear h3 w3
                have HE4 := hid he4
                clear he4
                go_wp2_with fail
                have hq := HQ.out; subst hq
                exact bodyPost_ret (v := .tuple #[zD.v, .int .i64 0, .int .i64 e4]) (by simp [results, Try.results69, go_sem, zD, zF]) rfl ⟨fin3e (read_err (readS_pt HH.out hr.out (pairR_2 HG3.out HG4'.out HE4.out)) HE4.out (by omega)), Go.Joins.below_alloc3 _ _ _ _⟩
            · have q3 : ((e3 : Int) != 0) = true := by simpa using he3
              refine (number_bad (a := i + j) (bound := 1048576) HG3 he3 hs (by omega) (by omega) _ _ (by omega) (by omega)).mono ?_
              rintro x' w3 ⟨rfl, h3⟩
              rw [h3]
              clear h3 w3
              have HE3 := hid he3
              clear he3
              go_wp2_with fail
              have hq := HQ.out; subst hq
              exact bodyPost_ret (v := .tuple #[zD.v, .int .i64 0, .int .i64 e3]) (by simp [results, Try.results69, go_sem, zD, zF]) rfl ⟨fin3e (read_err (readS_pt HH.out hr.out (pairR_1 HG3.out HE3.out)) HE3.out (by omega)), Go.Joins.below_alloc3 _ _ _ _⟩
        case rest =>
          obtain ⟨z0, D0, x0, y0, rfl, r1, r2, r3, r4, r5, r6⟩ := hcut
          have R1 := hid r1
          have R2 := hid r2
          have R3 := hid r3
          have R4 := hid r4
          have R5 := hid r5
          clear r1 r2 r3 r4 r5 hbq hr HH HP
          go_wp2_with fail

          go_loopw [8, 11] (fun z i wr => ∃ (k zN : Nat) (D : Dl) (x y : Int), k ≤ 4 ∧ i = .int .i64 k ∧ z = .int .i64 zN ∧ readS s.data.toList (k + 1) = (D, zN, 0) ∧ Alt D x y ∧ wr.heap[w.heap.size]? = some zD.o ∧ wr.heap[w.heap.size + 1]? = some zD.o ∧ wr.heap[w.heap.size + 1 + 1]? = some (D.at x y).o ∧ Below w.heap.size w wr) (fun _ i _ => 4 - (intOf i).toNat)
          case atStart =>
            exact ⟨0, z0, _, x0, y0, by omega, rfl, rfl, R1.out, R2.out, R3.out, R4.out, R5.out, r6⟩
          case round =>
            clear r6 R1 R2 R3 R4 R5
            obtain ⟨k, z, D, x, y, hk, rfl, rfl, hR, hA, h0, h1, h2, hb⟩ := hrel
            obtain ⟨a1, a2, a3, a4⟩ := readS_ok _ _ _ _ _ hR
            have a1 : z ≤ s.size := a1
            have HZ := hid (readS_z _ _ _ _ _ hR)
            have HR := hid hR
            have HA := hid hA
            have l2 := at_lt h2
            have m0 : (D.at x y).m = D.m := rfl
            have HF := hid (at_f D x y)
            have e0 : (D.at x y).f0 = D.f0 := rfl
            have e1 : (D.at x y).f1 = D.f1 := rfl
            have e2 : (D.at x y).f2 = D.f2 := rfl
            have e3 : (D.at x y).f3 = D.f3 := rfl
            have HM := hid (fun f => (show ((D.set 0 f).at x y) = (D.at x y).set 0 f from rfl))
            have HM1 := hid (fun f => (show ((D.set 1 f).at x y) = (D.at x y).set 1 f from rfl))
            have HM2 := hid (fun f => (show ((D.set 2 f).at x y) = (D.at x y).set 2 f from rfl))
            have HM3 := hid (fun f => (show ((D.set 3 f).at x y) = (D.at x y).set 3 f from rfl))
            have HE := hid (alt_isD hA)
            have m1 : (D.at x y).m ≤ 31 := a2
            obtain ⟨E, hE⟩ : ∃ E, D.at x y = E := ⟨_, rfl⟩
            rw [hE] at h2 HF HM HM1 HM2 HM3 HE m0 m1 e0 e1 e2 e3
            have E0 := hid e0
            have E1 := hid e1
            have E2 := hid e2
            have E3 := hid e3
            have M0 := hid m0
            clear e0 e1 e2 e3 m0
            have c0 := cells_at h0
            have c1 := cells_at h1
            have c2 := cells_at h2
            have H0 := hid h0
            have H1 := hid h1
            have H2 := hid h2
            have l0 : w.heap.size < wr.heap.size := by omega
            have l1 : w.heap.size + 1 < wr.heap.size := by omega
            have HX := hid hE
            clear hR hA h0 h1 h2 a4 hE
            obtain rfl | rfl | rfl | rfl | rfl : k = 0 ∨ k = 1 ∨ k = 2 ∨ k = 3 ∨ k = 4 := by omega
            · have hI := indexA_f0
              obtain ⟨r, hr⟩ : ∃ r, Hid (D.m.testBit 1 = r) := ⟨_, rfl⟩
              have hbt : (bits .and .u8 ((E.m : Int) / 2) 1 == 0) = !r := by rw [← hr.out, M0.out]; exact bit_eq0 D.m 1 (by omega)
              have hz : Hid (E.f0 = zF) := by rw [E0.out]; exact HZ.out 0 (by omega) (by omega)
              cases r
              · go_wp2_with fail
                first | go_roundw | refine ⟨?rel, ?measure⟩
                case rel => exact ⟨1, z, D, x, y, by omega, rfl, rfl, readS_skip HR.out hr.out, HA.out, H0.out, H1.out, by rw [HX.out]; exact H2.out, hb⟩
                case measure => simp [intOf]
              · rcases ht : texts (s.data.toList.drop z) 12 with ⟨u, i, e⟩
                obtain ⟨t1, t2, t3, t4, t5⟩ := texts_ok ht
                have t2 : i ≤ s.size - z := by have := t2; rw [List.length_drop] at this; exact this
                have HT := hid ht
                have ht' : Hid (texts (s.extract z s.size).data.toList 12 = ((⟨u.toArray⟩ : ByteArray).data.toList, i, e)) := by rw [cut_data]; exact ht
                clear ht
                obtain ⟨U, hU⟩ : ∃ U, (⟨u.toArray⟩ : ByteArray) = U := ⟨_, rfl⟩
                rw [hU] at ht'
                have HU := hid hU
                have H5 := hid t5
                have H4 := hid t4
                clear hU t5 t4
                go_wp2_with fail
                refine (reftexts_at ht' (by rw [ByteArray.size_extract]; omega) _).mono ?_
                rintro x' w3 ⟨rfl, h3⟩
                rw [h3]
                clear h3 w3 hbt
                by_cases he : e = 0
                · subst he
                  by_cases hu : u = []
                  · rcases hg : get (s.data.toList.drop (z + i)) with ⟨n, j, e2⟩
                    obtain ⟨g1, g2, g3, g4, g5⟩ := get_ok hg
                    have HG := hid (fieldR_at hg)
                    have hg' : Hid (get (s.extract (z + i) s.size).data.toList = (n, j, e2)) := by rw [cut_data]; exact hg
                    clear hg g2 g5 g4
                    obtain ⟨N, hN⟩ : ∃ N, Hid (zag n = N) := ⟨_, rfl⟩
                    have hu' : U.toList = [] := by rw [← HU.out, hu, ByteArray.toList_eq]
                    have HU' : Hid (U = ⟨#[]⟩) := hid (by rw [← HU.out, hu])
                    have HT' : Hid (texts (s.data.toList.drop z) 12 = ([], i, 0)) := by rw [← hu]; exact HT.out
                    clear hu
                    go_wp2_with fail
                    refine (refints_at hg' hN (by rw [ByteArray.size_extract]; unfold maxLen; omega) _).mono ?_
                    rintro x' w3 ⟨rfl, h3⟩
                    rw [h3]
                    clear h3 w3
                    by_cases he2 : e2 = 0
                    · subst he2
                      go_wp2_with fail
                      first | go_roundw | refine ⟨?rel, ?measure⟩
                      case rel =>
                        have s1 := readS_fl (b := 0) HR.out hr.out (fieldR_4 HT'.out HG.out)
                        have s2 := set_alt HA.out 0 (⟨zag n, ⟨#[]⟩⟩ : Fl)
                        refine ⟨1, z + (i + j), D.set 0 ⟨zag n, ⟨#[]⟩⟩, x, y, by omega, rfl, ?_, s1, s2, ?_, ?_, ?_, ?_⟩
                        · simp; try omega
                        · exact set_off (set_off H0.out (by omega) _) (by omega) _
                        · exact set_off (set_off H1.out (by omega) _) (by omega) _
                        · rw [HM.out, hN.out, ← HU'.out]
                          exact set_at (set_at H2.out _ rfl) _ rfl
                        · exact (hb.setCell (by simp; try omega) _).setCell (by simp; try omega) _
                      case measure => simp [intOf]
                    · have q2 : ((e2 : Int) != 0) = true := by simpa using he2
                      have HE2 := hid he2
                      clear he2
                      go_wp2_with fail
                      have hq := HQ.out; subst hq
                      exact bodyPost_ret (v := .tuple #[zD.v, .int .i64 0, .int .i64 e2]) (by simp [results, Try.results69, go_sem, c0, zD, zF]) rfl ⟨fin3e (read_err (readS_fl (b := 0) HR.out hr.out (fieldR_3 HT'.out HG.out HE2.out)) HE2.out (by omega)), below_set12 (hb.setCell (by simp; try omega) _) (by omega) _ _ _ _ _ _ _ _ _ _ _ _⟩
                  · have hu' : U.toList.isEmpty = false := by rw [← HU.out]; exact text_some hu
                    have Hu := hid hu
                    clear hu
                    go_wp2_with fail
                    first | go_roundw | refine ⟨?rel, ?measure⟩
                    case rel =>
                      have s1 := readS_fl (b := 0) HR.out hr.out (fieldR_2 HT.out Hu.out)
                      rw [HU.out] at s1
                      have s2 := set_alt HA.out 0 (⟨0, U⟩ : Fl)
                      refine ⟨1, z + i, D.set 0 ⟨0, U⟩, x, y, by omega, rfl, ?_, s1, s2, ?_, ?_, ?_, ?_⟩
                      · simp
                      · exact set_off H0.out (by omega) _
                      · exact set_off H1.out (by omega) _
                      · rw [HM.out]
                        have h2 := H2.out
                        rw [show E.o = Dl.o { E with f0 := ⟨0, E.f0.s⟩ } by rw [show (0 : Int) = E.f0.n by rw [hz.out]; rfl]] at h2
                        exact set_at h2 _ rfl
                      · exact hb.setCell (by simp; try omega) _
                    case measure => simp [intOf]
                · have q2 : ((e : Int) != 0) = true := by simpa using he
                  have HE2 := hid he
                  clear he
                  go_wp2_with fail
                  have hq := HQ.out; subst hq
                  exact bodyPost_ret (v := .tuple #[zD.v, .int .i64 0, .int .i64 e]) (by simp [results, Try.results69, go_sem, c0, zD, zF]) rfl ⟨fin3e (read_err (readS_fl (b := 0) HR.out hr.out (fieldR_1 HT.out HE2.out)) HE2.out (by omega)), below_set12 hb (by omega) _ _ _ _ _ _ _ _ _ _ _ _⟩
            · have hI := indexA_f1
              obtain ⟨r, hr⟩ : ∃ r, Hid (D.m.testBit 2 = r) := ⟨_, rfl⟩
              have hbt : (bits .and .u8 ((E.m : Int) / 4) 1 == 0) = !r := by rw [← hr.out, M0.out]; exact bit_eq0 D.m 2 (by omega)
              have hz : Hid (E.f1 = zF) := by rw [E1.out]; exact HZ.out 1 (by omega) (by omega)
              cases r
              · go_wp2_with fail
                first | go_roundw | refine ⟨?rel, ?measure⟩
                case rel => exact ⟨2, z, D, x, y, by omega, rfl, rfl, readS_skip HR.out hr.out, HA.out, H0.out, H1.out, by rw [HX.out]; exact H2.out, hb⟩
                case measure => simp [intOf]
              · rcases ht : texts (s.data.toList.drop z) 12 with ⟨u, i, e⟩
                obtain ⟨t1, t2, t3, t4, t5⟩ := texts_ok ht
                have t2 : i ≤ s.size - z := by have := t2; rw [List.length_drop] at this; exact this
                have HT := hid ht
                have ht' : Hid (texts (s.extract z s.size).data.toList 12 = ((⟨u.toArray⟩ : ByteArray).data.toList, i, e)) := by rw [cut_data]; exact ht
                clear ht
                obtain ⟨U, hU⟩ : ∃ U, (⟨u.toArray⟩ : ByteArray) = U := ⟨_, rfl⟩
                rw [hU] at ht'
                have HU := hid hU
                have H5 := hid t5
                have H4 := hid t4
                clear hU t5 t4
                go_wp2_with fail
                refine (reftexts_at ht' (by rw [ByteArray.size_extract]; omega) _).mono ?_
                rintro x' w3 ⟨rfl, h3⟩
                rw [h3]
                clear h3 w3 hbt
                by_cases he : e = 0
                · subst he
                  by_cases hu : u = []
                  · rcases hg : get (s.data.toList.drop (z + i)) with ⟨n, j, e2⟩
                    obtain ⟨g1, g2, g3, g4, g5⟩ := get_ok hg
                    have HG := hid (fieldR_at hg)
                    have hg' : Hid (get (s.extract (z + i) s.size).data.toList = (n, j, e2)) := by rw [cut_data]; exact hg
                    clear hg g2 g5 g4
                    obtain ⟨N, hN⟩ : ∃ N, Hid (zag n = N) := ⟨_, rfl⟩
                    have hu' : U.toList = [] := by rw [← HU.out, hu, ByteArray.toList_eq]
                    have HU' : Hid (U = ⟨#[]⟩) := hid (by rw [← HU.out, hu])
                    have HT' : Hid (texts (s.data.toList.drop z) 12 = ([], i, 0)) := by rw [← hu]; exact HT.out
                    clear hu
                    go_wp2_with fail
                    refine (refints_at hg' hN (by rw [ByteArray.size_extract]; unfold maxLen; omega) _).mono ?_
                    rintro x' w3 ⟨rfl, h3⟩
                    rw [h3]
                    clear h3 w3
                    by_cases he2 : e2 = 0
                    · subst he2
                      go_wp2_with fail
                      first | go_roundw | refine ⟨?rel, ?measure⟩
                      case rel =>
                        have s1 := readS_fl (b := 1) HR.out hr.out (fieldR_4 HT'.out HG.out)
                        have s2 := set_alt HA.out 1 (⟨zag n, ⟨#[]⟩⟩ : Fl)
                        refine ⟨2, z + (i + j), D.set 1 ⟨zag n, ⟨#[]⟩⟩, x, y, by omega, rfl, ?_, s1, s2, ?_, ?_, ?_, ?_⟩
                        · simp; try omega
                        · exact set_off (set_off H0.out (by omega) _) (by omega) _
                        · exact set_off (set_off H1.out (by omega) _) (by omega) _
                        · rw [HM1.out, hN.out, ← HU'.out]
                          exact set_at (set_at H2.out _ rfl) _ rfl
                        · exact (hb.setCell (by simp; try omega) _).setCell (by simp; try omega) _
                      case measure => simp [intOf]
                    · have q2 : ((e2 : Int) != 0) = true := by simpa using he2
                      have HE2 := hid he2
                      clear he2
                      go_wp2_with fail
                      have hq := HQ.out; subst hq
                      exact bodyPost_ret (v := .tuple #[zD.v, .int .i64 0, .int .i64 e2]) (by simp [results, Try.results69, go_sem, c0, zD, zF]) rfl ⟨fin3e (read_err (readS_fl (b := 1) HR.out hr.out (fieldR_3 HT'.out HG.out HE2.out)) HE2.out (by omega)), below_set12 (hb.setCell (by simp; try omega) _) (by omega) _ _ _ _ _ _ _ _ _ _ _ _⟩
                  · have hu' : U.toList.isEmpty = false := by rw [← HU.out]; exact text_some hu
                    have Hu := hid hu
                    clear hu
                    go_wp2_with fail
                    first | go_roundw | refine ⟨?rel, ?measure⟩
                    case rel =>
                      have s1 := readS_fl (b := 1) HR.out hr.out (fieldR_2 HT.out Hu.out)
                      rw [HU.out] at s1
                      have s2 := set_alt HA.out 1 (⟨0, U⟩ : Fl)
                      refine ⟨2, z + i, D.set 1 ⟨0, U⟩, x, y, by omega, rfl, ?_, s1, s2, ?_, ?_, ?_, ?_⟩
                      · simp
                      · exact set_off H0.out (by omega) _
                      · exact set_off H1.out (by omega) _
                      · rw [HM1.out]
                        have h2 := H2.out
                        rw [show E.o = Dl.o { E with f1 := ⟨0, E.f1.s⟩ } by rw [show (0 : Int) = E.f1.n by rw [hz.out]; rfl]] at h2
                        exact set_at h2 _ rfl
                      · exact hb.setCell (by simp; try omega) _
                    case measure => simp [intOf]
                · have q2 : ((e : Int) != 0) = true := by simpa using he
                  have HE2 := hid he
                  clear he
                  go_wp2_with fail
                  have hq := HQ.out; subst hq
                  exact bodyPost_ret (v := .tuple #[zD.v, .int .i64 0, .int .i64 e]) (by simp [results, Try.results69, go_sem, c0, zD, zF]) rfl ⟨fin3e (read_err (readS_fl (b := 1) HR.out hr.out (fieldR_1 HT.out HE2.out)) HE2.out (by omega)), below_set12 hb (by omega) _ _ _ _ _ _ _ _ _ _ _ _⟩
            · have hI := indexA_f2
              obtain ⟨r, hr⟩ : ∃ r, Hid (D.m.testBit 3 = r) := ⟨_, rfl⟩
              have hbt : (bits .and .u8 ((E.m : Int) / 8) 1 == 0) = !r := by rw [← hr.out, M0.out]; exact bit_eq0 D.m 3 (by omega)
              have hz : Hid (E.f2 = zF) := by rw [E2.out]; exact HZ.out 2 (by omega) (by omega)
              cases r
              · go_wp2_with fail
                first | go_roundw | refine ⟨?rel, ?measure⟩
                case rel => exact ⟨3, z, D, x, y, by omega, rfl, rfl, readS_skip HR.out hr.out, HA.out, H0.out, H1.out, by rw [HX.out]; exact H2.out, hb⟩
                case measure => simp [intOf]
              · rcases ht : texts (s.data.toList.drop z) 12 with ⟨u, i, e⟩
                obtain ⟨t1, t2, t3, t4, t5⟩ := texts_ok ht
                have t2 : i ≤ s.size - z := by have := t2; rw [List.length_drop] at this; exact this
                have HT := hid ht
                have ht' : Hid (texts (s.extract z s.size).data.toList 12 = ((⟨u.toArray⟩ : ByteArray).data.toList, i, e)) := by rw [cut_data]; exact ht
                clear ht
                obtain ⟨U, hU⟩ : ∃ U, (⟨u.toArray⟩ : ByteArray) = U := ⟨_, rfl⟩
                rw [hU] at ht'
                have HU := hid hU
                have H5 := hid t5
                have H4 := hid t4
                clear hU t5 t4
                go_wp2_with fail
                refine (reftexts_at ht' (by rw [ByteArray.size_extract]; omega) _).mono ?_
                rintro x' w3 ⟨rfl, h3⟩
                rw [h3]
                clear h3 w3 hbt
                by_cases he : e = 0
                · subst he
                  by_cases hu : u = []
                  · rcases hg : get (s.data.toList.drop (z + i)) with ⟨n, j, e2⟩
                    obtain ⟨g1, g2, g3, g4, g5⟩ := get_ok hg
                    have HG := hid (fieldR_at hg)
                    have hg' : Hid (get (s.extract (z + i) s.size).data.toList = (n, j, e2)) := by rw [cut_data]; exact hg
                    clear hg g2 g5 g4
                    obtain ⟨N, hN⟩ : ∃ N, Hid (zag n = N) := ⟨_, rfl⟩
                    have hu' : U.toList = [] := by rw [← HU.out, hu, ByteArray.toList_eq]
                    have HU' : Hid (U = ⟨#[]⟩) := hid (by rw [← HU.out, hu])
                    have HT' : Hid (texts (s.data.toList.drop z) 12 = ([], i, 0)) := by rw [← hu]; exact HT.out
                    clear hu
                    go_wp2_with fail
                    refine (refints_at hg' hN (by rw [ByteArray.size_extract]; unfold maxLen; omega) _).mono ?_
                    rintro x' w3 ⟨rfl, h3⟩
                    rw [h3]
                    clear h3 w3
                    by_cases he2 : e2 = 0
                    · subst he2
                      go_wp2_with fail
                      first | go_roundw | refine ⟨?rel, ?measure⟩
                      case rel =>
                        have s1 := readS_fl (b := 2) HR.out hr.out (fieldR_4 HT'.out HG.out)
                        have s2 := set_alt HA.out 2 (⟨zag n, ⟨#[]⟩⟩ : Fl)
                        refine ⟨3, z + (i + j), D.set 2 ⟨zag n, ⟨#[]⟩⟩, x, y, by omega, rfl, ?_, s1, s2, ?_, ?_, ?_, ?_⟩
                        · simp; try omega
                        · exact set_off (set_off H0.out (by omega) _) (by omega) _
                        · exact set_off (set_off H1.out (by omega) _) (by omega) _
                        · rw [HM2.out, hN.out, ← HU'.out]
                          exact set_at (set_at H2.out _ rfl) _ rfl
                        · exact (hb.setCell (by simp; try omega) _).setCell (by simp; try omega) _
                      case measure => simp [intOf]
                    · have q2 : ((e2 : Int) != 0) = true := by simpa using he2
                      have HE2 := hid he2
                      clear he2
                      go_wp2_with fail
                      have hq := HQ.out; subst hq
                      exact bodyPost_ret (v := .tuple #[zD.v, .int .i64 0, .int .i64 e2]) (by simp [results, Try.results69, go_sem, c0, zD, zF]) rfl ⟨fin3e (read_err (readS_fl (b := 2) HR.out hr.out (fieldR_3 HT'.out HG.out HE2.out)) HE2.out (by omega)), below_set12 (hb.setCell (by simp; try omega) _) (by omega) _ _ _ _ _ _ _ _ _ _ _ _⟩
                  · have hu' : U.toList.isEmpty = false := by rw [← HU.out]; exact text_some hu
                    have Hu := hid hu
                    clear hu
                    go_wp2_with fail
                    first | go_roundw | refine ⟨?rel, ?measure⟩
                    case rel =>
                      have s1 := readS_fl (b := 2) HR.out hr.out (fieldR_2 HT.out Hu.out)
                      rw [HU.out] at s1
                      have s2 := set_alt HA.out 2 (⟨0, U⟩ : Fl)
                      refine ⟨3, z + i, D.set 2 ⟨0, U⟩, x, y, by omega, rfl, ?_, s1, s2, ?_, ?_, ?_, ?_⟩
                      · simp
                      · exact set_off H0.out (by omega) _
                      · exact set_off H1.out (by omega) _
                      · rw [HM2.out]
                        have h2 := H2.out
                        rw [show E.o = Dl.o { E with f2 := ⟨0, E.f2.s⟩ } by rw [show (0 : Int) = E.f2.n by rw [hz.out]; rfl]] at h2
                        exact set_at h2 _ rfl
                      · exact hb.setCell (by simp; try omega) _
                    case measure => simp [intOf]
                · have q2 : ((e : Int) != 0) = true := by simpa using he
                  have HE2 := hid he
                  clear he
                  go_wp2_with fail
                  have hq := HQ.out; subst hq
                  exact bodyPost_ret (v := .tuple #[zD.v, .int .i64 0, .int .i64 e]) (by simp [results, Try.results69, go_sem, c0, zD, zF]) rfl ⟨fin3e (read_err (readS_fl (b := 2) HR.out hr.out (fieldR_1 HT.out HE2.out)) HE2.out (by omega)), below_set12 hb (by omega) _ _ _ _ _ _ _ _ _ _ _ _⟩
            · have hI := indexA_f3
              obtain ⟨r, hr⟩ : ∃ r, Hid (D.m.testBit 4 = r) := ⟨_, rfl⟩
              have hbt : (bits .and .u8 ((E.m : Int) / 16) 1 == 0) = !r := by rw [← hr.out, M0.out]; exact bit_eq0 D.m 4 (by omega)
              have hz : Hid (E.f3 = zF) := by rw [E3.out]; exact HZ.out 3 (by omega) (by omega)
              cases r
              · go_wp2_with fail
                first | go_roundw | refine ⟨?rel, ?measure⟩
                case rel => exact ⟨4, z, D, x, y, by omega, rfl, rfl, readS_skip HR.out hr.out, HA.out, H0.out, H1.out, by rw [HX.out]; exact H2.out, hb⟩
                case measure => simp [intOf]
              · rcases ht : texts (s.data.toList.drop z) 12 with ⟨u, i, e⟩
                obtain ⟨t1, t2, t3, t4, t5⟩ := texts_ok ht
                have t2 : i ≤ s.size - z := by have := t2; rw [List.length_drop] at this; exact this
                have HT := hid ht
                have ht' : Hid (texts (s.extract z s.size).data.toList 12 = ((⟨u.toArray⟩ : ByteArray).data.toList, i, e)) := by rw [cut_data]; exact ht
                clear ht
                obtain ⟨U, hU⟩ : ∃ U, (⟨u.toArray⟩ : ByteArray) = U := ⟨_, rfl⟩
                rw [hU] at ht'
                have HU := hid hU
                have H5 := hid t5
                have H4 := hid t4
                clear hU t5 t4
                go_wp2_with fail
                refine (reftexts_at ht' (by rw [ByteArray.size_extract]; omega) _).mono ?_
                rintro x' w3 ⟨rfl, h3⟩
                rw [h3]
                clear h3 w3 hbt
                by_cases he : e = 0
                · subst he
                  by_cases hu : u = []
                  · rcases hg : get (s.data.toList.drop (z + i)) with ⟨n, j, e2⟩
                    obtain ⟨g1, g2, g3, g4, g5⟩ := get_ok hg
                    have HG := hid (fieldR_at hg)
                    have hg' : Hid (get (s.extract (z + i) s.size).data.toList = (n, j, e2)) := by rw [cut_data]; exact hg
                    clear hg g2 g5 g4
                    obtain ⟨N, hN⟩ : ∃ N, Hid (zag n = N) := ⟨_, rfl⟩
                    have hu' : U.toList = [] := by rw [← HU.out, hu, ByteArray.toList_eq]
                    have HU' : Hid (U = ⟨#[]⟩) := hid (by rw [← HU.out, hu])
                    have HT' : Hid (texts (s.data.toList.drop z) 12 = ([], i, 0)) := by rw [← hu]; exact HT.out
                    clear hu
                    go_wp2_with fail
                    refine (refints_at hg' hN (by rw [ByteArray.size_extract]; unfold maxLen; omega) _).mono ?_
                    rintro x' w3 ⟨rfl, h3⟩
                    rw [h3]
                    clear h3 w3
                    by_cases he2 : e2 = 0
                    · subst he2
                      go_wp2_with fail
                      first | go_roundw | refine ⟨?rel, ?measure⟩
                      case rel =>
                        have s1 := readS_fl (b := 3) HR.out hr.out (fieldR_4 HT'.out HG.out)
                        have s2 := set_alt HA.out 3 (⟨zag n, ⟨#[]⟩⟩ : Fl)
                        refine ⟨4, z + (i + j), D.set 3 ⟨zag n, ⟨#[]⟩⟩, x, y, by omega, rfl, ?_, s1, s2, ?_, ?_, ?_, ?_⟩
                        · simp; try omega
                        · exact set_off (set_off H0.out (by omega) _) (by omega) _
                        · exact set_off (set_off H1.out (by omega) _) (by omega) _
                        · rw [HM3.out, hN.out, ← HU'.out]
                          exact set_at (set_at H2.out _ rfl) _ rfl
                        · exact (hb.setCell (by simp; try omega) _).setCell (by simp; try omega) _
                      case measure => simp [intOf]
                    · have q2 : ((e2 : Int) != 0) = true := by simpa using he2
                      have HE2 := hid he2
                      clear he2
                      go_wp2_with fail
                      have hq := HQ.out; subst hq
                      exact bodyPost_ret (v := .tuple #[zD.v, .int .i64 0, .int .i64 e2]) (by simp [results, Try.results69, go_sem, c0, zD, zF]) rfl ⟨fin3e (read_err (readS_fl (b := 3) HR.out hr.out (fieldR_3 HT'.out HG.out HE2.out)) HE2.out (by omega)), below_set12 (hb.setCell (by simp; try omega) _) (by omega) _ _ _ _ _ _ _ _ _ _ _ _⟩
                  · have hu' : U.toList.isEmpty = false := by rw [← HU.out]; exact text_some hu
                    have Hu := hid hu
                    clear hu
                    go_wp2_with fail
                    first | go_roundw | refine ⟨?rel, ?measure⟩
                    case rel =>
                      have s1 := readS_fl (b := 3) HR.out hr.out (fieldR_2 HT.out Hu.out)
                      rw [HU.out] at s1
                      have s2 := set_alt HA.out 3 (⟨0, U⟩ : Fl)
                      refine ⟨4, z + i, D.set 3 ⟨0, U⟩, x, y, by omega, rfl, ?_, s1, s2, ?_, ?_, ?_, ?_⟩
                      · simp
                      · exact set_off H0.out (by omega) _
                      · exact set_off H1.out (by omega) _
                      · rw [HM3.out]
                        have h2 := H2.out
                        rw [show E.o = Dl.o { E with f3 := ⟨0, E.f3.s⟩ } by rw [show (0 : Int) = E.f3.n by rw [hz.out]; rfl]] at h2
                        exact set_at h2 _ rfl
                      · exact hb.setCell (by simp; try omega) _
                    case measure => simp [intOf]
                · have q2 : ((e : Int) != 0) = true := by simpa using he
                  have HE2 := hid he
                  clear he
                  go_wp2_with fail
                  have hq := HQ.out; subst hq
                  exact bodyPost_ret (v := .tuple #[zD.v, .int .i64 0, .int .i64 e]) (by simp [results, Try.results69, go_sem, c0, zD, zF]) rfl ⟨fin3e (read_err (readS_fl (b := 3) HR.out hr.out (fieldR_1 HT.out HE2.out)) HE2.out (by omega)), below_set12 hb (by omega) _ _ _ _ _ _ _ _ _ _ _ _⟩
            · have hfit : ∀ k, (E.f k).s.size ≤ maxLen := fun k => by rw [HF.out]; have := (a3 k).1; unfold maxLen; omega
              cases hd : isD E
              · have Hd := hid hd
                clear hd
                go_wp2_with fail
                refine (refD_at Hd.out _ (by omega) hfit).mono ?_
                rintro x' w4 ⟨rfl, hb4⟩
                have N0 := hid (var_on hb4 H0.out l0)
                have N1 := hid (var_on hb4 H1.out l1)
                have N2 := hid (var_on hb4 H2.out l2)
                have hB4 := below_on hb hb4
                have k0 := cells_at N0.out
                have k1 := cells_at N1.out
                have k2 := cells_at N2.out
                clear hb4 hb H0 H1 H2 c0 c1 c2
                go_wp2_with fail
                have hq := HQ.out; subst hq
                exact bodyPost_ret (v := .tuple #[zD.v, .int .i64 0, .int .i64 11]) (by simp [results, Try.results69, go_sem, k0, zD, zF]) rfl ⟨fin3e (read_bad HR.out (by rw [← HE.out.1]; exact Hd.out)), below_set12 hB4 (by omega) _ _ _ _ _ _ _ _ _ _ _ _⟩
              · have Hd := hid hd
                clear hd
                go_wp2_with fail
                refine (refD_at Hd.out _ (by omega) hfit).mono ?_
                rintro x' w4 ⟨rfl, hb4⟩
                have N0 := hid (var_on hb4 H0.out l0)
                have N1 := hid (var_on hb4 H1.out l1)
                have N2 := hid (var_on hb4 H2.out l2)
                have hB4 := below_on hb hb4
                have k0 := cells_at N0.out
                have k1 := cells_at N1.out
                have k2 := cells_at N2.out
                clear hb4 hb H0 H1 H2 c0 c1 c2
                go_wp2_with fail
                have hdd : isD D = true := by rw [← HE.out.1]; exact Hd.out
                have hq := HQ.out; subst hq
                exact bodyPost_ret (v := .tuple #[E.v, .int .i64 z, .int .i64 0]) (by simp [results, Try.results69, go_sem, k0]) rfl ⟨by rw [HE.out.2 hdd]; exact fin3e (read_good HR.out hdd), below_set12 hB4 (by omega) _ _ _ _ _ _ _ _ _ _ _ _⟩
    · have q2 : ((e2 : Int) != 0) = true := by simpa using he2
      have xb : X ≤ 1000001 := by rw [← hX.out]; omega
      go_enter Try.func69, Try.ntmps69
      obtain ⟨Q, hQ⟩ : ∃ Q, bodyPost Try.prog Try.f69 (fun e w' => e = .returned (.tuple #[(read s.data.toList).1.v, .int .i64 (read s.data.toList).2.1, .int .i64 (read s.data.toList).2.2]) ∧ Below w.heap.size w w') = Q := ⟨_, rfl⟩
      rw [hQ]
      have HQ := hid hQ
      clear hQ
      go_wp2_with fail
      refine (number_ok (a := 0) (bound := 1000000) HG0 hX hs (by omega) (by omega) _ _ (by omega) (by omega)).mono ?_
      rintro x' w3 ⟨rfl, h3⟩
      rw [h3]
      clear h3 w3
      simp only [Int.zero_add]
      go_wp2_with fail
      refine (number_bad (bound := 31) HG2 he2 hs (by omega) (by omega) _ _ (by omega) (by omega)).mono ?_
      rintro x' w3 ⟨rfl, h3⟩
      rw [h3]
      clear h3 w3
      have HE2 := hid he2
      clear he2
      go_wp2_with fail
      have hq := HQ.out; subst hq
      exact bodyPost_ret (v := .tuple #[zD.v, .int .i64 0, .int .i64 e2]) (by simp [results, Try.results69, go_sem, zD, zF]) rfl ⟨fin3e (read_err (b := 0) (headR_1 (pairR_2 HG.out HG2.out HE2.out) HE2.out) HE2.out (by omega)), Go.Joins.below_alloc3 _ _ _ _⟩
  · have q1 : ((e1 : Int) != 0) = true := by simpa using he1
    go_enter Try.func69, Try.ntmps69
    obtain ⟨Q, hQ⟩ : ∃ Q, bodyPost Try.prog Try.f69 (fun e w' => e = .returned (.tuple #[(read s.data.toList).1.v, .int .i64 (read s.data.toList).2.1, .int .i64 (read s.data.toList).2.2]) ∧ Below w.heap.size w w') = Q := ⟨_, rfl⟩
    rw [hQ]
    have HQ := hid hQ
    clear hQ
    go_wp2_with fail
    refine (number_bad (a := 0) (bound := 1000000) HG0 he1 hs (by omega) (by omega) _ _ (by omega) (by omega)).mono ?_
    rintro x' w3 ⟨rfl, h3⟩
    rw [h3]
    clear h3 w3
    have HE1 := hid he1
    clear he1
    go_wp2_with fail
    have hq := HQ.out; subst hq
    exact bodyPost_ret (v := .tuple #[zD.v, .int .i64 0, .int .i64 e1]) (by simp [results, Try.results69, go_sem, zD, zF]) rfl ⟨fin3e (read_err (b := 0) (headR_1 (pairR_1 HG.out HE1.out) HE1.out) HE1.out (by omega)), Go.Joins.below_alloc3 _ _ _ _⟩
end Go.Proofs.Ytkklchobiiajgaa
