/- Contracts of told and Bytes, of the package fields and of the reference: a delta as bytes. -/
import Derived.Test.YtkklchobiiajgaaFldC
import Derived.Test.YtkklchobiiajgaaFldR
namespace Go.Proofs.Ytkklchobiiajgaa
open Go.RowKit
set_option linter.unusedVariables false
theorem calls_val {f : Nat} {args : Array Value} {w : World} {v v' : Value} (h : Calls Try.prog f args w fun e w' => e = .returned v ∧ Below w.heap.size w w') (hv : v = v') : Calls Try.prog f args w fun e w' => e = .returned v' ∧ Below w.heap.size w w' := by
  rw [← hv]; exact h
theorem put_int (z : Int) (h0 : 0 ≤ z) (h1 : z ≤ 1000000) (w : World) : Calls Try.prog 29 #[.int .u64 z] w fun e w' => e = .returned (.string ⟨(put z.toNat).toArray⟩) ∧ Below w.heap.size w w' := by
  obtain ⟨n, rfl⟩ := Int.eq_ofNat_of_zero_le h0
  exact put_any n (by omega) w
theorem refput_int (z : Int) (h0 : 0 ≤ z) (h1 : z ≤ 1000000) (w : World) : Calls Try.prog 31 #[.int .u64 z] w fun e w' => e = .returned (.string ⟨(put z.toNat).toArray⟩) ∧ Below w.heap.size w w' := by
  obtain ⟨n, rfl⟩ := Int.eq_ofNat_of_zero_le h0
  exact ref_put n (by omega) w
def fitF (f : Fl) : Prop := f.s.size ≤ 1000000 ∧ -9223372036854775808 ≤ f.n ∧ f.n ≤ 9223372036854775807
set_option maxHeartbeats 1000000 in
theorem fields_told (w : World) (f : Fl) (h : fitF f) : Calls Try.prog 71 #[f.v] w fun e w' => e = .returned (.string ⟨(told f).toArray⟩) ∧ Below w.heap.size w w' := by
  obtain ⟨h1, h2, h3⟩ := h
  have K0 : Hid ((w.alloc f.o).heap[w.heap.size]? = some f.o) := new_at _ _ _ rfl
  obtain ⟨T, hT⟩ : ∃ T, Hid (T = text f.s.data.toList) := ⟨_, rfl⟩
  have lT : T.length ≤ 1000010 := by
    rw [hT.out]; unfold text; have := (put_length f.s.data.toList.length).2; rw [List.length_append]; have e : f.s.data.toList.length ≤ 1000000 := h1; omega
  obtain ⟨I, hI⟩ : ∃ I, Hid (I = put (zig f.n)) := ⟨_, rfl⟩
  have lI : I.length ≤ 10 := by rw [hI.out]; exact (put_length _).2
  by_cases he : f.s.data.toList = []
  · have ht : told f = T ++ I := by unfold told; rw [if_pos he, hT.out, hI.out]
    have he' : f.s.toList = [] := by rw [ByteArray.toList_eq]; exact he
    have HT := hid ht
    clear ht he
    go_enter Try.func71, Try.ntmps71
    go_wp2_with fail
    refine (text_at hT (by omega) _).mono ?_
    rintro y w1 ⟨rfl, hb⟩
    have k1 := var_on hb K0.out (at_lt K0.out)
    have c1 := cells_at k1
    have l1 := at_lt k1
    have hB := below_on (below1 w f.o) hb
    clear k1 hb K0
    go_wp2_with fail
    refine (int_at hI h2 h3 _).mono ?_
    rintro y w2 ⟨rfl, hb⟩
    go_wp2_with fail
    go_ret
    rw [HT.out]
    exact ⟨congrArg (fun x => Ending.returned (.string x)) (ByteArray.mk_append_mk T I), below_on hB hb⟩
  · have ht : told f = T := by unfold told; rw [if_neg he, hT.out, List.append_nil]
    have he' : f.s.toList.isEmpty = false := by rw [ByteArray.toList_eq]; simpa using he
    have HT := hid ht
    clear ht he
    go_enter Try.func71, Try.ntmps71
    go_wp2_with fail
    refine (text_at hT (by omega) _).mono ?_
    rintro y w1 ⟨rfl, hb⟩
    have k1 := var_on hb K0.out (at_lt K0.out)
    have c1 := cells_at k1
    have l1 := at_lt k1
    have hB := below_on (below1 w f.o) hb
    clear k1 hb K0
    go_wp2_with fail
    go_ret
    rw [HT.out]
    exact ⟨rfl, hB⟩
theorem grown_cells {W : World} {g : Nat} {cs : Array Value} {t : TypeId} (h : W.heap[g]? = some (.cells cs t (0, 0))) : ∀ i d os, (Sort.grow (redrawn W d) os).cell? ⟨g, i, none⟩ = cs[i]? := fun i d os =>
  Go.Joins.cell_of_block (var_on (below_regrown W d os) h (at_lt h)) i
theorem app3 (A B C : List UInt8) : (⟨A.toArray⟩ : ByteArray) ++ (⟨B.toArray⟩ ++ ⟨C.toArray⟩) = ⟨(A ++ (B ++ C)).toArray⟩ := by rw [ByteArray.mk_append_mk, ByteArray.mk_append_mk]
theorem app3' (A B C : List UInt8) : (⟨A.toArray⟩ : ByteArray) ++ ⟨B.toArray⟩ ++ ⟨C.toArray⟩ = ⟨(A ++ (B ++ C)).toArray⟩ := by rw [ByteArray.mk_append_mk, ByteArray.mk_append_mk, List.append_assoc]
theorem bytes0 {d : Dl} {L0 L1 A : List UInt8} (h0 : put d.id.toNat = L0) (h1 : put (d.m : Int).toNat = L1) (hA : L0 ++ L1 = A) (hq : d.m.testBit 0 = false) : bytesK d 0 = A := by
  rw [bytesK, hq, h0, ← hA, ← h1]; simp
theorem bytes1 {d : Dl} {L0 L1 A X Y B : List UInt8} (h0 : put d.id.toNat = L0) (h1 : put (d.m : Int).toNat = L1) (hA : L0 ++ L1 = A) (hx : put d.x.toNat = X) (hy : put d.y.toNat = Y) (hB : A ++ (X ++ Y) = B) (hq : d.m.testBit 0 = true) : bytesK d 0 = B := by
  rw [bytesK, hq, h0, hx, hy, ← hB, ← hA, ← h1]; simp
theorem reftext_at {s : ByteArray} {L : List UInt8} (H : Hid (L = text s.data.toList)) (hs : s.size ≤ 281474976710656) (w : World) :
    Calls Try.prog 58 #[.string s] w fun e w' => e = .returned (.string ⟨L.toArray⟩) ∧ Below w.heap.size w w' := by
  rw [H.out]; exact ref_text s hs w
theorem refint_at {z : Int} {L : List UInt8} (H : Hid (L = put (zig z))) (h0 : -9223372036854775808 ≤ z) (h1 : z ≤ 9223372036854775807) (w : World) :
    Calls Try.prog 59 #[.int .i64 z] w fun e w' => e = .returned (.string ⟨L.toArray⟩) ∧ Below w.heap.size w w' := by
  rw [H.out]; exact ref_int z h0 h1 w
theorem told_at {f : Fl} {L : List UInt8} (H : Hid (told f = L)) (h : fitF f) (w : World) : Calls Try.prog 71 #[f.v] w fun e w' => e = .returned (.string ⟨L.toArray⟩) ∧ Below w.heap.size w w' := by
  rw [← H.out]; exact fields_told w f h
set_option maxHeartbeats 4000000 in
theorem fields_bytes (w : World) (d : Dl) (hD : isD d = true) (hf : ∀ k, fitF (d.f k)) : Calls Try.prog 57 #[d.v] w fun e w' => e = .returned (.tuple #[.string ⟨(bytesK d 4).toArray⟩, .int .i64 0]) ∧ Below w.heap.size w w' := by
  obtain ⟨d1, d2, d3, d4, d5, d6, d7, d8, d9, d10⟩ := isD_small hD
  have K0 : Hid ((w.alloc d.o).heap[w.heap.size]? = some d.o) := new_at _ _ _ rfl
  obtain ⟨L0, p0⟩ : ∃ L, Hid (put d.id.toNat = L) := ⟨_, rfl⟩
  obtain ⟨L1, p1⟩ : ∃ L, Hid (put (d.m : Int).toNat = L) := ⟨_, rfl⟩
  have n0 : L0.length ≤ 10 := by rw [← p0.out]; exact (put_length _).2
  have n1 : L1.length ≤ 10 := by rw [← p1.out]; exact (put_length _).2
  obtain ⟨q, hq⟩ : ∃ q, Hid (d.m.testBit 0 = q) := ⟨_, rfl⟩
  go_enter Try.func57, Try.ntmps57
  go_wp2_with fail
  refine (fields_isDelta _ d (by omega) (fun k => by have := d9 k; unfold maxLen; omega)).mono ?_
  rw [hD]
  rintro y w1 ⟨rfl, hb⟩
  have K1 := hid (var_on hb K0.out (at_lt K0.out))
  have c1 := cells_at K1.out
  have l1 := at_lt K1.out
  have hB := below_on (below1 w d.o) hb
  clear hb K0
  have g1 := grown_cells K1.out
  go_wp2_with fail
  refine wp_region_quiet_below (by kernel_rfl) (by kernel_rfl) ?_
  repeat (first | go_big_quiet_step (exact Calls.regrown_of (calls_val (put_int _ (by omega) (by omega) _) (by first | rw [p0.out] | rw [p1.out]))) | quiet_step (exact Calls.regrown_of (calls_val (put_int _ (by omega) (by omega) _) (by first | rw [p0.out] | rw [p1.out]))))
  refine wpQuiet_nil ?_
  intro _ hw'
  obtain ⟨⟨dq, osq⟩, hw''⟩ := hw'
  subst hw''
  clear g1 c1 l1
  obtain ⟨w2, hW⟩ : ∃ W, W = Sort.grow (redrawn w1 dq) osq := ⟨_, rfl⟩
  have hbb : Below w1.heap.size w1 w2 := by rw [hW]; exact below_regrown _ _ _
  rw [← hW]
  clear hW
  have K2 : Hid (w2.heap[w.heap.size]? = some d.o) := var_on hbb K1.out (at_lt K1.out)
  replace hB := below_on hB hbb
  clear hbb K1
  have c2 := cells_at K2.out
  have l2 := at_lt K2.out
  rw [ByteArray.mk_append_mk L0 L1]
  obtain ⟨A, hA⟩ : ∃ A, Hid (L0 ++ L1 = A) := ⟨_, rfl⟩
  have nA : A.length ≤ 20 := by rw [← hA.out, List.length_append]; omega
  rw [hA.out]
  cases q
  · go_wp2_with fail
    refine (has_at (k := 0) hq.out _ (by omega) (by omega)).mono ?_
    rintro x w3 ⟨rfl, h3⟩
    rw [h3]
    clear h3 w3
    go_wp2_with fail
    have b0 : Hid (bytesK d 0 = A) := bytes0 p0.out p1.out hA.out hq.out
    have KE := K2
    clear K2
    go_loopw [4, 37] (fun s i wr => ∃ (k : Nat) (L : List UInt8), k ≤ 4 ∧ i = .int .i64 k ∧ s = .string ⟨L.toArray⟩ ∧ bytesK d k = L ∧ wr.heap[w.heap.size]? = some d.o ∧ Below w.heap.size w wr) (fun _ i _ => 4 - (intOf i).toNat)
    case atStart => exact ⟨0, _, by omega, rfl, rfl, by rw [b0.out], KE.out, hB⟩
    case round =>
      clear hB KE
      try clear c1
      try clear c2
      obtain ⟨k, L, hk, rfl, rfl, hL, h0, hb⟩ := hrel
      have lL : L.length ≤ 200 := by rw [← hL]; have := bytesK_len d9 k; omega
      have HL := hid hL
      clear hL
      have c0 := cells_at h0
      have l0 := at_lt h0
      have H0 := hid h0
      clear h0
      obtain rfl | rfl | rfl | rfl | rfl : k = 0 ∨ k = 1 ∨ k = 2 ∨ k = 3 ∨ k = 4 := by omega
      · have hI := indexA_f0
        obtain ⟨r, hr⟩ : ∃ r, Hid (d.m.testBit 1 = r) := ⟨_, rfl⟩
        have f9 : d.f0.s.size ≤ 12 := d9 0
        obtain ⟨T, hT⟩ : ∃ T, Hid (told d.f0 = T) := ⟨_, rfl⟩
        have lT : T.length ≤ 32 := by rw [← hT.out]; exact told_len f9
        cases r
        · go_wp2_with fail
          refine (has_at (k := 1) hr.out _ (by omega) (by omega)).mono ?_
          rintro x w3 ⟨rfl, rfl⟩
          go_wp2_with fail
          first | go_roundw | refine ⟨?rel, ?measure⟩
          case rel => exact ⟨1, L, by omega, rfl, rfl, bytesK_same HL.out hr.out, old_at H0.out _, hb.alloc (by omega) _⟩
          case measure => simp [intOf]
        · go_wp2_with fail
          refine (has_at (k := 1) hr.out _ (by omega) (by omega)).mono ?_
          rintro x w3 ⟨rfl, rfl⟩
          go_wp2_with fail
          refine (told_at hT (hf 0) _).mono ?_
          rintro x w4 ⟨rfl, hb4⟩
          go_wp2_with fail
          first | go_roundw | refine ⟨?rel, ?measure⟩
          case rel => exact ⟨1, L ++ T, by omega, rfl, by rw [ByteArray.mk_append_mk], by rw [bytesK_next HL.out hr.out, ← hT.out]; rfl, var_on hb4 (old_at H0.out _) (at_lt (old_at H0.out _)), below_on (hb.alloc (by omega) _) hb4⟩
          case measure => simp [intOf]
      · have hI := indexA_f1
        obtain ⟨r, hr⟩ : ∃ r, Hid (d.m.testBit 2 = r) := ⟨_, rfl⟩
        have f9 : d.f1.s.size ≤ 12 := d9 1
        obtain ⟨T, hT⟩ : ∃ T, Hid (told d.f1 = T) := ⟨_, rfl⟩
        have lT : T.length ≤ 32 := by rw [← hT.out]; exact told_len f9
        cases r
        · go_wp2_with fail
          refine (has_at (k := 2) hr.out _ (by omega) (by omega)).mono ?_
          rintro x w3 ⟨rfl, rfl⟩
          go_wp2_with fail
          first | go_roundw | refine ⟨?rel, ?measure⟩
          case rel => exact ⟨2, L, by omega, rfl, rfl, bytesK_same HL.out hr.out, old_at H0.out _, hb.alloc (by omega) _⟩
          case measure => simp [intOf]
        · go_wp2_with fail
          refine (has_at (k := 2) hr.out _ (by omega) (by omega)).mono ?_
          rintro x w3 ⟨rfl, rfl⟩
          go_wp2_with fail
          refine (told_at hT (hf 1) _).mono ?_
          rintro x w4 ⟨rfl, hb4⟩
          go_wp2_with fail
          first | go_roundw | refine ⟨?rel, ?measure⟩
          case rel => exact ⟨2, L ++ T, by omega, rfl, by rw [ByteArray.mk_append_mk], by rw [bytesK_next HL.out hr.out, ← hT.out]; rfl, var_on hb4 (old_at H0.out _) (at_lt (old_at H0.out _)), below_on (hb.alloc (by omega) _) hb4⟩
          case measure => simp [intOf]
      · have hI := indexA_f2
        obtain ⟨r, hr⟩ : ∃ r, Hid (d.m.testBit 3 = r) := ⟨_, rfl⟩
        have f9 : d.f2.s.size ≤ 12 := d9 2
        obtain ⟨T, hT⟩ : ∃ T, Hid (told d.f2 = T) := ⟨_, rfl⟩
        have lT : T.length ≤ 32 := by rw [← hT.out]; exact told_len f9
        cases r
        · go_wp2_with fail
          refine (has_at (k := 3) hr.out _ (by omega) (by omega)).mono ?_
          rintro x w3 ⟨rfl, rfl⟩
          go_wp2_with fail
          first | go_roundw | refine ⟨?rel, ?measure⟩
          case rel => exact ⟨3, L, by omega, rfl, rfl, bytesK_same HL.out hr.out, old_at H0.out _, hb.alloc (by omega) _⟩
          case measure => simp [intOf]
        · go_wp2_with fail
          refine (has_at (k := 3) hr.out _ (by omega) (by omega)).mono ?_
          rintro x w3 ⟨rfl, rfl⟩
          go_wp2_with fail
          refine (told_at hT (hf 2) _).mono ?_
          rintro x w4 ⟨rfl, hb4⟩
          go_wp2_with fail
          first | go_roundw | refine ⟨?rel, ?measure⟩
          case rel => exact ⟨3, L ++ T, by omega, rfl, by rw [ByteArray.mk_append_mk], by rw [bytesK_next HL.out hr.out, ← hT.out]; rfl, var_on hb4 (old_at H0.out _) (at_lt (old_at H0.out _)), below_on (hb.alloc (by omega) _) hb4⟩
          case measure => simp [intOf]
      · have hI := indexA_f3
        obtain ⟨r, hr⟩ : ∃ r, Hid (d.m.testBit 4 = r) := ⟨_, rfl⟩
        have f9 : d.f3.s.size ≤ 12 := d9 3
        obtain ⟨T, hT⟩ : ∃ T, Hid (told d.f3 = T) := ⟨_, rfl⟩
        have lT : T.length ≤ 32 := by rw [← hT.out]; exact told_len f9
        cases r
        · go_wp2_with fail
          refine (has_at (k := 4) hr.out _ (by omega) (by omega)).mono ?_
          rintro x w3 ⟨rfl, rfl⟩
          go_wp2_with fail
          first | go_roundw | refine ⟨?rel, ?measure⟩
          case rel => exact ⟨4, L, by omega, rfl, rfl, bytesK_same HL.out hr.out, old_at H0.out _, hb.alloc (by omega) _⟩
          case measure => simp [intOf]
        · go_wp2_with fail
          refine (has_at (k := 4) hr.out _ (by omega) (by omega)).mono ?_
          rintro x w3 ⟨rfl, rfl⟩
          go_wp2_with fail
          refine (told_at hT (hf 3) _).mono ?_
          rintro x w4 ⟨rfl, hb4⟩
          go_wp2_with fail
          first | go_roundw | refine ⟨?rel, ?measure⟩
          case rel => exact ⟨4, L ++ T, by omega, rfl, by rw [ByteArray.mk_append_mk], by rw [bytesK_next HL.out hr.out, ← hT.out]; rfl, var_on hb4 (old_at H0.out _) (at_lt (old_at H0.out _)), below_on (hb.alloc (by omega) _) hb4⟩
          case measure => simp [intOf]
      · go_wp2_with fail
        go_ret2
        exact ⟨by rw [HL.out]; rfl, hb⟩
  · go_wp2_with fail
    refine (has_at (k := 0) hq.out _ (by omega) (by omega)).mono ?_
    rintro x w3 ⟨rfl, h3⟩
    rw [h3]
    clear h3 w3
    go_wp2_with fail
    obtain ⟨X0, px⟩ : ∃ L, Hid (put d.x.toNat = L) := ⟨_, rfl⟩
    obtain ⟨Y0, py⟩ : ∃ L, Hid (put d.y.toNat = L) := ⟨_, rfl⟩
    have nx : X0.length ≤ 10 := by rw [← px.out]; exact (put_length _).2
    have ny : Y0.length ≤ 10 := by rw [← py.out]; exact (put_length _).2
    have g2 := grown_cells K2.out
    refine wp_region_quiet_below (by kernel_rfl) (by kernel_rfl) ?_
    repeat (first | go_big_quiet_step (exact Calls.regrown_of (calls_val (put_int _ (by omega) (by omega) _) (by first | rw [px.out] | rw [py.out]))) | quiet_step (exact Calls.regrown_of (calls_val (put_int _ (by omega) (by omega) _) (by first | rw [px.out] | rw [py.out]))))
    refine wpQuiet_nil ?_
    intro _ hw'
    obtain ⟨⟨dq, osq⟩, hw''⟩ := hw'
    subst hw''
    clear g2 c2 l2
    obtain ⟨w3, hW⟩ : ∃ W, W = Sort.grow (redrawn w2 dq) osq := ⟨_, rfl⟩
    have hbb : Below w2.heap.size w2 w3 := by rw [hW]; exact below_regrown _ _ _
    rw [← hW]
    clear hW
    have K3 : Hid (w3.heap[w.heap.size]? = some d.o) := var_on hbb K2.out (at_lt K2.out)
    replace hB := below_on hB hbb
    clear hbb K2
    have c2 := cells_at K3.out
    rw [app3 A X0 Y0]
    obtain ⟨B, hB'⟩ : ∃ B, Hid (A ++ (X0 ++ Y0) = B) := ⟨_, rfl⟩
    rw [hB'.out]
    have b0 : Hid (bytesK d 0 = B) := bytes1 p0.out p1.out hA.out px.out py.out hB'.out hq.out
    have KE := K3
    clear K3
    go_wp2_with fail
    go_loopw [4, 37] (fun s i wr => ∃ (k : Nat) (L : List UInt8), k ≤ 4 ∧ i = .int .i64 k ∧ s = .string ⟨L.toArray⟩ ∧ bytesK d k = L ∧ wr.heap[w.heap.size]? = some d.o ∧ Below w.heap.size w wr) (fun _ i _ => 4 - (intOf i).toNat)
    case atStart => exact ⟨0, _, by omega, rfl, rfl, by rw [b0.out], KE.out, hB⟩
    case round =>
      clear hB KE
      try clear c1
      try clear c2
      obtain ⟨k, L, hk, rfl, rfl, hL, h0, hb⟩ := hrel
      have lL : L.length ≤ 200 := by rw [← hL]; have := bytesK_len d9 k; omega
      have HL := hid hL
      clear hL
      have c0 := cells_at h0
      have l0 := at_lt h0
      have H0 := hid h0
      clear h0
      obtain rfl | rfl | rfl | rfl | rfl : k = 0 ∨ k = 1 ∨ k = 2 ∨ k = 3 ∨ k = 4 := by omega
      · have hI := indexA_f0
        obtain ⟨r, hr⟩ : ∃ r, Hid (d.m.testBit 1 = r) := ⟨_, rfl⟩
        have f9 : d.f0.s.size ≤ 12 := d9 0
        obtain ⟨T, hT⟩ : ∃ T, Hid (told d.f0 = T) := ⟨_, rfl⟩
        have lT : T.length ≤ 32 := by rw [← hT.out]; exact told_len f9
        cases r
        · go_wp2_with fail
          refine (has_at (k := 1) hr.out _ (by omega) (by omega)).mono ?_
          rintro x w3 ⟨rfl, rfl⟩
          go_wp2_with fail
          first | go_roundw | refine ⟨?rel, ?measure⟩
          case rel => exact ⟨1, L, by omega, rfl, rfl, bytesK_same HL.out hr.out, old_at H0.out _, hb.alloc (by omega) _⟩
          case measure => simp [intOf]
        · go_wp2_with fail
          refine (has_at (k := 1) hr.out _ (by omega) (by omega)).mono ?_
          rintro x w3 ⟨rfl, rfl⟩
          go_wp2_with fail
          refine (told_at hT (hf 0) _).mono ?_
          rintro x w4 ⟨rfl, hb4⟩
          go_wp2_with fail
          first | go_roundw | refine ⟨?rel, ?measure⟩
          case rel => exact ⟨1, L ++ T, by omega, rfl, by rw [ByteArray.mk_append_mk], by rw [bytesK_next HL.out hr.out, ← hT.out]; rfl, var_on hb4 (old_at H0.out _) (at_lt (old_at H0.out _)), below_on (hb.alloc (by omega) _) hb4⟩
          case measure => simp [intOf]
      · have hI := indexA_f1
        obtain ⟨r, hr⟩ : ∃ r, Hid (d.m.testBit 2 = r) := ⟨_, rfl⟩
        have f9 : d.f1.s.size ≤ 12 := d9 1
        obtain ⟨T, hT⟩ : ∃ T, Hid (told d.f1 = T) := ⟨_, rfl⟩
        have lT : T.length ≤ 32 := by rw [← hT.out]; exact told_len f9
        cases r
        · go_wp2_with fail
          refine (has_at (k := 2) hr.out _ (by omega) (by omega)).mono ?_
          rintro x w3 ⟨rfl, rfl⟩
          go_wp2_with fail
          first | go_roundw | refine ⟨?rel, ?measure⟩
          case rel => exact ⟨2, L, by omega, rfl, rfl, bytesK_same HL.out hr.out, old_at H0.out _, hb.alloc (by omega) _⟩
          case measure => simp [intOf]
        · go_wp2_with fail
          refine (has_at (k := 2) hr.out _ (by omega) (by omega)).mono ?_
          rintro x w3 ⟨rfl, rfl⟩
          go_wp2_with fail
          refine (told_at hT (hf 1) _).mono ?_
          rintro x w4 ⟨rfl, hb4⟩
          go_wp2_with fail
          first | go_roundw | refine ⟨?rel, ?measure⟩
          case rel => exact ⟨2, L ++ T, by omega, rfl, by rw [ByteArray.mk_append_mk], by rw [bytesK_next HL.out hr.out, ← hT.out]; rfl, var_on hb4 (old_at H0.out _) (at_lt (old_at H0.out _)), below_on (hb.alloc (by omega) _) hb4⟩
          case measure => simp [intOf]
      · have hI := indexA_f2
        obtain ⟨r, hr⟩ : ∃ r, Hid (d.m.testBit 3 = r) := ⟨_, rfl⟩
        have f9 : d.f2.s.size ≤ 12 := d9 2
        obtain ⟨T, hT⟩ : ∃ T, Hid (told d.f2 = T) := ⟨_, rfl⟩
        have lT : T.length ≤ 32 := by rw [← hT.out]; exact told_len f9
        cases r
        · go_wp2_with fail
          refine (has_at (k := 3) hr.out _ (by omega) (by omega)).mono ?_
          rintro x w3 ⟨rfl, rfl⟩
          go_wp2_with fail
          first | go_roundw | refine ⟨?rel, ?measure⟩
          case rel => exact ⟨3, L, by omega, rfl, rfl, bytesK_same HL.out hr.out, old_at H0.out _, hb.alloc (by omega) _⟩
          case measure => simp [intOf]
        · go_wp2_with fail
          refine (has_at (k := 3) hr.out _ (by omega) (by omega)).mono ?_
          rintro x w3 ⟨rfl, rfl⟩
          go_wp2_with fail
          refine (told_at hT (hf 2) _).mono ?_
          rintro x w4 ⟨rfl, hb4⟩
          go_wp2_with fail
          first | go_roundw | refine ⟨?rel, ?measure⟩
          case rel => exact ⟨3, L ++ T, by omega, rfl, by rw [ByteArray.mk_append_mk], by rw [bytesK_next HL.out hr.out, ← hT.out]; rfl, var_on hb4 (old_at H0.out _) (at_lt (old_at H0.out _)), below_on (hb.alloc (by omega) _) hb4⟩
          case measure => simp [intOf]
      · have hI := indexA_f3
        obtain ⟨r, hr⟩ : ∃ r, Hid (d.m.testBit 4 = r) := ⟨_, rfl⟩
        have f9 : d.f3.s.size ≤ 12 := d9 3
        obtain ⟨T, hT⟩ : ∃ T, Hid (told d.f3 = T) := ⟨_, rfl⟩
        have lT : T.length ≤ 32 := by rw [← hT.out]; exact told_len f9
        cases r
        · go_wp2_with fail
          refine (has_at (k := 4) hr.out _ (by omega) (by omega)).mono ?_
          rintro x w3 ⟨rfl, rfl⟩
          go_wp2_with fail
          first | go_roundw | refine ⟨?rel, ?measure⟩
          case rel => exact ⟨4, L, by omega, rfl, rfl, bytesK_same HL.out hr.out, old_at H0.out _, hb.alloc (by omega) _⟩
          case measure => simp [intOf]
        · go_wp2_with fail
          refine (has_at (k := 4) hr.out _ (by omega) (by omega)).mono ?_
          rintro x w3 ⟨rfl, rfl⟩
          go_wp2_with fail
          refine (told_at hT (hf 3) _).mono ?_
          rintro x w4 ⟨rfl, hb4⟩
          go_wp2_with fail
          first | go_roundw | refine ⟨?rel, ?measure⟩
          case rel => exact ⟨4, L ++ T, by omega, rfl, by rw [ByteArray.mk_append_mk], by rw [bytesK_next HL.out hr.out, ← hT.out]; rfl, var_on hb4 (old_at H0.out _) (at_lt (old_at H0.out _)), below_on (hb.alloc (by omega) _) hb4⟩
          case measure => simp [intOf]
      · go_wp2_with fail
        go_ret2
        exact ⟨by rw [HL.out]; rfl, hb⟩
set_option maxHeartbeats 4000000 in
theorem ref_bytes (w : World) (d : Dl) (hD : isD d = true) (hf : ∀ k, fitF (d.f k)) : Calls Try.prog 32 #[d.v] w fun e w' => e = .returned (.string ⟨(bytesK d 4).toArray⟩) ∧ Below w.heap.size w w' := by
  obtain ⟨d1, d2, d3, d4, d5, d6, d7, d8, d9, d10⟩ := isD_small hD
  have K0 : Hid ((w.alloc d.o).heap[w.heap.size]? = some d.o) := new_at _ _ _ rfl
  obtain ⟨L0, p0⟩ : ∃ L, Hid (put d.id.toNat = L) := ⟨_, rfl⟩
  obtain ⟨L1, p1⟩ : ∃ L, Hid (put (d.m : Int).toNat = L) := ⟨_, rfl⟩
  have n0 : L0.length ≤ 10 := by rw [← p0.out]; exact (put_length _).2
  have n1 : L1.length ≤ 10 := by rw [← p1.out]; exact (put_length _).2
  obtain ⟨q, hq⟩ : ∃ q, Hid (d.m.testBit 0 = q) := ⟨_, rfl⟩
  have hbq : (bits .and .u8 (d.m : Int) 1 != 0) = q := by rw [← hq.out]; have := bit_ne d.m 0 (by omega); simpa using this
  go_enter Try.func32, Try.ntmps32
  go_wp2_with fail
  obtain ⟨w1, hw1⟩ : ∃ w1, w1 = w.alloc d.o := ⟨_, rfl⟩
  have hB : Below w.heap.size w w1 := by rw [hw1]; exact below1 w d.o
  have K1 := hid (show w1.heap[w.heap.size]? = some d.o by rw [hw1]; exact K0.out)
  have c1 := cells_at K1.out
  have l1 := at_lt K1.out
  rw [← hw1]
  clear hw1 K0
  have g1 := grown_cells K1.out
  refine wp_region_quiet_below (by kernel_rfl) (by kernel_rfl) ?_
  repeat (first | go_big_quiet_step (exact Calls.regrown_of (calls_val (refput_int _ (by omega) (by omega) _) (by first | rw [p0.out] | rw [p1.out]))) | quiet_step (exact Calls.regrown_of (calls_val (refput_int _ (by omega) (by omega) _) (by first | rw [p0.out] | rw [p1.out]))))
  refine wpQuiet_nil ?_
  intro _ hw'
  obtain ⟨⟨dq, osq⟩, hw''⟩ := hw'
  subst hw''
  clear g1 c1 l1
  obtain ⟨w2, hW⟩ : ∃ W, W = Sort.grow (redrawn w1 dq) osq := ⟨_, rfl⟩
  have hbb : Below w1.heap.size w1 w2 := by rw [hW]; exact below_regrown _ _ _
  rw [← hW]
  clear hW
  have K2 : Hid (w2.heap[w.heap.size]? = some d.o) := var_on hbb K1.out (at_lt K1.out)
  replace hB := below_on hB hbb
  clear hbb K1
  have c2 := cells_at K2.out
  have l2 := at_lt K2.out
  rw [ByteArray.mk_append_mk L0 L1]
  obtain ⟨A, hA⟩ : ∃ A, Hid (L0 ++ L1 = A) := ⟨_, rfl⟩
  have nA : A.length ≤ 20 := by rw [← hA.out, List.length_append]; omega
  rw [hA.out]
  cases q
  · go_wp2_with fail
    have b0 : Hid (bytesK d 0 = A) := bytes0 p0.out p1.out hA.out hq.out
    have KE := K2
    clear K2
    go_loopw [3, 4] (fun s i wr => ∃ (k : Nat) (L : List UInt8), k ≤ 4 ∧ i = .int .i64 k ∧ s = .string ⟨L.toArray⟩ ∧ bytesK d k = L ∧ wr.heap[w.heap.size]? = some d.o ∧ Below w.heap.size w wr) (fun _ i _ => 4 - (intOf i).toNat)
    case atStart => exact ⟨0, _, by omega, rfl, rfl, by rw [b0.out], KE.out, hB⟩
    case round =>
      clear hB KE
      try clear c1
      try clear c2
      obtain ⟨k, L, hk, rfl, rfl, hL, h0, hb⟩ := hrel
      have lL : L.length ≤ 200 := by rw [← hL]; have := bytesK_len d9 k; omega
      have HL := hid hL
      clear hL
      have c0 := cells_at h0
      have l0 := at_lt h0
      have H0 := hid h0
      clear h0
      obtain rfl | rfl | rfl | rfl | rfl : k = 0 ∨ k = 1 ∨ k = 2 ∨ k = 3 ∨ k = 4 := by omega
      · have hI := indexA_f0
        obtain ⟨r, hr⟩ : ∃ r, Hid (d.m.testBit 1 = r) := ⟨_, rfl⟩
        have f9 : d.f0.s.size ≤ 12 := d9 0
        have hbt : (bits .and .u8 ((d.m : Int) / 2) 1 != 0) = r := by rw [← hr.out]; exact bit_ne d.m 1 (by omega)
        obtain ⟨X, hX⟩ : ∃ X, Hid (X = text d.f0.s.data.toList) := ⟨_, rfl⟩
        have lX : X.length ≤ 22 := by rw [hX.out]; unfold text; have := (put_length d.f0.s.data.toList.length).2; rw [List.length_append]; have e : d.f0.s.data.toList.length ≤ 12 := f9; omega
        obtain ⟨Y, hY⟩ : ∃ Y, Hid (Y = put (zig d.f0.n)) := ⟨_, rfl⟩
        have lY : Y.length ≤ 10 := by rw [hY.out]; exact (put_length _).2
        cases r
        · go_wp2_with fail
          first | go_roundw | refine ⟨?rel, ?measure⟩
          case rel => exact ⟨1, L, by omega, rfl, rfl, bytesK_same HL.out hr.out, H0.out, hb⟩
          case measure => simp [intOf]
        · by_cases he : d.f0.s.data.toList = []
          · have he' : d.f0.s.toList = [] := by rw [ByteArray.toList_eq]; exact he
            have ht : told d.f0 = X ++ Y := by unfold told; rw [if_pos he, hX.out, hY.out]
            have HT := hid ht
            clear ht he
            go_wp2_with fail
            refine (reftext_at hX (by omega) _).mono ?_
            rintro x w3 ⟨rfl, hb3⟩
            have K3 := hid (var_on hb3 H0.out (at_lt H0.out))
            have c3 := cells_at K3.out
            have l3 := at_lt K3.out
            have hB3 := below_on hb hb3
            clear hb3 hb H0 c0
            go_wp2_with fail
            refine (refint_at hY (hf 0).2.1 (hf 0).2.2 _).mono ?_
            rintro x w4 ⟨rfl, hb4⟩
            go_wp2_with fail
            first | go_roundw | refine ⟨?rel, ?measure⟩
            case rel => exact ⟨1, L ++ (X ++ Y), by omega, rfl, by rw [app3'], by rw [bytesK_next HL.out hr.out, ← HT.out]; rfl, var_on hb4 K3.out l3, below_on hB3 hb4⟩
            case measure => simp [intOf]
          · have he' : d.f0.s.toList.isEmpty = false := by rw [ByteArray.toList_eq]; simpa using he
            have ht : told d.f0 = X := by unfold told; rw [if_neg he, hX.out, List.append_nil]
            have HT := hid ht
            clear ht he
            go_wp2_with fail
            refine (reftext_at hX (by omega) _).mono ?_
            rintro x w3 ⟨rfl, hb3⟩
            have K3 := hid (var_on hb3 H0.out (at_lt H0.out))
            have c3 := cells_at K3.out
            have l3 := at_lt K3.out
            have hB3 := below_on hb hb3
            clear hb3 hb H0 c0
            go_wp2_with fail
            first | go_roundw | refine ⟨?rel, ?measure⟩
            case rel => exact ⟨1, L ++ X, by omega, rfl, by rw [ByteArray.mk_append_mk], by rw [bytesK_next HL.out hr.out, ← HT.out]; rfl, K3.out, hB3⟩
            case measure => simp [intOf]
      · have hI := indexA_f1
        obtain ⟨r, hr⟩ : ∃ r, Hid (d.m.testBit 2 = r) := ⟨_, rfl⟩
        have f9 : d.f1.s.size ≤ 12 := d9 1
        have hbt : (bits .and .u8 ((d.m : Int) / 4) 1 != 0) = r := by rw [← hr.out]; exact bit_ne d.m 2 (by omega)
        obtain ⟨X, hX⟩ : ∃ X, Hid (X = text d.f1.s.data.toList) := ⟨_, rfl⟩
        have lX : X.length ≤ 22 := by rw [hX.out]; unfold text; have := (put_length d.f1.s.data.toList.length).2; rw [List.length_append]; have e : d.f1.s.data.toList.length ≤ 12 := f9; omega
        obtain ⟨Y, hY⟩ : ∃ Y, Hid (Y = put (zig d.f1.n)) := ⟨_, rfl⟩
        have lY : Y.length ≤ 10 := by rw [hY.out]; exact (put_length _).2
        cases r
        · go_wp2_with fail
          first | go_roundw | refine ⟨?rel, ?measure⟩
          case rel => exact ⟨2, L, by omega, rfl, rfl, bytesK_same HL.out hr.out, H0.out, hb⟩
          case measure => simp [intOf]
        · by_cases he : d.f1.s.data.toList = []
          · have he' : d.f1.s.toList = [] := by rw [ByteArray.toList_eq]; exact he
            have ht : told d.f1 = X ++ Y := by unfold told; rw [if_pos he, hX.out, hY.out]
            have HT := hid ht
            clear ht he
            go_wp2_with fail
            refine (reftext_at hX (by omega) _).mono ?_
            rintro x w3 ⟨rfl, hb3⟩
            have K3 := hid (var_on hb3 H0.out (at_lt H0.out))
            have c3 := cells_at K3.out
            have l3 := at_lt K3.out
            have hB3 := below_on hb hb3
            clear hb3 hb H0 c0
            go_wp2_with fail
            refine (refint_at hY (hf 1).2.1 (hf 1).2.2 _).mono ?_
            rintro x w4 ⟨rfl, hb4⟩
            go_wp2_with fail
            first | go_roundw | refine ⟨?rel, ?measure⟩
            case rel => exact ⟨2, L ++ (X ++ Y), by omega, rfl, by rw [app3'], by rw [bytesK_next HL.out hr.out, ← HT.out]; rfl, var_on hb4 K3.out l3, below_on hB3 hb4⟩
            case measure => simp [intOf]
          · have he' : d.f1.s.toList.isEmpty = false := by rw [ByteArray.toList_eq]; simpa using he
            have ht : told d.f1 = X := by unfold told; rw [if_neg he, hX.out, List.append_nil]
            have HT := hid ht
            clear ht he
            go_wp2_with fail
            refine (reftext_at hX (by omega) _).mono ?_
            rintro x w3 ⟨rfl, hb3⟩
            have K3 := hid (var_on hb3 H0.out (at_lt H0.out))
            have c3 := cells_at K3.out
            have l3 := at_lt K3.out
            have hB3 := below_on hb hb3
            clear hb3 hb H0 c0
            go_wp2_with fail
            first | go_roundw | refine ⟨?rel, ?measure⟩
            case rel => exact ⟨2, L ++ X, by omega, rfl, by rw [ByteArray.mk_append_mk], by rw [bytesK_next HL.out hr.out, ← HT.out]; rfl, K3.out, hB3⟩
            case measure => simp [intOf]
      · have hI := indexA_f2
        obtain ⟨r, hr⟩ : ∃ r, Hid (d.m.testBit 3 = r) := ⟨_, rfl⟩
        have f9 : d.f2.s.size ≤ 12 := d9 2
        have hbt : (bits .and .u8 ((d.m : Int) / 8) 1 != 0) = r := by rw [← hr.out]; exact bit_ne d.m 3 (by omega)
        obtain ⟨X, hX⟩ : ∃ X, Hid (X = text d.f2.s.data.toList) := ⟨_, rfl⟩
        have lX : X.length ≤ 22 := by rw [hX.out]; unfold text; have := (put_length d.f2.s.data.toList.length).2; rw [List.length_append]; have e : d.f2.s.data.toList.length ≤ 12 := f9; omega
        obtain ⟨Y, hY⟩ : ∃ Y, Hid (Y = put (zig d.f2.n)) := ⟨_, rfl⟩
        have lY : Y.length ≤ 10 := by rw [hY.out]; exact (put_length _).2
        cases r
        · go_wp2_with fail
          first | go_roundw | refine ⟨?rel, ?measure⟩
          case rel => exact ⟨3, L, by omega, rfl, rfl, bytesK_same HL.out hr.out, H0.out, hb⟩
          case measure => simp [intOf]
        · by_cases he : d.f2.s.data.toList = []
          · have he' : d.f2.s.toList = [] := by rw [ByteArray.toList_eq]; exact he
            have ht : told d.f2 = X ++ Y := by unfold told; rw [if_pos he, hX.out, hY.out]
            have HT := hid ht
            clear ht he
            go_wp2_with fail
            refine (reftext_at hX (by omega) _).mono ?_
            rintro x w3 ⟨rfl, hb3⟩
            have K3 := hid (var_on hb3 H0.out (at_lt H0.out))
            have c3 := cells_at K3.out
            have l3 := at_lt K3.out
            have hB3 := below_on hb hb3
            clear hb3 hb H0 c0
            go_wp2_with fail
            refine (refint_at hY (hf 2).2.1 (hf 2).2.2 _).mono ?_
            rintro x w4 ⟨rfl, hb4⟩
            go_wp2_with fail
            first | go_roundw | refine ⟨?rel, ?measure⟩
            case rel => exact ⟨3, L ++ (X ++ Y), by omega, rfl, by rw [app3'], by rw [bytesK_next HL.out hr.out, ← HT.out]; rfl, var_on hb4 K3.out l3, below_on hB3 hb4⟩
            case measure => simp [intOf]
          · have he' : d.f2.s.toList.isEmpty = false := by rw [ByteArray.toList_eq]; simpa using he
            have ht : told d.f2 = X := by unfold told; rw [if_neg he, hX.out, List.append_nil]
            have HT := hid ht
            clear ht he
            go_wp2_with fail
            refine (reftext_at hX (by omega) _).mono ?_
            rintro x w3 ⟨rfl, hb3⟩
            have K3 := hid (var_on hb3 H0.out (at_lt H0.out))
            have c3 := cells_at K3.out
            have l3 := at_lt K3.out
            have hB3 := below_on hb hb3
            clear hb3 hb H0 c0
            go_wp2_with fail
            first | go_roundw | refine ⟨?rel, ?measure⟩
            case rel => exact ⟨3, L ++ X, by omega, rfl, by rw [ByteArray.mk_append_mk], by rw [bytesK_next HL.out hr.out, ← HT.out]; rfl, K3.out, hB3⟩
            case measure => simp [intOf]
      · have hI := indexA_f3
        obtain ⟨r, hr⟩ : ∃ r, Hid (d.m.testBit 4 = r) := ⟨_, rfl⟩
        have f9 : d.f3.s.size ≤ 12 := d9 3
        have hbt : (bits .and .u8 ((d.m : Int) / 16) 1 != 0) = r := by rw [← hr.out]; exact bit_ne d.m 4 (by omega)
        obtain ⟨X, hX⟩ : ∃ X, Hid (X = text d.f3.s.data.toList) := ⟨_, rfl⟩
        have lX : X.length ≤ 22 := by rw [hX.out]; unfold text; have := (put_length d.f3.s.data.toList.length).2; rw [List.length_append]; have e : d.f3.s.data.toList.length ≤ 12 := f9; omega
        obtain ⟨Y, hY⟩ : ∃ Y, Hid (Y = put (zig d.f3.n)) := ⟨_, rfl⟩
        have lY : Y.length ≤ 10 := by rw [hY.out]; exact (put_length _).2
        cases r
        · go_wp2_with fail
          first | go_roundw | refine ⟨?rel, ?measure⟩
          case rel => exact ⟨4, L, by omega, rfl, rfl, bytesK_same HL.out hr.out, H0.out, hb⟩
          case measure => simp [intOf]
        · by_cases he : d.f3.s.data.toList = []
          · have he' : d.f3.s.toList = [] := by rw [ByteArray.toList_eq]; exact he
            have ht : told d.f3 = X ++ Y := by unfold told; rw [if_pos he, hX.out, hY.out]
            have HT := hid ht
            clear ht he
            go_wp2_with fail
            refine (reftext_at hX (by omega) _).mono ?_
            rintro x w3 ⟨rfl, hb3⟩
            have K3 := hid (var_on hb3 H0.out (at_lt H0.out))
            have c3 := cells_at K3.out
            have l3 := at_lt K3.out
            have hB3 := below_on hb hb3
            clear hb3 hb H0 c0
            go_wp2_with fail
            refine (refint_at hY (hf 3).2.1 (hf 3).2.2 _).mono ?_
            rintro x w4 ⟨rfl, hb4⟩
            go_wp2_with fail
            first | go_roundw | refine ⟨?rel, ?measure⟩
            case rel => exact ⟨4, L ++ (X ++ Y), by omega, rfl, by rw [app3'], by rw [bytesK_next HL.out hr.out, ← HT.out]; rfl, var_on hb4 K3.out l3, below_on hB3 hb4⟩
            case measure => simp [intOf]
          · have he' : d.f3.s.toList.isEmpty = false := by rw [ByteArray.toList_eq]; simpa using he
            have ht : told d.f3 = X := by unfold told; rw [if_neg he, hX.out, List.append_nil]
            have HT := hid ht
            clear ht he
            go_wp2_with fail
            refine (reftext_at hX (by omega) _).mono ?_
            rintro x w3 ⟨rfl, hb3⟩
            have K3 := hid (var_on hb3 H0.out (at_lt H0.out))
            have c3 := cells_at K3.out
            have l3 := at_lt K3.out
            have hB3 := below_on hb hb3
            clear hb3 hb H0 c0
            go_wp2_with fail
            first | go_roundw | refine ⟨?rel, ?measure⟩
            case rel => exact ⟨4, L ++ X, by omega, rfl, by rw [ByteArray.mk_append_mk], by rw [bytesK_next HL.out hr.out, ← HT.out]; rfl, K3.out, hB3⟩
            case measure => simp [intOf]
      · go_wp2_with fail
        go_ret
        exact ⟨by rw [HL.out]; rfl, hb⟩
  · go_wp2_with fail
    obtain ⟨X0, px⟩ : ∃ L, Hid (put d.x.toNat = L) := ⟨_, rfl⟩
    obtain ⟨Y0, py⟩ : ∃ L, Hid (put d.y.toNat = L) := ⟨_, rfl⟩
    have nx : X0.length ≤ 10 := by rw [← px.out]; exact (put_length _).2
    have ny : Y0.length ≤ 10 := by rw [← py.out]; exact (put_length _).2
    have g2 := grown_cells K2.out
    refine wp_region_quiet_below (by kernel_rfl) (by kernel_rfl) ?_
    repeat (first | go_big_quiet_step (exact Calls.regrown_of (calls_val (refput_int _ (by omega) (by omega) _) (by first | rw [px.out] | rw [py.out]))) | quiet_step (exact Calls.regrown_of (calls_val (refput_int _ (by omega) (by omega) _) (by first | rw [px.out] | rw [py.out]))))
    refine wpQuiet_nil ?_
    intro _ hw'
    obtain ⟨⟨dq, osq⟩, hw''⟩ := hw'
    subst hw''
    clear g2 c2 l2
    obtain ⟨w3, hW⟩ : ∃ W, W = Sort.grow (redrawn w2 dq) osq := ⟨_, rfl⟩
    have hbb : Below w2.heap.size w2 w3 := by rw [hW]; exact below_regrown _ _ _
    rw [← hW]
    clear hW
    have K3 : Hid (w3.heap[w.heap.size]? = some d.o) := var_on hbb K2.out (at_lt K2.out)
    replace hB := below_on hB hbb
    clear hbb K2
    have c2 := cells_at K3.out
    rw [app3' A X0 Y0]
    obtain ⟨B, hB'⟩ : ∃ B, Hid (A ++ (X0 ++ Y0) = B) := ⟨_, rfl⟩
    rw [hB'.out]
    have b0 : Hid (bytesK d 0 = B) := bytes1 p0.out p1.out hA.out px.out py.out hB'.out hq.out
    have KE := K3
    clear K3
    go_wp2_with fail
    go_loopw [3, 4] (fun s i wr => ∃ (k : Nat) (L : List UInt8), k ≤ 4 ∧ i = .int .i64 k ∧ s = .string ⟨L.toArray⟩ ∧ bytesK d k = L ∧ wr.heap[w.heap.size]? = some d.o ∧ Below w.heap.size w wr) (fun _ i _ => 4 - (intOf i).toNat)
    case atStart => exact ⟨0, _, by omega, rfl, rfl, by rw [b0.out], KE.out, hB⟩
    case round =>
      clear hB KE
      try clear c1
      try clear c2
      obtain ⟨k, L, hk, rfl, rfl, hL, h0, hb⟩ := hrel
      have lL : L.length ≤ 200 := by rw [← hL]; have := bytesK_len d9 k; omega
      have HL := hid hL
      clear hL
      have c0 := cells_at h0
      have l0 := at_lt h0
      have H0 := hid h0
      clear h0
      obtain rfl | rfl | rfl | rfl | rfl : k = 0 ∨ k = 1 ∨ k = 2 ∨ k = 3 ∨ k = 4 := by omega
      · have hI := indexA_f0
        obtain ⟨r, hr⟩ : ∃ r, Hid (d.m.testBit 1 = r) := ⟨_, rfl⟩
        have f9 : d.f0.s.size ≤ 12 := d9 0
        have hbt : (bits .and .u8 ((d.m : Int) / 2) 1 != 0) = r := by rw [← hr.out]; exact bit_ne d.m 1 (by omega)
        obtain ⟨X, hX⟩ : ∃ X, Hid (X = text d.f0.s.data.toList) := ⟨_, rfl⟩
        have lX : X.length ≤ 22 := by rw [hX.out]; unfold text; have := (put_length d.f0.s.data.toList.length).2; rw [List.length_append]; have e : d.f0.s.data.toList.length ≤ 12 := f9; omega
        obtain ⟨Y, hY⟩ : ∃ Y, Hid (Y = put (zig d.f0.n)) := ⟨_, rfl⟩
        have lY : Y.length ≤ 10 := by rw [hY.out]; exact (put_length _).2
        cases r
        · go_wp2_with fail
          first | go_roundw | refine ⟨?rel, ?measure⟩
          case rel => exact ⟨1, L, by omega, rfl, rfl, bytesK_same HL.out hr.out, H0.out, hb⟩
          case measure => simp [intOf]
        · by_cases he : d.f0.s.data.toList = []
          · have he' : d.f0.s.toList = [] := by rw [ByteArray.toList_eq]; exact he
            have ht : told d.f0 = X ++ Y := by unfold told; rw [if_pos he, hX.out, hY.out]
            have HT := hid ht
            clear ht he
            go_wp2_with fail
            refine (reftext_at hX (by omega) _).mono ?_
            rintro x w3 ⟨rfl, hb3⟩
            have K3 := hid (var_on hb3 H0.out (at_lt H0.out))
            have c3 := cells_at K3.out
            have l3 := at_lt K3.out
            have hB3 := below_on hb hb3
            clear hb3 hb H0 c0
            go_wp2_with fail
            refine (refint_at hY (hf 0).2.1 (hf 0).2.2 _).mono ?_
            rintro x w4 ⟨rfl, hb4⟩
            go_wp2_with fail
            first | go_roundw | refine ⟨?rel, ?measure⟩
            case rel => exact ⟨1, L ++ (X ++ Y), by omega, rfl, by rw [app3'], by rw [bytesK_next HL.out hr.out, ← HT.out]; rfl, var_on hb4 K3.out l3, below_on hB3 hb4⟩
            case measure => simp [intOf]
          · have he' : d.f0.s.toList.isEmpty = false := by rw [ByteArray.toList_eq]; simpa using he
            have ht : told d.f0 = X := by unfold told; rw [if_neg he, hX.out, List.append_nil]
            have HT := hid ht
            clear ht he
            go_wp2_with fail
            refine (reftext_at hX (by omega) _).mono ?_
            rintro x w3 ⟨rfl, hb3⟩
            have K3 := hid (var_on hb3 H0.out (at_lt H0.out))
            have c3 := cells_at K3.out
            have l3 := at_lt K3.out
            have hB3 := below_on hb hb3
            clear hb3 hb H0 c0
            go_wp2_with fail
            first | go_roundw | refine ⟨?rel, ?measure⟩
            case rel => exact ⟨1, L ++ X, by omega, rfl, by rw [ByteArray.mk_append_mk], by rw [bytesK_next HL.out hr.out, ← HT.out]; rfl, K3.out, hB3⟩
            case measure => simp [intOf]
      · have hI := indexA_f1
        obtain ⟨r, hr⟩ : ∃ r, Hid (d.m.testBit 2 = r) := ⟨_, rfl⟩
        have f9 : d.f1.s.size ≤ 12 := d9 1
        have hbt : (bits .and .u8 ((d.m : Int) / 4) 1 != 0) = r := by rw [← hr.out]; exact bit_ne d.m 2 (by omega)
        obtain ⟨X, hX⟩ : ∃ X, Hid (X = text d.f1.s.data.toList) := ⟨_, rfl⟩
        have lX : X.length ≤ 22 := by rw [hX.out]; unfold text; have := (put_length d.f1.s.data.toList.length).2; rw [List.length_append]; have e : d.f1.s.data.toList.length ≤ 12 := f9; omega
        obtain ⟨Y, hY⟩ : ∃ Y, Hid (Y = put (zig d.f1.n)) := ⟨_, rfl⟩
        have lY : Y.length ≤ 10 := by rw [hY.out]; exact (put_length _).2
        cases r
        · go_wp2_with fail
          first | go_roundw | refine ⟨?rel, ?measure⟩
          case rel => exact ⟨2, L, by omega, rfl, rfl, bytesK_same HL.out hr.out, H0.out, hb⟩
          case measure => simp [intOf]
        · by_cases he : d.f1.s.data.toList = []
          · have he' : d.f1.s.toList = [] := by rw [ByteArray.toList_eq]; exact he
            have ht : told d.f1 = X ++ Y := by unfold told; rw [if_pos he, hX.out, hY.out]
            have HT := hid ht
            clear ht he
            go_wp2_with fail
            refine (reftext_at hX (by omega) _).mono ?_
            rintro x w3 ⟨rfl, hb3⟩
            have K3 := hid (var_on hb3 H0.out (at_lt H0.out))
            have c3 := cells_at K3.out
            have l3 := at_lt K3.out
            have hB3 := below_on hb hb3
            clear hb3 hb H0 c0
            go_wp2_with fail
            refine (refint_at hY (hf 1).2.1 (hf 1).2.2 _).mono ?_
            rintro x w4 ⟨rfl, hb4⟩
            go_wp2_with fail
            first | go_roundw | refine ⟨?rel, ?measure⟩
            case rel => exact ⟨2, L ++ (X ++ Y), by omega, rfl, by rw [app3'], by rw [bytesK_next HL.out hr.out, ← HT.out]; rfl, var_on hb4 K3.out l3, below_on hB3 hb4⟩
            case measure => simp [intOf]
          · have he' : d.f1.s.toList.isEmpty = false := by rw [ByteArray.toList_eq]; simpa using he
            have ht : told d.f1 = X := by unfold told; rw [if_neg he, hX.out, List.append_nil]
            have HT := hid ht
            clear ht he
            go_wp2_with fail
            refine (reftext_at hX (by omega) _).mono ?_
            rintro x w3 ⟨rfl, hb3⟩
            have K3 := hid (var_on hb3 H0.out (at_lt H0.out))
            have c3 := cells_at K3.out
            have l3 := at_lt K3.out
            have hB3 := below_on hb hb3
            clear hb3 hb H0 c0
            go_wp2_with fail
            first | go_roundw | refine ⟨?rel, ?measure⟩
            case rel => exact ⟨2, L ++ X, by omega, rfl, by rw [ByteArray.mk_append_mk], by rw [bytesK_next HL.out hr.out, ← HT.out]; rfl, K3.out, hB3⟩
            case measure => simp [intOf]
      · have hI := indexA_f2
        obtain ⟨r, hr⟩ : ∃ r, Hid (d.m.testBit 3 = r) := ⟨_, rfl⟩
        have f9 : d.f2.s.size ≤ 12 := d9 2
        have hbt : (bits .and .u8 ((d.m : Int) / 8) 1 != 0) = r := by rw [← hr.out]; exact bit_ne d.m 3 (by omega)
        obtain ⟨X, hX⟩ : ∃ X, Hid (X = text d.f2.s.data.toList) := ⟨_, rfl⟩
        have lX : X.length ≤ 22 := by rw [hX.out]; unfold text; have := (put_length d.f2.s.data.toList.length).2; rw [List.length_append]; have e : d.f2.s.data.toList.length ≤ 12 := f9; omega
        obtain ⟨Y, hY⟩ : ∃ Y, Hid (Y = put (zig d.f2.n)) := ⟨_, rfl⟩
        have lY : Y.length ≤ 10 := by rw [hY.out]; exact (put_length _).2
        cases r
        · go_wp2_with fail
          first | go_roundw | refine ⟨?rel, ?measure⟩
          case rel => exact ⟨3, L, by omega, rfl, rfl, bytesK_same HL.out hr.out, H0.out, hb⟩
          case measure => simp [intOf]
        · by_cases he : d.f2.s.data.toList = []
          · have he' : d.f2.s.toList = [] := by rw [ByteArray.toList_eq]; exact he
            have ht : told d.f2 = X ++ Y := by unfold told; rw [if_pos he, hX.out, hY.out]
            have HT := hid ht
            clear ht he
            go_wp2_with fail
            refine (reftext_at hX (by omega) _).mono ?_
            rintro x w3 ⟨rfl, hb3⟩
            have K3 := hid (var_on hb3 H0.out (at_lt H0.out))
            have c3 := cells_at K3.out
            have l3 := at_lt K3.out
            have hB3 := below_on hb hb3
            clear hb3 hb H0 c0
            go_wp2_with fail
            refine (refint_at hY (hf 2).2.1 (hf 2).2.2 _).mono ?_
            rintro x w4 ⟨rfl, hb4⟩
            go_wp2_with fail
            first | go_roundw | refine ⟨?rel, ?measure⟩
            case rel => exact ⟨3, L ++ (X ++ Y), by omega, rfl, by rw [app3'], by rw [bytesK_next HL.out hr.out, ← HT.out]; rfl, var_on hb4 K3.out l3, below_on hB3 hb4⟩
            case measure => simp [intOf]
          · have he' : d.f2.s.toList.isEmpty = false := by rw [ByteArray.toList_eq]; simpa using he
            have ht : told d.f2 = X := by unfold told; rw [if_neg he, hX.out, List.append_nil]
            have HT := hid ht
            clear ht he
            go_wp2_with fail
            refine (reftext_at hX (by omega) _).mono ?_
            rintro x w3 ⟨rfl, hb3⟩
            have K3 := hid (var_on hb3 H0.out (at_lt H0.out))
            have c3 := cells_at K3.out
            have l3 := at_lt K3.out
            have hB3 := below_on hb hb3
            clear hb3 hb H0 c0
            go_wp2_with fail
            first | go_roundw | refine ⟨?rel, ?measure⟩
            case rel => exact ⟨3, L ++ X, by omega, rfl, by rw [ByteArray.mk_append_mk], by rw [bytesK_next HL.out hr.out, ← HT.out]; rfl, K3.out, hB3⟩
            case measure => simp [intOf]
      · have hI := indexA_f3
        obtain ⟨r, hr⟩ : ∃ r, Hid (d.m.testBit 4 = r) := ⟨_, rfl⟩
        have f9 : d.f3.s.size ≤ 12 := d9 3
        have hbt : (bits .and .u8 ((d.m : Int) / 16) 1 != 0) = r := by rw [← hr.out]; exact bit_ne d.m 4 (by omega)
        obtain ⟨X, hX⟩ : ∃ X, Hid (X = text d.f3.s.data.toList) := ⟨_, rfl⟩
        have lX : X.length ≤ 22 := by rw [hX.out]; unfold text; have := (put_length d.f3.s.data.toList.length).2; rw [List.length_append]; have e : d.f3.s.data.toList.length ≤ 12 := f9; omega
        obtain ⟨Y, hY⟩ : ∃ Y, Hid (Y = put (zig d.f3.n)) := ⟨_, rfl⟩
        have lY : Y.length ≤ 10 := by rw [hY.out]; exact (put_length _).2
        cases r
        · go_wp2_with fail
          first | go_roundw | refine ⟨?rel, ?measure⟩
          case rel => exact ⟨4, L, by omega, rfl, rfl, bytesK_same HL.out hr.out, H0.out, hb⟩
          case measure => simp [intOf]
        · by_cases he : d.f3.s.data.toList = []
          · have he' : d.f3.s.toList = [] := by rw [ByteArray.toList_eq]; exact he
            have ht : told d.f3 = X ++ Y := by unfold told; rw [if_pos he, hX.out, hY.out]
            have HT := hid ht
            clear ht he
            go_wp2_with fail
            refine (reftext_at hX (by omega) _).mono ?_
            rintro x w3 ⟨rfl, hb3⟩
            have K3 := hid (var_on hb3 H0.out (at_lt H0.out))
            have c3 := cells_at K3.out
            have l3 := at_lt K3.out
            have hB3 := below_on hb hb3
            clear hb3 hb H0 c0
            go_wp2_with fail
            refine (refint_at hY (hf 3).2.1 (hf 3).2.2 _).mono ?_
            rintro x w4 ⟨rfl, hb4⟩
            go_wp2_with fail
            first | go_roundw | refine ⟨?rel, ?measure⟩
            case rel => exact ⟨4, L ++ (X ++ Y), by omega, rfl, by rw [app3'], by rw [bytesK_next HL.out hr.out, ← HT.out]; rfl, var_on hb4 K3.out l3, below_on hB3 hb4⟩
            case measure => simp [intOf]
          · have he' : d.f3.s.toList.isEmpty = false := by rw [ByteArray.toList_eq]; simpa using he
            have ht : told d.f3 = X := by unfold told; rw [if_neg he, hX.out, List.append_nil]
            have HT := hid ht
            clear ht he
            go_wp2_with fail
            refine (reftext_at hX (by omega) _).mono ?_
            rintro x w3 ⟨rfl, hb3⟩
            have K3 := hid (var_on hb3 H0.out (at_lt H0.out))
            have c3 := cells_at K3.out
            have l3 := at_lt K3.out
            have hB3 := below_on hb hb3
            clear hb3 hb H0 c0
            go_wp2_with fail
            first | go_roundw | refine ⟨?rel, ?measure⟩
            case rel => exact ⟨4, L ++ X, by omega, rfl, by rw [ByteArray.mk_append_mk], by rw [bytesK_next HL.out hr.out, ← HT.out]; rfl, K3.out, hB3⟩
            case measure => simp [intOf]
      · go_wp2_with fail
        go_ret
        exact ⟨by rw [HL.out]; rfl, hb⟩
end Go.Proofs.Ytkklchobiiajgaa
