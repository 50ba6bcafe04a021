/- Contracts of the parts' read of the package cmd: what it takes from the beginning of a text, and where it lays it. -/
import Derived.Test.YtfcofhlcainanaaCmM
namespace Go.Proofs.Ytfcofhlcainanaa
open Go.RowKit
set_option linter.unusedVariables false
theorem fin2i {a b a' b' : Int} (h1 : a = a') (h2 : b = b') : Ending.returned (.tuple #[.int .i64 a, .int .i64 b]) = .returned (.tuple #[.int .i64 a', .int .i64 b']) := by rw [h1, h2]
theorem numR_bad {c : Cm} {k : Nat} {lo hi : Int} {l : List UInt8} {n i e : Nat} {r : Cm × Nat × Nat} (hr : numR c k lo hi l = r) (hg : get l = (n, i, e)) (he : ¬ e = 0) : r = (c, 0, e) := by
  rw [← hr]; unfold numR; rw [hg]; simp only; rw [if_pos he]
theorem numR_form {c : Cm} {k : Nat} {lo hi : Int} {l : List UInt8} {n i : Nat} {z : Int} {r : Cm × Nat × Nat} (hr : numR c k lo hi l = r) (hg : get l = (n, i, 0)) (hz : zag n = z) (h : z < lo ∨ hi < z) : r = (c, 0, 11) := by
  rw [← hr]; unfold numR; rw [hg]; simp only; rw [hz, if_neg (by simp), if_pos h]
theorem numR_good {c : Cm} {k : Nat} {lo hi : Int} {l : List UInt8} {n i : Nat} {z : Int} {r : Cm × Nat × Nat} (hr : numR c k lo hi l = r) (hg : get l = (n, i, 0)) (hz : zag n = z) (h1 : ¬ z < lo) (h2 : ¬ hi < z) : r = (c.setI k z, i, 0) := by
  rw [← hr]; unfold numR; rw [hg]; simp only; rw [hz, if_neg (by simp), if_neg (by omega)]
set_option maxHeartbeats 1000000 in
theorem num_read {w : World} {g k : Nat} {c : Cm} (h : w.heap[g]? = some c.o) (hk : atI k) {lo hi : Int} {s : ByteArray} {r : Cm × Nat × Nat} (HR : Hid (numR c k lo hi s.data.toList = r)) (hs : s.size ≤ 1000000) :
    Calls Try.prog 46 #[numV g k lo hi, .string s] w fun e w' => e = .returned (.tuple #[.int .i64 r.2.1, .int .i64 r.2.2]) ∧ w'.heap[g]? = some r.1.o ∧ But g w w' := by
  have hg : g < w.heap.size := at_lt h
  have hc := cell_i h hk
  have hf : w.frozen? ⟨g, k, none⟩ = false := (cells_at h).2 k
  rcases hG : get s.data.toList with ⟨n, i, e⟩
  obtain ⟨h1, h2, h3, h4, h5⟩ := get_ok hG
  have h2 : i ≤ s.size := h2
  have HG : Hid (get s.data.toList = (n, i, e)) := hG
  obtain ⟨z, hz⟩ : ∃ z, Hid (zag n = z) := ⟨_, rfl⟩
  have hz1 : -9223372036854775808 ≤ z ∧ z ≤ 9223372036854775807 := by rw [← hz.out]; exact zag_le n h1
  have hS := old_at (set_i h hk z) (numO g k lo hi)
  have hO := old_at h (numO g k lo hi)
  have hB0 := (But.refl g w).alloc (numO g k lo hi)
  have hB := ((But.refl g w).setCell k (.int .i64 z)).alloc (numO g k lo hi)
  have HH := hid h
  clear h hG
  by_cases he : e = 0
  · subst he
    clear h4 h5
    by_cases hlo : z < lo
    · have hr := numR_form HR.out HG.out hz.out (.inl hlo)
      have d1 : decide (z < lo) = true := by simp [hlo]
      go_enter Try.func46, Try.ntmps46
      go_wp2_with fail
      refine (ints_at HG hz (by unfold maxLen; omega) _).mono ?_
      rintro x w2 ⟨rfl, rfl⟩
      go_wp2_with fail
      rw [hr]
      exact bodyPost_ret (v := .tuple #[.int .i64 0, .int .i64 11]) (by simp [results, Try.results46, go_sem]) rfl ⟨rfl, hO, hB0⟩
    · by_cases hhi : hi < z
      · have hr := numR_form HR.out HG.out hz.out (.inr hhi)
        have d1 : decide (z < lo) = false := by simp [hlo]
        have d2 : decide (hi < z) = true := by simp [hhi]
        go_enter Try.func46, Try.ntmps46
        go_wp2_with fail
        refine (ints_at HG hz (by unfold maxLen; omega) _).mono ?_
        rintro x w2 ⟨rfl, rfl⟩
        go_wp2_with fail
        rw [hr]
        exact bodyPost_ret (v := .tuple #[.int .i64 0, .int .i64 11]) (by simp [results, Try.results46, go_sem]) rfl ⟨rfl, hO, hB0⟩
      · have hr := numR_good HR.out HG.out hz.out hlo hhi
        have d1 : decide (z < lo) = false := by simp [hlo]
        have d2 : decide (hi < z) = false := by simp [hhi]
        go_enter Try.func46, Try.ntmps46
        go_wp2_with fail
        refine (ints_at HG hz (by unfold maxLen; omega) _).mono ?_
        rintro x w2 ⟨rfl, rfl⟩
        go_wp2_with fail
        rw [hr]
        exact bodyPost_ret (v := .tuple #[.int .i64 i, .int .i64 0]) (by simp [results, Try.results46, go_sem]) rfl ⟨rfl, hS, hB⟩
  · have hr := numR_bad HR.out HG.out he
    have q1 : ((e : Int) == 0) = false := by simpa using he
    have q2 : ((e : Int) != 0) = true := by simpa using he
    clear h4 h5 he
    go_enter Try.func46, Try.ntmps46
    go_wp2_with fail
    refine (ints_at HG hz (by unfold maxLen; omega) _).mono ?_
    rintro x w2 ⟨rfl, rfl⟩
    go_wp2_with fail
    rw [hr]
    exact bodyPost_ret (v := .tuple #[.int .i64 0, .int .i64 e]) (by simp [results, Try.results46, go_sem]) rfl ⟨rfl, hO, hB0⟩
theorem fldR_bad {c : Cm} {k : Nat} {l u : List UInt8} {i e : Nat} {r : Cm × Nat × Nat} (hr : fldR c k l = r) (ht : texts l 12 = (u, i, e)) (he : ¬ e = 0) : r = (c, 0, e) := by
  rw [← hr]; unfold fldR; rw [ht]; simp only; rw [if_pos he]
theorem fldR_bad2 {c : Cm} {k : Nat} {l u : List UInt8} {i n j e : Nat} {r : Cm × Nat × Nat} (hr : fldR c k l = r) (ht : texts l 12 = (u, i, 0)) (hg : get (l.drop i) = (n, j, e)) (he : ¬ e = 0) : r = (c, 0, e) := by
  rw [← hr]; unfold fldR; rw [ht]; simp only; rw [hg]; simp only; rw [if_neg (by simp), if_pos he]
theorem fldR_form {c : Cm} {k : Nat} {l u : List UInt8} {i n j : Nat} {f : Fl} {r : Cm × Nat × Nat} (hr : fldR c k l = r) (ht : texts l 12 = (u, i, 0)) (hg : get (l.drop i) = (n, j, 0)) (hf : ⟨zag n, ⟨u.toArray⟩⟩ = f) (he : isF f = false) : r = (c, 0, 11) := by
  rw [← hr]; unfold fldR; rw [ht]; simp only; rw [hg]; simp only; rw [if_neg (by simp), if_neg (by simp), hf, if_pos he]
theorem fldR_good {c : Cm} {k : Nat} {l u : List UInt8} {i n j : Nat} {f : Fl} {r : Cm × Nat × Nat} (hr : fldR c k l = r) (ht : texts l 12 = (u, i, 0)) (hg : get (l.drop i) = (n, j, 0)) (hf : ⟨zag n, ⟨u.toArray⟩⟩ = f) (he : isF f = true) : r = (c.setF k f, i + j, 0) := by
  rw [← hr]; unfold fldR; rw [ht]; simp only; rw [hg]; simp only; rw [if_neg (by simp), if_neg (by simp), hf, if_neg (by simp [he])]
theorem isF_at {f : Fl} {q : Bool} (h : isF f = q) (hs : f.s.size ≤ maxLen) (w : World) : Calls Try.prog 58 #[f.v] w fun e w' => e = .returned (.bool q) ∧ Below w.heap.size w w' := by
  rw [← h]; exact fields_isField w f hs
set_option maxHeartbeats 1000000 in
theorem fld_read {w : World} {g k : Nat} {c : Cm} (h : w.heap[g]? = some c.o) (hk : atF k) {s : ByteArray} {r : Cm × Nat × Nat} (HR : Hid (fldR c k s.data.toList = r)) (hs : s.size ≤ 1000000) :
    Calls Try.prog 56 #[fldV g k, .string s] w fun e w' => e = .returned (.tuple #[.int .i64 r.2.1, .int .i64 r.2.2]) ∧ w'.heap[g]? = some r.1.o ∧ But g w w' := by
  have hg : g < w.heap.size := at_lt h
  rcases hT : texts s.data.toList 12 with ⟨u, i, e⟩
  obtain ⟨t1, t2, t3, t4, t5⟩ := texts_ok hT
  have t2 : i ≤ s.size := t2
  obtain ⟨U, hU⟩ : ∃ U : ByteArray, U = ⟨u.toArray⟩ := ⟨_, rfl⟩
  have sU : U.size ≤ 12 := by rw [hU]; exact t1
  have HT : Hid (texts s.data.toList 12 = (U.data.toList, i, e)) := by rw [hU]; exact hT
  have HT' := hid hT
  rcases hG : get (s.data.toList.drop i) with ⟨n, j, e2⟩
  obtain ⟨h1, h2, h3, h4, h5⟩ := get_ok hG
  rw [List.length_drop] at h2
  have h2 : j ≤ s.size - i := h2
  have HG := hid hG
  have HG2 : Hid (get (s.extract i s.size).data.toList = (n, j, e2)) := by rw [cut_data]; exact hG
  obtain ⟨z, hz⟩ : ∃ z, Hid (zag n = z) := ⟨_, rfl⟩
  have hff : (⟨zag n, ⟨u.toArray⟩⟩ : Fl) = ⟨z, U⟩ := by rw [hz.out, hU]
  have HF := hid hff
  have K0 : Hid ((w.alloc (fldO g k)).heap[w.heap.size]? = some (fldO g k)) := new_at _ _ _ rfl
  have H0 := hid (old_at h (fldO g k))
  have B0 := hid ((But.refl g w).alloc (fldO g k))
  have HH := hid h
  clear h hT hG hU hff t1
  by_cases he : e = 0
  · subst he
    clear t4 t5
    go_enter Try.func56, Try.ntmps56
    go_wp2_with fail
    refine (texts_at HT (by omega) (by omega) (by omega) _).mono ?_
    rintro y w1 ⟨rfl, hb⟩
    have k1 := hid (var_on hb K0.out (at_lt K0.out))
    have H1 := hid (var_on hb H0.out (at_lt H0.out))
    have B1 := hid (B0.out.trans (.of_below hb g))
    have l1 := at_lt k1.out
    clear K0 H0 B0 hb
    go_wp2_with fail
    refine (ints_at HG2 hz (by rw [ByteArray.size_extract]; unfold maxLen; omega) _).mono ?_
    rintro y w2 ⟨rfl, rfl⟩
    by_cases hx : e2 = 0
    · subst hx
      clear h4 h5
      obtain ⟨q, hq⟩ : ∃ q, Hid (isF ⟨z, U⟩ = q) := ⟨_, rfl⟩
      go_wp2_with fail
      refine (isF_at hq.out (by unfold maxLen; show U.size ≤ _; omega) _).mono ?_
      rintro y w3 ⟨rfl, hb⟩
      have k2 := hid (var_on hb (old_at k1.out _) (at_lt (old_at k1.out _)))
      have H2 := hid (var_on hb (old_at H1.out _) (at_lt (old_at H1.out _)))
      have F2 := hid (var_on (o := Fl.o ⟨z, U⟩) (g := w2.heap.size) hb (new_at _ _ _ rfl) (by simp))
      have B2 := hid ((B1.out.alloc _).trans (.of_below hb g))
      cases q
      · have hr := fldR_form HR.out HT'.out HG.out HF.out hq.out
        clear k1 H1 B1 hb
        go_wp2_with fail
        rw [hr]
        exact bodyPost_ret (v := .tuple #[.int .i64 0, .int .i64 11]) (by simp [results, Try.results56, go_sem]) rfl ⟨rfl, H2.out, B2.out⟩
      · have hr := fldR_good HR.out HT'.out HG.out HF.out hq.out
        clear k1 H1 B1 hb
        have c2 := cells_at k2.out
        have c3 := cells_at F2.out
        obtain ⟨n1, n2⟩ := cell_f H2.out hk
        have m1 : w3.frozen? ⟨g, k, none⟩ = false := (cells_at H2.out).2 k
        have m2 : w3.frozen? ⟨g, k + 1, none⟩ = false := (cells_at H2.out).2 (k + 1)
        have hS := set_f H2.out hk ⟨z, U⟩
        have hB := (B2.out.setCell k (.int .i64 z)).setCell (k + 1) (.string U)
        go_wp2_with fail
        rw [hr]
        exact bodyPost_ret (v := .tuple #[.int .i64 ((i : Int) + j), .int .i64 0]) (by simp [results, Try.results56, go_sem]) rfl ⟨by simp, hS, hB⟩
    · have hr := fldR_bad2 HR.out HT'.out HG.out hx
      have q1 : ((e2 : Int) != 0) = true := by simpa using hx
      clear h4 h5 hx
      go_wp2_with fail
      rw [hr]
      exact bodyPost_ret (v := .tuple #[.int .i64 0, .int .i64 e2]) (by simp [results, Try.results56, go_sem]) rfl ⟨rfl, H1.out, B1.out⟩
  · have hr := fldR_bad HR.out HT'.out he
    have q1 : ((e : Int) != 0) = true := by simpa using he
    clear t4 t5 he
    go_enter Try.func56, Try.ntmps56
    go_wp2_with fail
    refine (texts_at HT (by omega) (by omega) (by omega) _).mono ?_
    rintro y w1 ⟨rfl, hb⟩
    have H1 := hid (var_on hb H0.out (at_lt H0.out))
    have B1 := hid (B0.out.trans (.of_below hb g))
    clear K0 H0 B0 hb
    go_wp2_with fail
    rw [hr]
    exact bodyPost_ret (v := .tuple #[.int .i64 0, .int .i64 e]) (by simp [results, Try.results56, go_sem]) rfl ⟨rfl, H1.out, B1.out⟩
end Go.Proofs.Ytfcofhlcainanaa
