/- Contracts of the parts of Read of the package fields: pair, head, point, field; of the reference's number. -/
import Derived.Test.YtkklchobiiajgaaFldI
import Derived.Test.YtkklchobiiajgaaFldR
namespace Go.Proofs.Ytkklchobiiajgaa
open Go.RowKit
set_option linter.unusedVariables false
theorem hid {p : Prop} (h : p) : Hid p := h
theorem fin4 {a b c d a' b' c' d' : Int} (h1 : a = a') (h2 : b = b') (h3 : c = c') (h4 : d = d') : Ending.returned (.tuple #[.int .u64 a, .int .u64 b, .int .i64 c, .int .i64 d]) = .returned (.tuple #[.int .u64 a', .int .u64 b', .int .i64 c', .int .i64 d']) := by rw [h1, h2, h3, h4]
theorem get_cut_at {s : ByteArray} {i n k e : Nat} (h : Hid (get (s.data.toList.drop i) = (n, k, e))) (hs : s.size ≤ 1000000) (w : World) :
    Calls Try.prog 65 #[.string (s.extract i s.size)] w fun x w' => x = .returned (.tuple #[.int .u64 n, .int .i64 k, .int .i64 e]) ∧ w' = w :=
  get_eq (by rw [cut_data]; exact h) (by rw [ByteArray.size_extract]; unfold maxLen; omega) w
theorem fields_pair {s : ByteArray} {a b k e : Nat} (h : Hid (pairR s.data.toList = (a, b, k, e))) (hs : s.size ≤ 1000000) (w : World) :
    Calls Try.prog 85 #[.string s] w fun x w' => x = .returned (.tuple #[.int .u64 a, .int .u64 b, .int .i64 k, .int .i64 e]) ∧ w' = w := by
  rcases hg : get s.data.toList with ⟨n, i, x⟩
  obtain ⟨h1, h2, h3, h4, h5⟩ := get_ok hg
  have h2 : i ≤ s.size := h2
  have HG : Hid (get s.data.toList = (n, i, x)) := hg
  rcases hg' : get (s.data.toList.drop i) with ⟨n', i', x'⟩
  obtain ⟨h1', h2', h3', h4', h5'⟩ := get_ok hg'
  have HG' : Hid (get (s.data.toList.drop i) = (n', i', x')) := hg'
  clear hg hg' h2'
  have hp := h.out
  unfold pairR at hp
  rw [HG.out] at hp
  simp only at hp
  rw [HG'.out] at hp
  simp only at hp
  have HP := hid hp
  clear hp h
  by_cases hx : x = 0
  · by_cases hx' : x' = 0
    · have q1 : ((x : Int) != 0) = false := by simp [hx]
      have q2 : ((x' : Int) != 0) = false := by simp [hx']
      have HX : Hid (x = 0) := hx
      have HX' : Hid (x' = 0) := hx'
      clear hx hx'
      go_enter Try.func85, Try.ntmps85
      go_wp2_with fail
      refine (get_eq HG (by unfold maxLen; omega) _).mono ?_
      rintro y w1 ⟨rfl, rfl⟩
      go_wp2_with fail
      refine (get_cut_at HG' hs _).mono ?_
      rintro y w1 ⟨rfl, rfl⟩
      go_wp2_with fail
      have hp := HP.out
      rw [if_neg (by simp [HX.out]), if_neg (by simp [HX'.out])] at hp
      simp only [Prod.mk.injEq] at hp
      obtain ⟨rfl, rfl, rfl, rfl⟩ := hp
      exact bodyPost_ret (v := .tuple #[.int .u64 n, .int .u64 n', .int .i64 ((i : Int) + i'), .int .i64 0]) (by simp [results, Try.results85, go_sem]) rfl ⟨fin4 rfl rfl (by omega) rfl, rfl⟩
    · have q1 : ((x : Int) != 0) = false := by simp [hx]
      have q2 : ((x' : Int) != 0) = true := by simpa using hx'
      have HX : Hid (x = 0) := hx
      have HX' : Hid (¬ x' = 0) := hx'
      clear hx hx'
      go_enter Try.func85, Try.ntmps85
      go_wp2_with fail
      refine (get_eq HG (by unfold maxLen; omega) _).mono ?_
      rintro y w1 ⟨rfl, rfl⟩
      go_wp2_with fail
      refine (get_cut_at HG' hs _).mono ?_
      rintro y w1 ⟨rfl, rfl⟩
      go_wp2_with fail
      have hp := HP.out
      rw [if_neg (by simp [HX.out]), if_pos (by simpa using HX'.out)] at hp
      simp only [Prod.mk.injEq] at hp
      obtain ⟨rfl, rfl, rfl, rfl⟩ := hp
      exact bodyPost_ret (v := .tuple #[.int .u64 0, .int .u64 0, .int .i64 0, .int .i64 x']) (by simp [results, Try.results85, go_sem]) rfl ⟨rfl, rfl⟩
  · have q1 : ((x : Int) != 0) = true := by simpa using hx
    have HX : Hid (¬ x = 0) := hx
    clear hx
    go_enter Try.func85, Try.ntmps85
    go_wp2_with fail
    refine (get_eq HG (by unfold maxLen; omega) _).mono ?_
    rintro y w1 ⟨rfl, rfl⟩
    go_wp2_with fail
    have hp := HP.out
    rw [if_pos (by simpa using HX.out)] at hp
    simp only [Prod.mk.injEq] at hp
    obtain ⟨rfl, rfl, rfl, rfl⟩ := hp
    exact bodyPost_ret (v := .tuple #[.int .u64 0, .int .u64 0, .int .i64 0, .int .i64 x]) (by simp [results, Try.results85, go_sem]) rfl ⟨rfl, rfl⟩
theorem fields_head {s : ByteArray} {D : Dl} {k e : Nat} (h : Hid (headR s.data.toList = (D, k, e))) (hs : s.size ≤ 1000000) (w : World) :
    Calls Try.prog 76 #[.string s] w fun x w' => x = .returned (.tuple #[D.v, .int .i64 k, .int .i64 e]) ∧ Below w.heap.size w w' := by
  rcases hg : pairR s.data.toList with ⟨a, b, i, x⟩
  obtain ⟨h1, h2, h3, h4, h5, h6⟩ := pairR_ok hg
  have HG : Hid (pairR s.data.toList = (a, b, i, x)) := hg
  clear hg h3
  have hp := h.out
  unfold headR at hp
  rw [HG.out] at hp
  simp only at hp
  have HP := hid hp
  clear hp h
  by_cases hx : x = 0
  · subst hx
    clear h5 h6
    by_cases hb : 1000000 < a ∨ b = 0 ∨ 31 < b
    · have hp := HP.out
      rw [if_neg (by simp), if_pos hb] at hp
      simp only [Prod.mk.injEq] at hp
      obtain ⟨rfl, rfl, rfl⟩ := hp
      clear HP
      go_enter Try.func76, Try.ntmps76
      go_wp2_with fail
      refine (fields_pair HG hs _).mono ?_
      rintro y w1 ⟨rfl, rfl⟩
      go_wp2_with fail
      all_goals first | (exfalso; omega) | exact bodyPost_ret (v := .tuple #[zD.v, .int .i64 0, .int .i64 11]) (by simp [results, Try.results76, go_sem, zD, zF]) rfl ⟨rfl, below1 _ _⟩
    · have hp := HP.out
      rw [if_neg (by simp), if_neg hb] at hp
      simp only [Prod.mk.injEq] at hp
      obtain ⟨rfl, rfl, rfl⟩ := hp
      clear HP
      have b1 : a ≤ 1000000 := by omega
      have b2 : b ≤ 31 := by omega
      have b3 : ((b : Int) == 0) = false := by simp; omega
      have b4 : (b : Int) % 256 = b := by omega
      clear hb
      go_enter Try.func76, Try.ntmps76
      go_wp2_with fail
      refine (fields_pair HG hs _).mono ?_
      rintro y w1 ⟨rfl, rfl⟩
      go_wp2_with fail
      exact bodyPost_ret (v := .tuple #[Dl.v ⟨a, b, 0, 0, zF, zF, zF, zF⟩, .int .i64 i, .int .i64 0]) (by simp [results, Try.results76, go_sem, zF]) rfl ⟨rfl, below1 _ _⟩
  · have q1 : ((x : Int) != 0) = true := by simpa using hx
    have q2 : ((x : Int) == 0) = false := by simpa using hx
    have hp := HP.out
    rw [if_pos (by simpa using hx)] at hp
    simp only [Prod.mk.injEq] at hp
    obtain ⟨rfl, rfl, rfl⟩ := hp
    clear HP hx h6
    go_enter Try.func76, Try.ntmps76
    go_wp2_with fail
    refine (fields_pair HG hs _).mono ?_
    rintro y w1 ⟨rfl, rfl⟩
    go_wp2_with fail
    exact bodyPost_ret (v := .tuple #[zD.v, .int .i64 0, .int .i64 x]) (by simp [results, Try.results76, go_sem, zD, zF]) rfl ⟨rfl, below1 _ _⟩
theorem fields_point {s : ByteArray} {a b k e : Nat} (h : Hid (pairR s.data.toList = (a, b, k, e))) (hs : s.size ≤ 1000000) (w : World) :
    Calls Try.prog 77 #[.string s] w fun x w' => x = .returned (.tuple #[pt ((min a 64 : Nat) : Int) ((min b 64 : Nat) : Int), .int .i64 k, .int .i64 e]) ∧ Below w.heap.size w w' := by
  obtain ⟨h1, h2, h3, h4, h5, h6⟩ := pairR_ok h.out
  clear h5 h6 h3
  go_enter Try.func77, Try.ntmps77
  go_wp2_with fail
  refine (fields_pair h hs _).mono ?_
  rintro y w1 ⟨rfl, rfl⟩
  go_wp2_with fail
  rw [show ((min a 64 : Nat) : Int) = min (a : Int) 64 by omega, show ((min b 64 : Nat) : Int) = min (b : Int) 64 by omega]
  exact bodyPost_ret (v := .tuple #[pt (min (a : Int) 64) (min (b : Int) 64), .int .i64 k, .int .i64 e]) (by simp [results, Try.results77, go_sem]) rfl ⟨rfl, below1 _ _⟩
theorem text_empty {u : List UInt8} (h : u = []) : (⟨u.toArray⟩ : ByteArray).toList = [] := by rw [h, ByteArray.toList_eq]
theorem text_some {u : List UInt8} (h : ¬ u = []) : (⟨u.toArray⟩ : ByteArray).toList.isEmpty = false := by rw [ByteArray.toList_eq]; simpa using h
set_option maxHeartbeats 1000000 in
theorem fields_field {s : ByteArray} {f : Fl} {k e : Nat} (h : Hid (fieldR s.data.toList = (f, k, e))) (hs : s.size ≤ 1000000) (w : World) :
    Calls Try.prog 78 #[.string s] w fun x w' => x = .returned (.tuple #[f.v, .int .i64 k, .int .i64 e]) ∧ Below w.heap.size w w' := by
  rcases ht : texts s.data.toList 12 with ⟨u, i, x⟩
  obtain ⟨t1, t2, t3, t4, t5⟩ := texts_ok ht
  have t2 : i ≤ s.size := t2
  have HT : Hid (texts s.data.toList 12 = ((⟨u.toArray⟩ : ByteArray).data.toList, i, x)) := ht
  have HT' : Hid (texts s.data.toList 12 = (u, i, x)) := ht
  rcases hg : get (s.data.toList.drop i) with ⟨n, i', x'⟩
  obtain ⟨h1, h2, h3, h4, h5⟩ := get_ok hg
  have HG : Hid (get (s.data.toList.drop i) = (n, i', x')) := hg
  have HG2 : Hid (get (s.extract i s.size).data.toList = (n, i', x')) := by rw [cut_data]; exact hg
  clear hg ht h2
  have hp := h.out
  unfold fieldR at hp
  rw [HT'.out] at hp
  simp only at hp
  rw [HG.out] at hp
  simp only at hp
  have HP := hid hp
  clear hp h
  have K0 : Hid ((w.alloc zF.o).heap[w.heap.size]? = some zF.o) := new_at _ _ _ rfl
  by_cases hx : x = 0
  · subst hx
    clear t4 t5
    by_cases hu : u = []
    · subst hu
      by_cases hx' : x' = 0
      · subst hx'
        clear h4 h5
        have hp := HP.out
        rw [if_neg (by simp), if_neg (by simp), if_neg (by simp)] at hp
        simp only [Prod.mk.injEq] at hp
        obtain ⟨rfl, rfl, rfl⟩ := hp
        clear HP HT'
        obtain ⟨z, hz⟩ : ∃ z, Hid (zag n = z) := ⟨_, rfl⟩
        rw [hz.out]
        go_enter Try.func78, Try.ntmps78
        go_wp2_with fail
        refine (texts_at (u := ⟨#[]⟩) HT (by omega) (by omega) (by omega) _).mono ?_
        rintro y w1 ⟨rfl, hb⟩
        have k1 := var_on hb K0.out (at_lt K0.out)
        have c1 := cells_at k1
        have l1 := at_lt k1
        have hB := below_on (below1 w zF.o) hb
        clear k1 hb K0
        go_wp2_with fail
        refine (ints_at HG2 hz (by rw [ByteArray.size_extract]; unfold maxLen; omega) _).mono ?_
        rintro y w2 ⟨rfl, rfl⟩
        go_wp2_with fail
        exact bodyPost_ret (v := .tuple #[Fl.v ⟨z, ⟨#[]⟩⟩, .int .i64 ((i : Int) + i'), .int .i64 0]) (by simp [results, Try.results78, go_sem, c1]) rfl ⟨by simp, (hB.setCell (by simp) _).setCell (by simp) _⟩
      · have q1 : ((x' : Int) != 0) = true := by simpa using hx'
        have hp := HP.out
        rw [if_neg (by simp), if_neg (by simp), if_pos (by simpa using hx')] at hp
        simp only [Prod.mk.injEq] at hp
        obtain ⟨rfl, rfl, rfl⟩ := hp
        clear HP HT' hx' h5
        obtain ⟨z, hz⟩ : ∃ z, Hid (zag n = z) := ⟨_, rfl⟩
        go_enter Try.func78, Try.ntmps78
        go_wp2_with fail
        refine (texts_at (u := ⟨#[]⟩) HT (by omega) (by omega) (by omega) _).mono ?_
        rintro y w1 ⟨rfl, hb⟩
        have k1 := var_on hb K0.out (at_lt K0.out)
        have c1 := cells_at k1
        have l1 := at_lt k1
        have hB := below_on (below1 w zF.o) hb
        clear k1 hb K0
        go_wp2_with fail
        refine (ints_at HG2 hz (by rw [ByteArray.size_extract]; unfold maxLen; omega) _).mono ?_
        rintro y w2 ⟨rfl, rfl⟩
        go_wp2_with fail
        exact bodyPost_ret (v := .tuple #[Fl.v ⟨0, ⟨#[]⟩⟩, .int .i64 0, .int .i64 x']) (by simp [results, Try.results78, go_sem, c1]) rfl ⟨rfl, (hB.setCell (by simp) _).setCell (by simp) _⟩
    · have hp := HP.out
      rw [if_neg (by simp), if_pos (by simpa using hu)] at hp
      simp only [Prod.mk.injEq] at hp
      obtain ⟨rfl, rfl, rfl⟩ := hp
      have hu' := text_some hu
      clear HP HT' hu HG HG2 h1 h3 h4 h5
      obtain ⟨U, hU⟩ : ∃ U, (⟨u.toArray⟩ : ByteArray) = U := ⟨_, rfl⟩
      rw [hU] at hu' HT
      rw [hU]
      clear hU
      go_enter Try.func78, Try.ntmps78
      go_wp2_with fail
      refine (texts_at HT (by omega) (by omega) (by omega) _).mono ?_
      rintro y w1 ⟨rfl, hb⟩
      have k1 := var_on hb K0.out (at_lt K0.out)
      have c1 := cells_at k1
      have l1 := at_lt k1
      have hB := below_on (below1 w zF.o) hb
      clear k1 hb K0
      go_wp2_with fail
      exact bodyPost_ret (v := .tuple #[Fl.v ⟨0, U⟩, .int .i64 i, .int .i64 0]) (by simp [results, Try.results78, go_sem, c1]) rfl ⟨rfl, (hB.setCell (by simp) _).setCell (by simp) _⟩
  · have q1 : ((x : Int) != 0) = true := by simpa using hx
    obtain ⟨rfl, rfl⟩ := t5 hx
    have hp := HP.out
    rw [if_pos (by simpa using hx)] at hp
    simp only [Prod.mk.injEq] at hp
    obtain ⟨rfl, rfl, rfl⟩ := hp
    clear HP HT' HG HG2 h1 h3 h4 h5 t5 hx t2
    go_enter Try.func78, Try.ntmps78
    go_wp2_with fail
    refine (texts_at (u := ⟨#[]⟩) HT (by omega) (by omega) (by omega) _).mono ?_
    rintro y w1 ⟨rfl, hb⟩
    have k1 := var_on hb K0.out (at_lt K0.out)
    have c1 := cells_at k1
    have l1 := at_lt k1
    have hB := below_on (below1 w zF.o) hb
    clear k1 hb K0
    go_wp2_with fail
    exact bodyPost_ret (v := .tuple #[Fl.v ⟨0, ⟨#[]⟩⟩, .int .i64 0, .int .i64 x]) (by simp [results, Try.results78, go_sem, c1]) rfl ⟨rfl, (hB.setCell (by simp) _).setCell (by simp) _⟩
theorem ref_number {s : ByteArray} {a n k e bound : Nat} (h : Hid (get (s.data.toList.drop a) = (n, k, e))) (hs : s.size ≤ 1000000) (ha : a ≤ s.size) (hb : bound ≤ 2000000) (w : World) :
    Calls Try.prog 79 #[.string s, .int .i64 a, .int .u64 bound] w fun x w' => x = .returned (.tuple (if e = 0 then #[.int .i64 ((min n (bound + 1) : Nat) : Int), .int .i64 ((a + k : Nat) : Int), .int .i64 0] else #[.int .i64 0, .int .i64 a, .int .i64 e])) ∧ w' = w := by
  obtain ⟨h1, h2, h3, h4, h5⟩ := get_ok h.out
  have HG2 : Hid (get (s.extract a s.size).data.toList = (n, k, e)) := by rw [cut_data]; exact h.out
  clear h2
  by_cases he : e = 0
  · subst he
    rw [if_pos rfl]
    clear h4 h5
    by_cases hn : bound < n
    · rw [show ((min n (bound + 1) : Nat) : Int) = (bound : Int) + 1 by omega]
      go_enter Try.func79, Try.ntmps79
      go_wp2_with fail
      refine (ref_get_eq HG2 (by rw [ByteArray.size_extract]; unfold maxLen; omega) _).mono ?_
      rintro y w1 ⟨rfl, rfl⟩
      go_wp2_with fail
      go_ret3
      exact ⟨by simp, rfl⟩
    · rw [show ((min n (bound + 1) : Nat) : Int) = (n : Int) by omega]
      go_enter Try.func79, Try.ntmps79
      go_wp2_with fail
      refine (ref_get_eq HG2 (by rw [ByteArray.size_extract]; unfold maxLen; omega) _).mono ?_
      rintro y w1 ⟨rfl, rfl⟩
      go_wp2_with fail
      go_ret3
      exact ⟨by simp, rfl⟩
  · have q1 : ((e : Int) != 0) = true := by simpa using he
    rw [if_neg he]
    clear h4 h5 he
    go_enter Try.func79, Try.ntmps79
    go_wp2_with fail
    refine (ref_get_eq HG2 (by rw [ByteArray.size_extract]; unfold maxLen; omega) _).mono ?_
    rintro y w1 ⟨rfl, rfl⟩
    go_wp2_with fail
    go_ret3
    exact ⟨rfl, rfl⟩
end Go.Proofs.Ytkklchobiiajgaa
