/- Contracts of num.Texts, Int, Ints, Text over this translation: each returns what the plain functions say, and nothing that was there before is changed. -/
import Derived.Test.YtkklchobiiajgaaNum
import Derived.Test.YtkklchobiiajgaaPlain2
namespace Go.Proofs.Ytkklchobiiajgaa
open Go.RowKit
theorem fin3s {a a' : ByteArray} {b c b' c' : Int} (h1 : a = a') (h2 : b = b') (h3 : c = c') : Ending.returned (.tuple #[.string a, .int .i64 b, .int .i64 c]) = .returned (.tuple #[.string a', .int .i64 b', .int .i64 c']) := by rw [h1, h2, h3]
theorem max_if (most : Int) : (if most < 0 then 0 else most) = max most 0 := by split <;> omega
theorem texts_bad {l : List UInt8} {n k e : Nat} {most : Int} (h : get l = (n, k, e)) (h1 : ((e : Int) != 0) = true) : texts l most = ([], 0, e) := by
  have h1' : e ≠ 0 := by intro h; simp [h] at h1
  unfold texts; rw [h]; simp only; rw [if_pos h1']
theorem texts_13 {l : List UInt8} {n k e : Nat} {most : Int} (h : get l = (n, k, e)) (h1 : ((e : Int) != 0) = false) (h2 : (if most < 0 then 0 else most) < (n : Int)) : texts l most = ([], 0, 13) := by
  have h1' : e = 0 := by simp at h1; omega
  rw [max_if] at h2
  unfold texts; rw [h]; simp only; rw [if_neg (by simp [h1']), if_pos h2]
theorem texts_10 {s : ByteArray} {n k e : Nat} {most : Int} (h : get s.data.toList = (n, k, e)) (h1 : ((e : Int) != 0) = false) (h2 : (n : Int) ≤ if most < 0 then 0 else most) (h3 : s.size - k < n) : texts s.data.toList most = ([], 0, 10) := by
  have h1' : e = 0 := by simp at h1; omega
  rw [max_if] at h2
  unfold texts; rw [h]; simp only; rw [if_neg (by simp [h1']), if_neg (by omega), if_pos (by exact h3)]
theorem texts_0 {s : ByteArray} {n k e : Nat} {most : Int} (h : get s.data.toList = (n, k, e)) (h1 : ((e : Int) != 0) = false) (h2 : (n : Int) ≤ if most < 0 then 0 else most) (h3 : ¬ s.size - k < n) : texts s.data.toList most = ((s.data.toList.drop k).take n, k + n, 0) := by
  have h1' : e = 0 := by simp at h1; omega
  rw [max_if] at h2
  unfold texts; rw [h]; simp only; rw [if_neg (by simp [h1']), if_neg (by omega), if_neg (by exact h3)]
theorem cut_text (s : ByteArray) (k n : Nat) (hk : k ≤ s.size) : (s.extract k s.size).extract 0 n = ⟨((s.data.toList.drop k).take n).toArray⟩ := by
  obtain ⟨⟨l⟩⟩ := s
  have e1 := ByteArray.extract_mk l k l.length
  have e2 := ByteArray.extract_mk ((l.drop k).take (l.length - k)) 0 n
  show ((ByteArray.mk l.toArray).extract k l.length).extract 0 n = _
  rw [e1, e2, List.take_of_length_le (l := l.drop k) (by simp)]
  simp
theorem get_eq {s : ByteArray} {n k e : Nat} (h : Hid (get s.data.toList = (n, k, e))) (hs : s.size ≤ maxLen) (w : World) :
    Calls Try.prog 65 #[.string s] w fun x w' => x = .returned (.tuple #[.int .u64 n, .int .i64 k, .int .i64 e]) ∧ w' = w := by
  have := get_any s hs w
  rw [h.out] at this
  exact this
set_option maxRecDepth 100000 in
set_option maxHeartbeats 400000 in
theorem num_texts (s : ByteArray) (most : Int) (hs : s.size ≤ 281474976710656) (hm0 : -9223372036854775808 ≤ most) (hm1 : most ≤ 9223372036854775807) (w : World) :
    Calls Try.prog 86 #[.string s, .int .i64 most] w fun x w' => x = .returned (.tuple #[.string ⟨(texts s.data.toList most).1.toArray⟩, .int .i64 (texts s.data.toList most).2.1, .int .i64 (texts s.data.toList most).2.2]) ∧ Below w.heap.size w w' := by
  rcases hg : get s.data.toList with ⟨n, k, e⟩
  obtain ⟨hn, hk, hk1, he, hek⟩ := get_ok hg
  have hk : k ≤ s.size := hk
  have HG : Hid (get s.data.toList = (n, k, e)) := hg
  clear hg
  go_enter Try.func86, Try.ntmps86
  go_wp2_with fail
  refine (get_eq HG (by unfold maxLen; omega) _).mono ?_
  rintro x w' ⟨rfl, rfl⟩
  go_wp2_with fail
  · go_ret3
    rw [texts_bad HG.out ‹_›]
    exact ⟨fin3s rfl rfl rfl, Below.refl _ _⟩
  · go_ret3
    rw [texts_13 HG.out ‹_› ‹_›]
    exact ⟨fin3s rfl rfl rfl, Below.refl _ _⟩
  · go_ret3
    rw [texts_13 HG.out ‹_› ‹_›]
    exact ⟨fin3s rfl rfl rfl, Below.refl _ _⟩
  · go_ret3
    rw [texts_10 HG.out ‹_› ‹_› ‹_›]
    exact ⟨fin3s rfl rfl rfl, Below.refl _ _⟩
  all_goals
    refine (str_clone _ _ (by rw [ByteArray.size_extract, ByteArray.size_extract]; omega)).mono ?_
    rintro x w2 ⟨rfl, hb⟩
    go_wp2
    go_ret3
    rw [texts_0 HG.out ‹_› ‹_› ‹_›]
    exact ⟨fin3s (cut_text s k n hk) (by simp) rfl, hb⟩
set_option maxRecDepth 100000 in
set_option maxHeartbeats 400000 in
theorem num_int (z : Int) (h0 : -9223372036854775808 ≤ z) (h1 : z ≤ 9223372036854775807) (w : World) :
    Calls Try.prog 83 #[.int .i64 z] w fun e w' => e = .returned (.string ⟨(put (zig z)).toArray⟩) ∧ Below w.heap.size w w' := by
  go_enter Try.func83, Try.ntmps83
  go_wp2_with fail
  refine (num_zig z h0 h1 _).mono ?_
  rintro x w1 ⟨rfl, rfl⟩
  go_wp2_with fail
  refine (put_any _ (zig_le z h0 h1) _).mono ?_
  rintro x w2 ⟨rfl, hb⟩
  go_wp2
  go_ret
  exact ⟨rfl, hb⟩
set_option maxRecDepth 100000 in
set_option maxHeartbeats 400000 in
theorem num_ints (s : ByteArray) (hs : s.size ≤ maxLen) (w : World) :
    Calls Try.prog 87 #[.string s] w fun e w' => e = .returned (.tuple #[.int .i64 (zag (get s.data.toList).1), .int .i64 (get s.data.toList).2.1, .int .i64 (get s.data.toList).2.2]) ∧ w' = w := by
  rcases hg : get s.data.toList with ⟨n, k, e⟩
  obtain ⟨hn, _⟩ := get_ok hg
  have HG : Hid (get s.data.toList = (n, k, e)) := hg
  clear hg
  go_enter Try.func87, Try.ntmps87
  go_wp2_with fail
  refine (get_eq HG hs _).mono ?_
  rintro x w' ⟨rfl, rfl⟩
  go_wp2_with fail
  refine (num_zag n hn _).mono ?_
  rintro x w1 ⟨rfl, rfl⟩
  go_wp2
  go_ret3
  exact ⟨rfl, rfl⟩
set_option maxRecDepth 100000 in
set_option maxHeartbeats 400000 in
theorem num_text (s : ByteArray) (hs : s.size ≤ 281474976710656) (w : World) :
    Calls Try.prog 82 #[.string s] w fun e w' => e = .returned (.string ⟨(text s.data.toList).toArray⟩) ∧ Below w.heap.size w w' := by
  have hl := (put_length s.size).2
  go_enter Try.func82, Try.ntmps82
  go_wp2_with fail
  refine (put_any s.size (by omega) _).mono ?_
  rintro x w1 ⟨rfl, hb⟩
  go_wp2
  go_ret
  exact ⟨congrArg (fun x => Ending.returned (.string x)) (ByteArray.mk_append_mk (put s.size) s.data.toList), hb⟩
theorem put_box (n : Nat) (h1 : n ≤ 18446744073709551615) (w : World) :
    Calls Try.prog 29 #[.int .u64 n] w fun e w' => ∃ L : List UInt8, e = .returned (.string ⟨L.toArray⟩) ∧ Hid (L = put n) ∧ Below w.heap.size w w' :=
  (put_any n h1 w).mono fun _ _ h => ⟨put n, h.1, rfl, h.2⟩
end Go.Proofs.Ytkklchobiiajgaa
