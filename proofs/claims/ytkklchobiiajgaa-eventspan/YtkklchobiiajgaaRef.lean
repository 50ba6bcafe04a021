/- Contracts of the package vedetteref1's functions on numbers over this translation: each returns what the plain functions say, and nothing that was there before is changed. -/
import Derived.Test.YtkklchobiiajgaaNum2
namespace Go.Proofs.Ytkklchobiiajgaa
open Go.RowKit
theorem conv1 {P : Program} {src dst e : TypeId} (hs : P.underlying src = some (.slice e)) (he : P.underlying e = some (.int .u8)) (hd : P.underlying dst = some .string) (wr : World) (b : UInt8) (x : Int) (hx : (b.toNat : Int) = x) :
    (convert src dst (.slice (some ⟨wr.heap.size, 0, none⟩) 1 1)).run P (wr.alloc (.cells #[.int .u8 x] e)) = .ok (.string ⟨[b].toArray⟩) (wr.alloc (.cells #[.int .u8 x] e)) := by
  subst hx
  rw [← strOfU8s]
  refine run_convert_bytes_arg _ src e hs he wr.heap.size 0 1 1 _ rfl (fun i hi => ?_) dst hd
  obtain rfl : i = 0 := by omega
  simp
theorem and_or_walk (m : Nat) (h : m ≤ 18446744073709551615) : bits .or .u8 (bits .and .u64 (m : Int) 127 % 256) 128 = ((moreB m).toNat : Int) := by
  have e := u64_and_nat m 127 (by omega) (by omega)
  rw [nat_mask7, show ((127 : Nat) : Int) = 127 from rfl] at e
  have := or128 (m % 128)
  rw [e, this]
  unfold moreB
  rw [Nat.mod_mod]
set_option maxRecDepth 100000 in
set_option maxHeartbeats 400000 in
theorem ref_put (n : Nat) (h1 : n ≤ 18446744073709551615) (w : World) :
    Calls Try.prog 31 #[.int .u64 n] w fun e w' => e = .returned (.string ⟨(put n).toArray⟩) ∧ Below w.heap.size w w' := by
  obtain ⟨i0, hi, hz0, hz1, hz2⟩ := info_parts Try.info5
  go_enter Try.func31, Try.ntmps31
  go_wp2
  go_loopw [0, 3] (fun v s wr => ∃ (m k : Nat) (xs : List UInt8), v = .int .u64 m ∧ m * 128 ^ k ≤ 18446744073709551615 ∧ k ≤ 9 ∧ xs.length = k ∧ xs ++ putF (9 - k) m = put n ∧ s = .string ⟨xs.toArray⟩ ∧ Below w.heap.size w wr) (fun v _ _ => (intOf v).toNat)
  case atStart => exact ⟨n, 0, [], rfl, by omega, by omega, rfl, rfl, rfl, Below.refl _ _⟩
  case round =>
    obtain ⟨m, k, xs, rfl, hm, hk, hxs, heq, rfl, hb⟩ := hrel
    have hmb : m ≤ 18446744073709551615 := m_bound m k hm
    have H1 : Hid (m * 128 ^ k ≤ 18446744073709551615) := hm
    have H2 : Hid (xs ++ putF (9 - k) m = put n) := heq
    have H3 : Hid (xs.length = k) := hxs
    have hsz := hb.size
    have hxl : xs.length ≤ 9 := by omega
    clear heq hxs
    by_cases hlt : 128 ≤ m
    · have hk9 : k ≤ 8 := k_bound m k hm hlt
      clear hm
      have ho := and_or_walk m hmb
      have hcv := conv1 (P := Try.prog) (src := 58) (dst := 9) Try.underlying58 Try.underlying5 Try.underlying9 wr (moreB m) _ rfl
      go_wp2
      go_roundw
      case rel =>
        refine ⟨m / 128, k + 1, xs ++ [moreB m], by go_num, m_next m k H1.out, by omega, by simp [H3.out], put_next H2.out hlt hk9, ?_, hb.alloc hsz _⟩
        rw [ByteArray.mk_append_mk]
      case measure => simp [intOf]; omega
    · have hcv := conv1 (P := Try.prog) (src := 58) (dst := 9) Try.underlying58 Try.underlying5 Try.underlying9 wr (lastB m) m (by rw [last_eq m (by omega)])
      go_wp2
      go_ret
      have h2 := H2.out
      rw [putF_last _ _ (by omega)] at h2
      rw [← h2]
      exact ⟨congrArg (fun x => Ending.returned (.string x)) (ByteArray.mk_append_mk _ _), hb.alloc hsz _⟩
theorem and127 (b : Nat) (h : b < 256) : bits .and .u8 (b : Int) 127 = ((b % 128 : Nat) : Int) := by
  have e := u8_and_nat b 127 h (by omega)
  rw [nat_mask7] at e
  exact e
theorem or_ref (acc b k : Nat) (h : acc < 128 ^ k) (hk : k ≤ 9) (hb : b < 256) (h9 : k = 9 → b ≤ 1) : bits .or .u64 (acc : Int) (IntKind.u64.wrap (IntKind.u64.wrap (bits .and .u8 (b : Int) 127) * 2 ^ (7 * k))) = ((acc + b % 128 * 128 ^ k : Nat) : Int) := by
  rw [and127 b hb, IntWalk.u64_in ((b % 128 : Nat) : Int) ⟨by omega, by omega⟩, or_walk acc (b % 128) k h hk (by omega) (by omega)]
theorem or_ref9 (acc b k : Nat) (h : acc < 128 ^ k) (hk : (k : Int) = 9) (hb : (b : Int) ≤ 1) : bits .or .u64 (acc : Int) (IntKind.u64.wrap (IntKind.u64.wrap (bits .and .u8 (b : Int) 127) * 9223372036854775808)) = ((acc + b * 128 ^ k : Nat) : Int) := by
  rw [and127 b (by omega), IntWalk.u64_in ((b % 128 : Nat) : Int) ⟨by omega, by omega⟩, IntWalk.u64_in _ ⟨by omega, by omega⟩, Nat.mod_eq_of_lt (by omega), or_walk9 acc b k h hk hb]
theorem getF_bad0' {s : ByteArray} {k acc : Nat} {h : k < s.size} {r : Nat × Nat × Nat} (e : getF (s.data.toList.drop k) k acc = r) (h1 : 0 < k) (h2 : s[k].toNat = 0) : r = (0, 0, 11) := by
  rw [← e, getF_at s k acc h, if_neg (by omega), if_pos (by omega)]
theorem getF_end' {s : ByteArray} {k acc b : Nat} {h : k < s.size} {r : Nat × Nat × Nat} (e : getF (s.data.toList.drop k) k acc = r) (hb : s[k].toNat = b) (h1 : (k : Int) = 9 → (b : Int) ≤ 1) (h2 : 0 < k → ¬ b = 0) (h3 : (b : Int) < 128) : r = (acc + b * 128 ^ k, k + 1, 0) := by
  rw [← e, getF_at s k acc h, if_neg (by omega), if_neg (by omega), if_pos (by omega), hb]
set_option maxRecDepth 100000 in
set_option maxHeartbeats 400000 in
theorem ref_get (s : ByteArray) (hs : s.size ≤ maxLen) (w : World) :
    Calls Try.prog 50 #[.string s] w fun e w' => e = .returned (.tuple #[.int .u64 (get s.data.toList).1, .int .i64 (get s.data.toList).2.1, .int .i64 (get s.data.toList).2.2]) ∧ w' = w := by
  unfold maxLen at hs
  go_enter Try.func50, Try.ntmps50
  go_wp2
  go_loop [5, 6] (fun n i => ∃ k acc : Nat, k ≤ s.size ∧ k ≤ 9 ∧ i = .int .i64 k ∧ n = .int .u64 acc ∧ acc < 128 ^ k ∧ getF (s.data.toList.drop k) k acc = get s.data.toList) (fun _ i => s.size - (intOf i).toNat)
  case atStart => exact ⟨0, 0, by omega, by omega, rfl, rfl, by omega, rfl⟩
  case round =>
    obtain ⟨k, acc, hk, hk9, rfl, rfl, hacc, heq⟩ := hrel
    have H1 : Hid (acc < 128 ^ k) := hacc
    have H2 : Hid (getF (s.data.toList.drop k) k acc = get s.data.toList) := heq
    clear hacc heq
    by_cases hlt : k < s.size
    · go_wp2
      · go_ret3
        rw [getF_bad9 H2.out ‹_› ‹_›]
        exact ⟨fin3 rfl rfl rfl, rfl⟩
      · go_ret3
        rw [getF_bad0' H2.out (by omega) ‹_›]
        exact ⟨fin3 rfl rfl rfl, rfl⟩
      · go_ret3
        rw [getF_end' H2.out rfl (fun _ => ‹_›) (fun _ => ‹_›) ‹_›]
        exact ⟨fin3 (or_ref9 acc _ k H1.out ‹_› ‹_›) (by simp; omega) rfl, rfl⟩
      · go_ret3
        rw [getF_bad0' H2.out (by omega) ‹_›]
        exact ⟨fin3 rfl rfl rfl, rfl⟩
      · go_ret3
        rw [getF_end' H2.out ‹_› (fun _ => by omega) (fun _ => by omega) (by omega)]
        exact ⟨fin3 (or_ref acc 0 k H1.out hk9 (by omega) (by omega)) (by simp) rfl, rfl⟩
      · go_ret3
        rw [getF_end' H2.out rfl (fun _ => by omega) (fun _ => ‹_›) ‹_›]
        refine ⟨fin3 ?_ (by simp) rfl, rfl⟩
        rw [or_ref acc _ k H1.out hk9 (by omega) (by omega), Nat.mod_eq_of_lt (by omega)]
      · have hlt' := s[k].toNat_lt
        go_round
        case rel =>
          refine ⟨k + 1, acc + (s[k].toNat - 128) * 128 ^ k, by omega, by omega, by go_num, ?_, acc_next _ _ _ H1.out (by omega), getF_go H2.out ‹_› ‹_›⟩
          rw [or_ref acc _ k H1.out hk9 (by omega) (by omega), show s[k].toNat % 128 = s[k].toNat - 128 by omega]
        case measure => simp [intOf]; omega
    · go_wp2
      go_ret3
      rw [getF_out H2.out hlt]
      exact ⟨fin3 rfl rfl rfl, rfl⟩
theorem if_max (most : Int) : (if 0 < most then most else 0) = if most < 0 then 0 else most := by split <;> split <;> omega
theorem cut_text' (s : ByteArray) (k n : Nat) : s.extract k (k + n) = ⟨((s.data.toList.drop k).take n).toArray⟩ := by
  obtain ⟨⟨l⟩⟩ := s
  have e1 := ByteArray.extract_mk l k (k + n)
  rw [show k + n - k = n by omega] at e1
  exact e1
theorem ref_get_eq {s : ByteArray} {n k e : Nat} (h : Hid (get s.data.toList = (n, k, e))) (hs : s.size ≤ maxLen) (w : World) :
    Calls Try.prog 50 #[.string s] w fun x w' => x = .returned (.tuple #[.int .u64 n, .int .i64 k, .int .i64 e]) ∧ w' = w := by
  have := ref_get s hs w
  rw [h.out] at this
  exact this
set_option maxRecDepth 100000 in
set_option maxHeartbeats 400000 in
theorem ref_zig (z : Int) (h0 : -9223372036854775808 ≤ z) (h1 : z ≤ 9223372036854775807) (w : World) :
    Calls Try.prog 72 #[.int .i64 z] w fun e w' => e = .returned (.int .u64 (zig z)) ∧ w' = w := by
  go_enter Try.func72, Try.ntmps72
  go_wp2
  go_ret
  exact ⟨congrArg (fun x => Ending.returned (.int .u64 x)) (zig_walk z h0 h1), rfl⟩
set_option maxRecDepth 100000 in
set_option maxHeartbeats 400000 in
theorem ref_zag (n : Nat) (h1 : n ≤ 18446744073709551615) (w : World) :
    Calls Try.prog 88 #[.int .u64 n] w fun e w' => e = .returned (.int .i64 (zag n)) ∧ w' = w := by
  go_enter Try.func88, Try.ntmps88
  go_wp2
  go_ret
  exact ⟨congrArg (fun x => Ending.returned (.int .i64 x)) (zag_walk n h1), rfl⟩
set_option maxRecDepth 100000 in
set_option maxHeartbeats 400000 in
theorem ref_int (z : Int) (h0 : -9223372036854775808 ≤ z) (h1 : z ≤ 9223372036854775807) (w : World) :
    Calls Try.prog 59 #[.int .i64 z] w fun e w' => e = .returned (.string ⟨(put (zig z)).toArray⟩) ∧ Below w.heap.size w w' := by
  go_enter Try.func59, Try.ntmps59
  go_wp2_with fail
  refine (ref_zig z h0 h1 _).mono ?_
  rintro x w1 ⟨rfl, rfl⟩
  go_wp2_with fail
  refine (ref_put _ (zig_le z h0 h1) _).mono ?_
  rintro x w2 ⟨rfl, hb⟩
  go_wp2
  go_ret
  exact ⟨rfl, hb⟩
set_option maxRecDepth 100000 in
set_option maxHeartbeats 400000 in
theorem ref_ints (s : ByteArray) (hs : s.size ≤ maxLen) (w : World) :
    Calls Try.prog 81 #[.string s] w fun e w' => e = .returned (.tuple #[.int .i64 (zag (get s.data.toList).1), .int .i64 (get s.data.toList).2.1, .int .i64 (get s.data.toList).2.2]) ∧ w' = w := by
  rcases hg : get s.data.toList with ⟨n, k, e⟩
  obtain ⟨hn, _⟩ := get_ok hg
  have HG : Hid (get s.data.toList = (n, k, e)) := hg
  clear hg
  go_enter Try.func81, Try.ntmps81
  go_wp2_with fail
  refine (ref_get_eq HG hs _).mono ?_
  rintro x w' ⟨rfl, rfl⟩
  go_wp2_with fail
  refine (ref_zag n hn _).mono ?_
  rintro x w1 ⟨rfl, rfl⟩
  go_wp2
  go_ret3
  exact ⟨rfl, rfl⟩
set_option maxRecDepth 100000 in
set_option maxHeartbeats 400000 in
theorem ref_text (s : ByteArray) (hs : s.size ≤ 281474976710656) (w : World) :
    Calls Try.prog 58 #[.string s] w fun e w' => e = .returned (.string ⟨(text s.data.toList).toArray⟩) ∧ Below w.heap.size w w' := by
  have hl := (put_length s.size).2
  go_enter Try.func58, Try.ntmps58
  go_wp2_with fail
  refine (ref_put s.size (by omega) _).mono ?_
  rintro x w1 ⟨rfl, hb⟩
  go_wp2
  go_ret
  exact ⟨congrArg (fun x => Ending.returned (.string x)) (ByteArray.mk_append_mk (put s.size) s.data.toList), hb⟩
set_option maxRecDepth 100000 in
set_option maxHeartbeats 400000 in
theorem ref_texts (s : ByteArray) (most : Int) (hs : s.size ≤ 281474976710656) (hm0 : -9223372036854775808 ≤ most) (hm1 : most ≤ 9223372036854775807) (w : World) :
    Calls Try.prog 80 #[.string s, .int .i64 most] w fun x w' => x = .returned (.tuple #[.string ⟨(texts s.data.toList most).1.toArray⟩, .int .i64 (texts s.data.toList most).2.1, .int .i64 (texts s.data.toList most).2.2]) ∧ w' = w := by
  rcases hg : get s.data.toList with ⟨n, k, e⟩
  obtain ⟨hn, hk, hk1, he, hek⟩ := get_ok hg
  have hk : k ≤ s.size := hk
  have HG : Hid (get s.data.toList = (n, k, e)) := hg
  clear hg
  go_enter Try.func80, Try.ntmps80
  go_wp2_with fail
  refine (ref_get_eq HG (by unfold maxLen; omega) _).mono ?_
  rintro x w' ⟨rfl, rfl⟩
  go_wp2
  · go_ret3
    rw [texts_bad HG.out ‹_›]
    exact ⟨fin3s rfl rfl rfl, rfl⟩
  · go_ret3
    rw [texts_13 HG.out ‹_› (by rw [← if_max]; assumption)]
    exact ⟨fin3s rfl rfl rfl, rfl⟩
  · go_ret3
    rw [texts_13 HG.out ‹_› (by rw [← if_max]; assumption)]
    exact ⟨fin3s rfl rfl rfl, rfl⟩
  · go_ret3
    rw [texts_10 HG.out ‹_› (by rw [← if_max]; assumption) (by omega)]
    exact ⟨fin3s rfl rfl rfl, rfl⟩
  all_goals
    go_ret3
    rw [texts_0 HG.out ‹_› (by rw [← if_max]; assumption) (by omega)]
    exact ⟨fin3s (cut_text' s k n) (by simp) rfl, rfl⟩
end Go.Proofs.Ytkklchobiiajgaa
