/- Contracts of the package num's functions over this translation: each returns what the plain functions say, and nothing that was there before is changed. -/
import Derived.Test.YtkklchobiiajgaaRows
import Derived.Test.YtkklchobiiajgaaPlain
import Derived.Lib.BufferWrite
import Derived.Lib.UnsafeStr
import Derived.Laws.MakeOwn
namespace Go.Proofs.Ytkklchobiiajgaa
open Go.RowKit
theorem Try.info5 : (Try.prog.info? 5).map (fun i => (i.zero, i.size, i.bytes)) = some (some (.int .u8 0), 1, 1) := by kernel_rfl
set_option maxRecDepth 100000 in
set_option maxHeartbeats 400000 in
theorem put_any (n : Nat) (h1 : n ≤ 18446744073709551615) (w : World) :
    Calls Try.prog 29 #[.int .u64 n] w fun e w' => e = .returned (.string ⟨(put n).toArray⟩) ∧ Below w.heap.size w w' := by
  obtain ⟨i0, hi, hz0, hz1, hz2⟩ := info_parts Try.info5
  go_enter Try.func29, Try.ntmps29
  go_wp2_with (at_make; refine wpList_make_own _ rfl _ _ 58 rfl w.heap.size 5 i0 (.int .u8 0) 1 Try.underlying58 hi hz0 hz1 _ _ _ 10 rfl rfl rfl (by omega) (by decide) (Nat.le_refl _) ?_)
  intro w1 hown hgrow
  have hb1 : Below w.heap.size w w1 := (Below.refl _ _).grown hgrow (Nat.le_refl _) (by simp)
  go_wp2
  go_loopw [0, 3] (fun v s wr => ∃ (m k : Nat) (xs : List UInt8), v = .int .u64 m ∧ m * 128 ^ k ≤ 18446744073709551615 ∧ k ≤ 9 ∧ xs.length = k ∧ xs ++ putF (9 - k) m = put n ∧ s = .slice (some ⟨w.heap.size, 0, none⟩) k 10 ∧ wr.ownsRow w.heap.size 5 1 (.slice (some ⟨w.heap.size, 0, none⟩) k 10) k (u8s xs) ∧ Below w.heap.size w wr) (fun v _ _ => (intOf v).toNat)
  case atStart => exact ⟨n, 0, [], rfl, by omega, by omega, rfl, rfl, rfl, hown, hb1⟩
  case round =>
    clear hown hgrow
    obtain ⟨m, k, xs, rfl, hm, hk, hxs, heq, rfl, hown, hb⟩ := hrel
    have hmb : m ≤ 18446744073709551615 := m_bound m k hm
    have H1 : Hid (m * 128 ^ k ≤ 18446744073709551615) := hm
    have H2 : Hid (xs ++ putF (9 - k) m = put n) := heq
    have H3 : Hid (xs.length = k) := hxs
    have hsz := hb.size
    clear heq hxs
    by_cases hlt : 128 ≤ m
    · have hk9 : k ≤ 8 := k_bound m k hm hlt
      clear hm
      have ho := or128 m
      go_wp2_with (at_builtin; refine wpList_append_fits _ rfl _ _ 58 rfl w.heap.size 5 i0 1 Try.underlying58 hi hz1 w.heap.size k 10 (u8s xs) rfl (hown.alloc _) ⟨wr.heap.size, 0, none⟩ 1 1 (u8s [moreB m]) rfl rfl ?c1 ?c2 (by omega) ?_)
      case c1 =>
        intro j u hj
        match j, hj with
        | 0, hj => simp [u8s] at hj; subst hj; simp [Addr.add]
      case c2 => intro u hu; simp [u8s] at hu; subst hu; rfl
      intro w2 hown2 hgrow2
      have hb2 : Below w.heap.size w w2 := (hb.alloc hsz _).grown hgrow2 (by simp; omega) (by simp)
      clear hown hgrow2 hb
      go_wp2
      go_roundw
      case rel =>
        refine ⟨m / 128, k + 1, xs ++ [moreB m], by go_num, m_next m k H1.out, by omega, by simp [H3.out], put_next H2.out hlt hk9, rfl, ?_, hb2⟩
        rw [u8s_append]; exact hown2
      case measure => simp [intOf]; omega
    · have hL : Hid ((lastB m).toNat = m) := last_eq m (by omega)
      go_wp2_with (at_builtin; refine wpList_append_fits _ rfl _ _ 58 rfl w.heap.size 5 i0 1 Try.underlying58 hi hz1 w.heap.size k 10 (u8s xs) rfl (hown.alloc _) ⟨wr.heap.size, 0, none⟩ 1 1 (u8s [lastB m]) rfl rfl ?d1 ?d2 (by omega) ?_)
      case d1 =>
        intro j u hj
        match j, hj with
        | 0, hj => simp [u8s] at hj; subst hj; simp [Addr.add, hL.out]
      case d2 => intro u hu; simp [u8s] at hu; subst hu; rfl
      intro w2 hown2 hgrow2
      have hb2 : Below w.heap.size w w2 := (hb.alloc hsz _).grown hgrow2 (by simp; omega) (by simp)
      clear hown hgrow2 hb
      rw [← u8s_append] at hown2
      have hcv := convert_own (P := Try.prog) (src := 58) (dst := 9) Try.underlying58 Try.underlying5 Try.underlying9 hown2 (by simp [H3.out])
      go_wp2
      go_ret
      have h2 := H2.out
      rw [putF_last _ _ (by omega)] at h2
      exact ⟨by rw [← h2]; rfl, hb2⟩
set_option maxRecDepth 100000 in
set_option maxHeartbeats 400000 in
theorem get_any (s : ByteArray) (hs : s.size ≤ maxLen) (w : World) :
    Calls Try.prog 65 #[.string s] w fun e w' => e = .returned (.tuple #[.int .u64 (get s.data.toList).1, .int .i64 (get s.data.toList).2.1, .int .i64 (get s.data.toList).2.2]) ∧ w' = w := by
  unfold maxLen at hs
  go_enter Try.func65, Try.ntmps65
  go_wp2
  go_step3
  go_wp2
  go_step3
  go_wp2
  go_loop [5, 7, 12] (fun n e i => ∃ k acc : Nat, k ≤ s.size ∧ k ≤ 9 ∧ i = .int .i64 k ∧ n = .int .u64 acc ∧ e = .int .i64 10 ∧ acc < 128 ^ k ∧ getF (s.data.toList.drop k) k acc = get s.data.toList) (fun _ _ i => s.size - (intOf i).toNat)
  case atStart => exact ⟨0, 0, by omega, by omega, rfl, rfl, rfl, by omega, rfl⟩
  case round =>
    obtain ⟨k, acc, hk, hk9, rfl, rfl, rfl, hacc, heq⟩ := hrel
    have H1 : Hid (acc < 128 ^ k) := hacc
    have H2 : Hid (getF (s.data.toList.drop k) k acc = get s.data.toList) := heq
    clear hacc heq
    by_cases hlt : k < s.size
    · go_wp2
      · go_ret3
        rw [getF_bad9 H2.out ‹_› ‹_›]
        exact ⟨fin3 rfl rfl rfl, rfl⟩
      · go_ret3
        rw [getF_bad0 H2.out (by omega) ‹_›]
        exact ⟨fin3 rfl rfl rfl, rfl⟩
      · go_ret3
        rw [getF_end H2.out (fun _ => ‹_›) (fun _ => ‹_›) ‹_›]
        refine ⟨fin3 ?_ ?_ rfl, rfl⟩
        · exact or_walk9 acc _ k H1.out ‹_› ‹_›
        · simp; omega
      · go_ret3
        rw [getF_bad0 H2.out (by omega) ‹_›]
        exact ⟨fin3 rfl rfl rfl, rfl⟩
      · go_ret3
        rw [getF_end H2.out (fun _ => by omega) (fun _ => ‹_›) ‹_›]
        refine ⟨fin3 ?_ ?_ rfl, rfl⟩
        · exact or_walk acc _ k H1.out hk9 (by omega) (by omega)
        · simp
      · go_round
        case rel =>
          refine ⟨k + 1, acc + (s[k].toNat - 128) * 128 ^ k, by omega, by omega, by go_num, ?_, rfl, acc_next _ _ _ H1.out (by have := s[k].toNat_lt; omega), getF_go H2.out ‹_› ‹_›⟩
          rw [or_more acc _ k H1.out hk9 ‹_› ‹_› s[k].toNat_lt]
        case measure => simp [intOf]; omega
      · go_ret3
        rw [getF_end H2.out (fun _ => by omega) (fun _ => by omega) ‹_›]
        refine ⟨fin3 ?_ ?_ rfl, rfl⟩
        · exact or_walk acc _ k H1.out hk9 (by omega) (by omega)
        · simp
      · go_round
        case rel =>
          refine ⟨k + 1, acc + (s[k].toNat - 128) * 128 ^ k, by omega, by omega, by go_num, ?_, rfl, acc_next _ _ _ H1.out (by have := s[k].toNat_lt; omega), getF_go H2.out ‹_› ‹_›⟩
          rw [or_more acc _ k H1.out hk9 ‹_› ‹_› s[k].toNat_lt]
        case measure => simp [intOf]; omega
    · go_wp2
      go_ret3
      rw [getF_out H2.out hlt]
      exact ⟨fin3 rfl rfl rfl, rfl⟩
theorem Try.cells5 : Try.prog.cellsOf 5 = 1 := by kernel_rfl
set_option maxRecDepth 100000 in
set_option maxHeartbeats 1000000 in
theorem lite_clone (s : ByteArray) (w : World) (hs : s.size ≤ 281474976710656) :
    Calls Try.prog 92 #[.string s] w fun e w' => e = .returned (.string s) ∧ Below w.heap.size w w' := by
  rcases Nat.eq_zero_or_pos s.size with hz | hz
  · obtain rfl : s = ⟨#[]⟩ := ByteArray.ext (Array.eq_empty_of_size_eq_zero hz)
    go_enter Try.func92, Try.ntmps92
    go_wp2
    go_ret
    exact ⟨rfl, Below.refl _ _⟩
  · obtain ⟨i0, hi, hz0, hz1, hz2⟩ := info_parts Try.info5
    have hsz1 : (Try.prog.info? 5).map (·.size) = some 1 := by rw [hi]; simp [hz1]
    obtain ⟨M, hM, hmk⟩ : ∃ M : Array Value, M.size = s.size ∧ ∀ W : World, (Instr.makeSlice 58 (.int .i64 (s.size : Int)) (.int .i64 (s.size : Int))).run Try.prog W = .ok (.slice (some ⟨W.heap.size, 0, none⟩) s.size s.size) (W.alloc (.cells M 5)) := by
      refine ⟨madeCells (Value.int .u8 0).cells (((s.size : Nat) : Int).toNat * i0.size), by rw [size_madeCells, hz1]; simp, fun W => ?_⟩
      simpa using run_make (P := Try.prog) W 58 5 i0 (.int .u8 0) Try.underlying58 hi hz0 .i64 .i64 (s.size : Int) (s.size : Int) (by omega) (by omega) (by rw [hz2]; omega) (by omega)
    have hcp := Lib.run_copy_row_string (P := Try.prog) (w.alloc (.cells M 5)) 58 9 3 5 w.heap.size 0 s.size s.size s M 5 Try.underlying58 hsz1 (heap_alloc_new w _) (Nat.le_refl _) (by omega)
    obtain ⟨Y, hY, hYl⟩ : ∃ Y : Array Value, (M.toList.take 0 ++ Lib.byteCells s.data.toList ++ M.toList.drop (0 + s.size)).toArray = Y ∧ Y.toList = Lib.byteCells s.data.toList := by
      refine ⟨_, rfl, ?_⟩
      rw [List.drop_of_length_le (by rw [Array.length_toList]; omega)]
      simp
    rw [hY] at hcp
    have hYs : Y.size = s.size := by rw [← Array.length_toList, hYl, Lib.byteCells_length, ← Lib.size_eq]
    have hrow : ((w.alloc (.cells M 5)).setRow w.heap.size Y).heap[w.heap.size]? = some (.cells Y 5 (0, 0)) := setRow_heap _ _ M _ 5 (0, 0) (heap_alloc_new w _)
    have hus := Lib.run_unsafeString_row (P := Try.prog) ((w.alloc (.cells M 5)).setRow w.heap.size Y) 130 3 9 5 Try.underlying130 Try.cells5 w.heap.size Y.size (by unfold World.shape?; rw [hrow]) s.data.toList
      (fun e => by rw [Lib.size_eq, e] at hz; simp at hz) (by rw [← Lib.size_eq]; omega) (by rw [← Lib.size_eq]; omega)
      (fun j x hx => Lib.cells_of_row hrow Y.size j _ (by rw [List.take_of_length_le (by rw [Array.length_toList]; exact Nat.le_refl _), hYl]; simp [Lib.byteCells, hx]))
    rw [← Lib.size_eq] at hus
    clear hY
    go_enter Try.func92, Try.ntmps92
    go_wp2
    go_ret
    have hb1 : Below w.heap.size w (w.alloc (.cells M 5)) := (Below.refl _ w).alloc (Nat.le_refl _) _
    have hb2 : Below w.heap.size (w.alloc (.cells M 5)) ((w.alloc (.cells M 5)).setRow w.heap.size Y) := ⟨rfl, rfl, rfl, by simp, fun k hk => setRow_other _ _ _ _ (by omega)⟩
    exact ⟨rfl, Lib.below_freeze (hb1.trans hb2) (p := ⟨w.heap.size, 0, none⟩) (Nat.le_refl _) _⟩
set_option maxRecDepth 100000 in
set_option maxHeartbeats 400000 in
theorem str_clone (s : ByteArray) (w : World) (hs : s.size ≤ 281474976710656) :
    Calls Try.prog 90 #[.string s] w fun e w' => e = .returned (.string s) ∧ Below w.heap.size w w' := by
  go_enter Try.func90, Try.ntmps90
  go_wp2_with fail
  refine (lite_clone s _ hs).mono ?_
  rintro e w' ⟨rfl, hb⟩
  go_wp2
  go_ret
  exact ⟨rfl, hb⟩
set_option maxRecDepth 100000 in
set_option maxHeartbeats 400000 in
theorem num_zig (z : Int) (h0 : -9223372036854775808 ≤ z) (h1 : z ≤ 9223372036854775807) (w : World) :
    Calls Try.prog 89 #[.int .i64 z] w fun e w' => e = .returned (.int .u64 (zig z)) ∧ w' = w := by
  go_enter Try.func89, Try.ntmps89
  go_wp2
  go_ret
  exact ⟨congrArg (fun x => Ending.returned (.int .u64 x)) (zig_walk z h0 h1), rfl⟩
set_option maxRecDepth 100000 in
set_option maxHeartbeats 400000 in
theorem num_zag (n : Nat) (h1 : n ≤ 18446744073709551615) (w : World) :
    Calls Try.prog 91 #[.int .u64 n] w fun e w' => e = .returned (.int .i64 (zag n)) ∧ w' = w := by
  go_enter Try.func91, Try.ntmps91
  go_wp2
  go_ret
  exact ⟨congrArg (fun x => Ending.returned (.int .i64 x)) (zag_walk n h1), rfl⟩
end Go.Proofs.Ytkklchobiiajgaa
