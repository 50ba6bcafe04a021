/- Contracts of sum.Open, sum.Wrap in the forms that laws ask for, and what a frame that is opened comes to. -/
import Derived.Test.YtcolllffjlahbaaSum
import Derived.Deep.RegionWith
namespace Go.Proofs.Ytcolllffjlahbaa
open Go.RowKit
set_option linter.unusedVariables false
theorem of_at {s : ByteArray} {c : Nat} (H : Hid (c = crc s.data.toList)) (hs : s.size ≤ 281474976710656) (w : World) :
    Calls Try.prog 12 #[.string s] w fun e w' => e = .returned (.int .u32 c) ∧ w' = w := by
  rw [H.out]; exact sum_of s hs w
theorem tell_at {c : Nat} {L : List UInt8} (H : Hid (L = four c)) (hc : c < 4294967296) (w : World) :
    Calls Try.prog 17 #[.int .u32 c] w fun e w' => e = .returned (.string ⟨L.toArray⟩) ∧ Below w.heap.size w w' := by
  rw [H.out]; exact sum_tell c hc w
theorem wrap_at {s : ByteArray} {L : List UInt8} (H : Hid (L = wrap s.data.toList)) (hs : s.size ≤ 140737488355328) (w : World) :
    Calls Try.prog 14 #[.string s] w fun e w' => e = .returned (.string ⟨L.toArray⟩) ∧ Below w.heap.size w w' := by
  rw [H.out]; exact sum_wrap s hs w
theorem bytes_eq (a b : ByteArray) : a = b ↔ a.data.toList = b.data.toList :=
  ⟨fun h => by rw [h], fun h => ByteArray.ext (Array.toList_inj.mp h)⟩
theorem cut_four (s : ByteArray) (k : Nat) (hk : k ≤ s.size) : ((s.extract k s.size).extract 0 4).data.toList = (s.data.toList.drop k).take 4 := by
  rw [cut_text s k 4 hk]
set_option maxRecDepth 100000 in
set_option maxHeartbeats 1000000 in
theorem sum_open (s : ByteArray) (hs : s.size ≤ 140737488355328) (w : World) :
    Calls Try.prog 10 #[.string s] w fun e w' => e = .returned (.tuple #[.string ⟨(unwrap s.data.toList).1.toArray⟩, .int .i64 (unwrap s.data.toList).2.1, .int .i64 (unwrap s.data.toList).2.2]) ∧ Below w.heap.size w w' := by
  rcases hg : texts s.data.toList 40000 with ⟨b, k, e⟩
  obtain ⟨hk, hbl, hbm, he, hek⟩ := texts_ok hg
  have hk : k ≤ s.size := hk
  have HG : Hid (texts s.data.toList 40000 = (b, k, e)) := hg
  obtain ⟨u, hu⟩ : ∃ u : ByteArray, u = ⟨b.toArray⟩ := ⟨_, rfl⟩
  have HU : Hid (texts s.data.toList 40000 = (u.data.toList, k, e)) := by rw [hu]; exact hg
  have hul : u.size ≤ s.size := by rw [hu]; exact hbl
  have hub : u.data.toList = b := by rw [hu]
  obtain ⟨c, hc⟩ : ∃ c, c = crc u.data.toList := ⟨_, rfl⟩
  have hcl : c < 4294967296 := hc ▸ crc_lt _
  have HC : Hid (c = crc u.data.toList) := hc
  obtain ⟨F, hF⟩ : ∃ F, F = four c := ⟨_, rfl⟩
  have hfl : F.length = 4 := hF ▸ rfl
  have HF : Hid (F = four c) := hF
  have HB : Hid (u.data.toList = b) := hub
  clear hc hF hg hek hbm hu hub hbl
  go_enter Try.func10, Try.ntmps10
  go_wp2_with fail
  refine (texts_at HU (by omega) (by omega) (by omega) _).mono ?_
  rintro x w1 ⟨rfl, hb1⟩
  have hs1 := hb1.size
  by_cases h0 : e = 0
  · subst h0
    by_cases h4 : s.size - k < 4
    · go_wp2
      go_ret3
      rw [unwrap_10 HG.out h4]
      exact ⟨fin3s rfl rfl rfl, hb1⟩
    · go_wp2
      go_region_with (first | (go_at_call 12; refine (of_at HC (by omega) _).mono ?_; rintro x w2 ⟨rfl, rfl⟩) | (go_at_call 17; refine (tell_at HF hcl _).mono ?_; rintro x w3 ⟨rfl, hb3⟩))
      all_goals
        have hb4 := hb1.drew.trans (hb3.mono hs1)
        go_wp2
        · go_ret3
          rw [unwrap_12 HG.out h4 (by
            have h := ‹(!_) = true›
            rw [ByteArray.toList_eq, cut_four s k hk, HF.out, HC.out, HB.out] at h
            simpa using h)]
          exact ⟨fin3s rfl rfl rfl, hb4⟩
        · go_ret3
          rw [unwrap_0 HG.out h4 (by
            have h := ‹(!_) = false›
            rw [ByteArray.toList_eq, cut_four s k hk, HF.out, HC.out, HB.out] at h
            simpa using h)]
          exact ⟨fin3s (by rw [← HB.out]) (by simp) rfl, hb4⟩
  · go_wp2
    go_ret3
    rw [unwrap_bad HG.out h0]
    exact ⟨fin3s rfl rfl rfl, hb1⟩
theorem open_at {s u : ByteArray} {k e : Nat} (h : Hid (unwrap s.data.toList = (u.data.toList, k, e))) (hs : s.size ≤ 140737488355328) (w : World) :
    Calls Try.prog 10 #[.string s] w fun x w' => x = .returned (.tuple #[.string u, .int .i64 k, .int .i64 e]) ∧ Below w.heap.size w w' := by
  have := sum_open s hs w
  rw [h.out] at this
  exact this
end Go.Proofs.Ytcolllffjlahbaa
