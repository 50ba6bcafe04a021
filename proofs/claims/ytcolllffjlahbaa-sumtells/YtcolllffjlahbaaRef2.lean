/- Contracts of vedetteref1's Of, Wrap, Open over this translation. -/
import Derived.Test.YtcolllffjlahbaaSum2
import Derived.Test.YtcolllffjlahbaaSumP2
import Derived.Test.YtcolllffjlahbaaRef
import Derived.Deep.RegionWith
namespace Go.Proofs.Ytcolllffjlahbaa
open Go.RowKit
set_option linter.unusedVariables false
set_option maxRecDepth 100000 in
set_option maxHeartbeats 400000 in
theorem ref_of (s : ByteArray) (hs : s.size ≤ 281474976710656) (w : World) :
    Calls Try.prog 13 #[.string s] w fun e w' => e = .returned (.int .u32 (crc s.data.toList)) ∧ w' = w := by
  go_enter Try.func13, Try.ntmps13
  go_wp2
  go_loop [3, 4] (fun c i => ∃ k a : Nat, k ≤ s.size ∧ i = .int .i64 k ∧ c = .int .u32 a ∧ a < 4294967296 ∧ crcF a (s.data.toList.drop k) = crcF 4294967295 s.data.toList) (fun _ i => s.size - (intOf i).toNat)
  case atStart => exact ⟨0, 4294967295, by omega, rfl, rfl, by omega, rfl⟩
  case round =>
    obtain ⟨k, a, hk, rfl, rfl, ha, heq⟩ := hrel
    have H2 : Hid (crcF a (s.data.toList.drop k) = crcF 4294967295 s.data.toList) := heq
    clear heq
    by_cases hlt : k < s.size
    · have hx := xor32 a s[k].toNat ha (u8_lt _)
      have hxl := xor_lt a s[k].toNat ha (u8_lt _)
      go_wp2
      go_loop [3, 5] (fun c j => ∃ n b : Nat, n ≤ 8 ∧ j = .int .i64 n ∧ c = .int .u32 b ∧ b < 4294967296 ∧ crcBits (8 - n) b = crcBits 8 (a ^^^ s[k].toNat)) (fun _ j => 8 - (intOf j).toNat)
      case atStart =>
        refine ⟨0, a ^^^ s[k].toNat, by omega, rfl, ?_, hxl, rfl⟩
        rw [Int.emod_eq_of_lt (by omega) (by have := s[k].toNat_lt; omega), hx]
      case round =>
        obtain ⟨n, b, hn, rfl, rfl, hb, heq⟩ := hrel
        have H3 : Hid (crcBits (8 - n) b = crcBits 8 (a ^^^ s[k].toNat)) := heq
        clear heq
        by_cases hlt8 : n < 8
        · have ha1 := and32 b hb
          have hx1 := xor32 (b / 2) 3988292384 (by omega) (by omega)
          have hx2 := xor_lt (b / 2) 3988292384 (by omega) (by omega)
          have H3' : Hid (crcBits (7 - n + 1) b = crcBits 8 (a ^^^ s[k].toNat)) := (show 8 - n = 7 - n + 1 by omega) ▸ H3
          rcases Nat.mod_two_eq_zero_or_one b with h0 | h0
          · rw [h0] at ha1
            go_wp2
            go_round
            case rel => exact ⟨n + 1, b / 2, by omega, by go_num, by go_num, by omega, by have e := H3'.out; rw [crcBits_even _ _ h0] at e; rw [show 8 - (n + 1) = 7 - n by omega]; exact e⟩
            case measure => simp [intOf]; omega
          · rw [h0] at ha1
            go_wp2
            go_round
            case rel => exact ⟨n + 1, b / 2 ^^^ 3988292384, by omega, by go_num, by rw [← hx1]; rfl, hx2, by have e := H3'.out; rw [crcBits_odd _ _ (by omega)] at e; rw [show 8 - (n + 1) = 7 - n by omega]; exact e⟩
            case measure => simp [intOf]; omega
        · obtain rfl : n = 8 := by omega
          have h3 := H3.out
          go_wp2
          go_round
          case rel => exact ⟨k + 1, b, by omega, by go_num, rfl, hb, by have e := H2.out; rw [crcF_at s k a hlt, ← h3] at e; exact e⟩
          case measure => simp [intOf]; omega
    · have h2 := H2.out
      rw [crcF_out s k a hlt] at h2
      have hx := xor32 a 4294967295 ha (by omega)
      go_wp2
      go_ret
      refine ⟨?_, rfl⟩
      unfold crc
      rw [← h2, ← hx]
      rfl
abbrev cells4 (c : Nat) (e : TypeId) : Obj := .cells #[.int .u8 (IntKind.u8.wrap c), .int .u8 (IntKind.u8.wrap ((c : Int) / 256)), .int .u8 (IntKind.u8.wrap ((c : Int) / 65536)), .int .u8 (IntKind.u8.wrap ((c : Int) / 16777216))] e
theorem conv4b {P : Program} {src dst e : TypeId} (hs : P.underlying src = some (.slice e)) (he : P.underlying e = some (.int .u8)) (hd : P.underlying dst = some .string) {wr W0 W : World} (g : Nat) (hg : wr.heap.size = g) (c : Nat) (hc : c < 4294967296) {F : List UInt8} (HF : Hid (F = four c))
    (hb : Below W0.heap.size W0 W) (h0 : W0.heap = (wr.alloc (cells4 c e)).heap) :
    (convert src dst (.slice (some ⟨g, 0, none⟩) 4 4)).run P W = .ok (.string ⟨F.toArray⟩) W := by
  subst hg
  rw [HF.out, ← strOfU8s]
  refine run_convert_bytes_arg _ src e hs he wr.heap.size 0 4 4 _ rfl (fun i hi => ?_) dst hd
  rw [hb.cell (by simp [h0]), show W0.cell? ⟨wr.heap.size, 0 + i, none⟩ = (wr.alloc (cells4 c e)).cell? ⟨wr.heap.size, 0 + i, none⟩ by simp only [World.cell?, h0]]
  match i, hi with
  | 0, _ => simp [four, IntKind.wrap_u8]
  | 1, _ => simp [four, IntKind.wrap_u8]
  | 2, _ => simp [four, IntKind.wrap_u8]
  | 3, _ => simp [four, IntKind.wrap_u8]
theorem conv4w {P : Program} {src dst e : TypeId} (hs : P.underlying src = some (.slice e)) (he : P.underlying e = some (.int .u8)) (hd : P.underlying dst = some .string) (wr : World) (c : Nat) (hc : c < 4294967296) {F : List UInt8} (HF : Hid (F = four c)) :
    (convert src dst (.slice (some ⟨wr.heap.size, 0, none⟩) 4 4)).run P (wr.alloc (.cells #[.int .u8 (IntKind.u8.wrap c), .int .u8 (IntKind.u8.wrap ((c : Int) / 256)), .int .u8 (IntKind.u8.wrap ((c : Int) / 65536)), .int .u8 (IntKind.u8.wrap ((c : Int) / 16777216))] e))
      = .ok (.string ⟨F.toArray⟩) (wr.alloc (.cells #[.int .u8 (IntKind.u8.wrap c), .int .u8 (IntKind.u8.wrap ((c : Int) / 256)), .int .u8 (IntKind.u8.wrap ((c : Int) / 65536)), .int .u8 (IntKind.u8.wrap ((c : Int) / 16777216))] e)) :=
  conv4b hs he hd wr.heap.size rfl c hc HF (Below.refl _ _) rfl
set_option maxRecDepth 100000 in
set_option maxHeartbeats 1000000 in
theorem ref_wrap (s : ByteArray) (hs : s.size ≤ 140737488355328) (w : World) :
    Calls Try.prog 15 #[.string s] w fun e w' => e = .returned (.string ⟨(wrap s.data.toList).toArray⟩) ∧ Below w.heap.size w w' := by
  have hl : (text s.data.toList).length ≤ 140737488355338 := by
    unfold text
    have := (put_length s.data.toList.length).2
    simp at this ⊢
    omega
  obtain ⟨L, hL⟩ : ∃ L, L = text s.data.toList := ⟨_, rfl⟩
  rw [← hL] at hl
  have HL : Hid (L = text s.data.toList) := hL
  obtain ⟨c, hc⟩ : ∃ c, c = crc s.data.toList := ⟨_, rfl⟩
  have hcl : c < 4294967296 := hc ▸ crc_lt _
  have HC : Hid (c = crc s.data.toList) := hc
  obtain ⟨F, hF⟩ : ∃ F, F = four c := ⟨_, rfl⟩
  have hfl : F.length = 4 := hF ▸ rfl
  have HF : Hid (F = four c) := hF
  clear hL hc hF
  go_enter Try.func15, Try.ntmps15
  go_wp2_with fail
  refine (ref_of s (by omega) _).mono ?_
  rintro e w2 ⟨rfl, rfl⟩
  rw [← HC.out]
  have hcv0 := conv4b (P := Try.prog) (src := 33) (dst := 9) Try.underlying33 Try.underlying5 Try.underlying9 w2.heap.size rfl c hcl HF (Below.refl (w2.alloc (.cells #[.int .u8 (IntKind.u8.wrap c), .int .u8 (IntKind.u8.wrap ((c : Int) / 256)), .int .u8 (IntKind.u8.wrap ((c : Int) / 65536)), .int .u8 (IntKind.u8.wrap ((c : Int) / 16777216))] 5)).drew.heap.size _) rfl
  go_wp2
  go_region_with (go_at_call 20; refine (ref_text s (by omega) _).mono ?_; rintro x w3 ⟨rfl, hb3⟩; rw [← HL.out]; (first | have hcv1 := conv4b (P := Try.prog) (src := 33) (dst := 9) Try.underlying33 Try.underlying5 Try.underlying9 w2.heap.size rfl c hcl HF hb3 rfl | have hcv1 := conv4w (P := Try.prog) (src := 33) (dst := 9) Try.underlying33 Try.underlying5 Try.underlying9 w3 c hcl HF))
  all_goals
    go_wp2
    go_ret
    refine ⟨?_, ?_⟩
    · unfold wrap
      rw [← HL.out, ← HC.out, ← HF.out]
      exact congrArg (fun x => Ending.returned (.string x)) (ByteArray.mk_append_mk _ _)
    · first
      | exact ((Below.refl w2.heap.size w2).drew.trans hb3).alloc hb3.size _
      | exact (((Below.refl w2.heap.size w2).alloc (Nat.le_refl _) _).drew.trans (hb3.mono (by simp)))
theorem refwrap_at {s : ByteArray} {L : List UInt8} (H : Hid (L = wrap s.data.toList)) (hs : s.size ≤ 140737488355328) (w : World) :
    Calls Try.prog 15 #[.string s] w fun e w' => e = .returned (.string ⟨L.toArray⟩) ∧ Below w.heap.size w w' := by
  rw [H.out]; exact ref_wrap s hs w
theorem reftexts_at {s u : ByteArray} {most : Int} {k e : Nat} (h : Hid (texts s.data.toList most = (u.data.toList, k, e))) (hs : s.size ≤ 281474976710656) (hm0 : -9223372036854775808 ≤ most) (hm1 : most ≤ 9223372036854775807) (w : World) :
    Calls Try.prog 18 #[.string s, .int .i64 most] w fun x w' => x = .returned (.tuple #[.string u, .int .i64 k, .int .i64 e]) ∧ w' = w := by
  have := ref_texts s most hs hm0 hm1 w
  rw [h.out] at this
  exact this
theorem refof_at {s : ByteArray} {c : Nat} (H : Hid (c = crc s.data.toList)) (hs : s.size ≤ 281474976710656) (w : World) :
    Calls Try.prog 13 #[.string s] w fun e w' => e = .returned (.int .u32 c) ∧ w' = w := by
  rw [H.out]; exact ref_of s hs w
theorem cut_first (s : ByteArray) (n : Nat) : (s.extract 0 n).data.toList = s.data.toList.take n := by
  simp [ByteArray.data_extract]
theorem take_wrap {l b : List UInt8} {k : Nat} (h : texts l 40000 = (b, k, 0)) : wrap b = l.take (k + 4) ↔ (l.drop k).take 4 = four (crc b) := by
  rw [List.take_add, texts_front h]
  unfold wrap
  rw [List.append_cancel_left_eq]
  exact eq_comm
set_option maxRecDepth 100000 in
set_option maxHeartbeats 1000000 in
theorem ref_open (s : ByteArray) (hs : s.size ≤ 140737488355328) (w : World) :
    Calls Try.prog 11 #[.string s] w fun e w' => e = .returned (.tuple #[.string ⟨(unwrap s.data.toList).1.toArray⟩, .int .i64 (unwrap s.data.toList).2.1, .int .i64 (unwrap s.data.toList).2.2]) ∧ Below w.heap.size w w' := by
  rcases hg : texts s.data.toList 40000 with ⟨b, k, e⟩
  obtain ⟨hk, hbl, hbm, he, hek⟩ := texts_ok hg
  have hk : k ≤ s.size := hk
  have HG : Hid (texts s.data.toList 40000 = (b, k, e)) := hg
  obtain ⟨u, hu⟩ : ∃ u : ByteArray, u = ⟨b.toArray⟩ := ⟨_, rfl⟩
  have HU : Hid (texts s.data.toList 40000 = (u.data.toList, k, e)) := by rw [hu]; exact hg
  have hul : u.size ≤ s.size := by rw [hu]; exact hbl
  have hub : u.data.toList = b := by rw [hu]
  obtain ⟨L, hL⟩ : ∃ L, L = wrap u.data.toList := ⟨_, rfl⟩
  have HL : Hid (L = wrap u.data.toList) := hL
  have HB : Hid (u.data.toList = b) := hub
  clear hL hg hek hbm hu hub hbl
  go_enter Try.func11, Try.ntmps11
  go_wp2_with fail
  refine (reftexts_at HU (by omega) (by omega) (by omega) _).mono ?_
  rintro x w1 ⟨rfl, rfl⟩
  by_cases h0 : e = 0
  · subst h0
    by_cases h4 : s.size < k + 4
    · go_wp2
      go_ret3
      rw [unwrap_10 HG.out (show s.size - k < 4 by omega)]
      exact ⟨fin3s rfl rfl rfl, Below.refl _ _⟩
    · have h4' : ¬ s.data.toList.length - k < 4 := show ¬ s.size - k < 4 by omega
      have hw4 : IntKind.i64.wrap ((k : Int) + 4) = ((k + 4 : Nat) : Int) := by rw [IntKind.wrap_i64]; omega
      have hle : k + 4 ≤ s.size := by omega
      go_wp2
      go_region_with ((go_at_call 15; refine (refwrap_at HL (by omega) _).mono ?_; rintro x w3 ⟨rfl, hb3⟩))
      all_goals
        have hb4 := (Below.refl w1.heap.size w1).drew.trans hb3
        go_wp2
        · go_ret3
          rw [unwrap_12 HG.out h4' (fun e => by
            have h := ‹(!_) = true›
            rw [ByteArray.toList_eq, cut_first s (k + 4), HL.out, HB.out, (take_wrap HG.out).mpr e] at h
            simp at h)]
          exact ⟨fin3s rfl rfl rfl, hb4⟩
        · go_ret3
          rw [unwrap_0 HG.out h4' ((take_wrap HG.out).mp (by
            have h := ‹(!_) = false›
            rw [ByteArray.toList_eq, cut_first s (k + 4), HL.out, HB.out] at h
            simpa using h))]
          exact ⟨fin3s (by rw [← HB.out]) (by simp) rfl, hb4⟩
  · go_wp2
    go_ret3
    rw [unwrap_bad HG.out h0]
    exact ⟨fin3s rfl rfl rfl, Below.refl _ _⟩
theorem refopen_at {s u : ByteArray} {k e : Nat} (h : Hid (unwrap s.data.toList = (u.data.toList, k, e))) (hs : s.size ≤ 140737488355328) (w : World) :
    Calls Try.prog 11 #[.string s] w fun x w' => x = .returned (.tuple #[.string u, .int .i64 k, .int .i64 e]) ∧ Below w.heap.size w w' := by
  have := ref_open s hs w
  rw [h.out] at this
  exact this
end Go.Proofs.Ytcolllffjlahbaa
