/- Contracts of the package sum's functions over this translation: each returns what the plain functions say, and nothing that was there before is changed. -/
import Derived.Test.YtcolllffjlahbaaNum3
import Derived.Test.YtcolllffjlahbaaSumP
namespace Go.Proofs.Ytcolllffjlahbaa
open Go.RowKit
set_option linter.unusedVariables false
theorem crcF_at (s : ByteArray) (k c : Nat) (h : k < s.size) : crcF c (s.data.toList.drop k) = crcF (crcBits 8 (c ^^^ s[k].toNat)) (s.data.toList.drop (k + 1)) := by
  rw [List.drop_eq_getElem_cons (by simpa using h)]
  rfl
theorem crcF_out (s : ByteArray) (k c : Nat) (h : ¬ k < s.size) : crcF c (s.data.toList.drop k) = c := by
  rw [List.drop_eq_nil_of_le (by simpa using Nat.le_of_not_lt h)]
  rfl
theorem xor32 (a b : Nat) (ha : a < 4294967296) (hb : b < 4294967296) : bits .xor .u32 (a : Int) (b : Int) = ((a ^^^ b : Nat) : Int) := u32_xor_nat a b ha hb
theorem and32 (a : Nat) (ha : a < 4294967296) : bits .and .u32 (a : Int) 1 = ((a % 2 : Nat) : Int) := by
  have := u32_and_nat a 1 ha (by omega)
  rw [Nat.and_one_is_mod] at this
  exact this
theorem crcBits_even (k c : Nat) (h : c % 2 = 0) : crcBits (k + 1) c = crcBits k (c / 2) := by
  rw [crcBits]; unfold crcBit; rw [if_pos h]
theorem crcBits_odd (k c : Nat) (h : ¬ c % 2 = 0) : crcBits (k + 1) c = crcBits k (c / 2 ^^^ 3988292384) := by
  rw [crcBits]; unfold crcBit; rw [if_neg h]
set_option maxRecDepth 100000 in
set_option maxHeartbeats 400000 in
theorem sum_of (s : ByteArray) (hs : s.size ≤ 281474976710656) (w : World) :
    Calls Try.prog 12 #[.string s] w fun e w' => e = .returned (.int .u32 (crc s.data.toList)) ∧ w' = w := by
  go_enter Try.func12, Try.ntmps12
  go_wp2
  go_loop [3, 8] (fun c i => ∃ k a : Nat, k ≤ s.size ∧ i = .int .i64 k ∧ c = .int .u32 a ∧ a < 4294967296 ∧ crcF a (s.data.toList.drop k) = crcF 4294967295 s.data.toList) (fun _ i => s.size - (intOf i).toNat)
  case atStart => exact ⟨0, 4294967295, by omega, rfl, rfl, by omega, rfl⟩
  case round =>
    obtain ⟨k, a, hk, rfl, rfl, ha, heq⟩ := hrel
    have H2 : Hid (crcF a (s.data.toList.drop k) = crcF 4294967295 s.data.toList) := heq
    clear heq
    by_cases hlt : k < s.size
    · have hx := xor32 a s[k].toNat ha (u8_lt _)
      have hxl := xor_lt a s[k].toNat ha (u8_lt _)
      go_wp2
      go_step3
      go_wp2
      go_step3
      go_wp2
      go_loop [3, 17] (fun c j => ∃ n b : Nat, n ≤ 8 ∧ j = .int .i64 n ∧ c = .int .u32 b ∧ b < 4294967296 ∧ crcBits (8 - n) b = crcBits 8 (a ^^^ s[k].toNat)) (fun _ j => 8 - (intOf j).toNat)
      case atStart =>
        refine ⟨0, a ^^^ s[k].toNat, by omega, rfl, ?_, hxl, rfl⟩
        rw [Int.emod_eq_of_lt (by omega) (by have := s[k].toNat_lt; omega), hx]
      case round =>
        obtain ⟨n, b, hn, rfl, rfl, hb, heq⟩ := hrel
        have H3 : Hid (crcBits (8 - n) b = crcBits 8 (a ^^^ s[k].toNat)) := heq
        clear heq
        by_cases hlt8 : n < 8
        · have ha1 := and32 b hb
          have hx1 := xor32 (b / 2) 3988292384 (by omega) (by omega)
          have hx2 := xor_lt (b / 2) 3988292384 (by omega) (by omega)
          have H3' : Hid (crcBits (7 - n + 1) b = crcBits 8 (a ^^^ s[k].toNat)) := (show 8 - n = 7 - n + 1 by omega) ▸ H3
          rcases Nat.mod_two_eq_zero_or_one b with h0 | h0
          · rw [h0] at ha1
            go_wp2
            go_round
            case rel => exact ⟨n + 1, b / 2, by omega, by go_num, by go_num, by omega, by have e := H3'.out; rw [crcBits_even _ _ h0] at e; rw [show 8 - (n + 1) = 7 - n by omega]; exact e⟩
            case measure => simp [intOf]; omega
          · rw [h0] at ha1
            go_wp2
            go_round
            case rel => exact ⟨n + 1, b / 2 ^^^ 3988292384, by omega, by go_num, by rw [← hx1]; rfl, hx2, by have e := H3'.out; rw [crcBits_odd _ _ (by omega)] at e; rw [show 8 - (n + 1) = 7 - n by omega]; exact e⟩
            case measure => simp [intOf]; omega
        · obtain rfl : n = 8 := by omega
          have h3 := H3.out
          go_wp2
          go_round
          case rel => exact ⟨k + 1, b, by omega, by go_num, rfl, hb, by have e := H2.out; rw [crcF_at s k a hlt, ← h3] at e; exact e⟩
          case measure => simp [intOf]; omega
    · have h2 := H2.out
      rw [crcF_out s k a hlt] at h2
      have hx := xor32 a 4294967295 ha (by omega)
      go_wp2
      go_ret
      refine ⟨?_, rfl⟩
      unfold crc
      rw [← h2, ← hx]
      rfl
theorem conv4 {P : Program} {src dst e : TypeId} (hs : P.underlying src = some (.slice e)) (he : P.underlying e = some (.int .u8)) (hd : P.underlying dst = some .string) (wr : World) (c : Nat) (hc : c < 4294967296) :
    (convert src dst (.slice (some ⟨wr.heap.size, 0, none⟩) 4 4)).run P (wr.alloc (.cells #[.int .u8 ((c : Int) % 256), .int .u8 ((c : Int) / 256 % 256), .int .u8 ((c : Int) / 65536 % 256), .int .u8 ((c : Int) / 16777216)] e))
      = .ok (.string ⟨(four c).toArray⟩) (wr.alloc (.cells #[.int .u8 ((c : Int) % 256), .int .u8 ((c : Int) / 256 % 256), .int .u8 ((c : Int) / 65536 % 256), .int .u8 ((c : Int) / 16777216)] e)) := by
  rw [← strOfU8s]
  refine run_convert_bytes_arg _ src e hs he wr.heap.size 0 4 4 _ rfl (fun i hi => ?_) dst hd
  match i, hi with
  | 0, _ => simp [four]
  | 1, _ => simp [four]
  | 2, _ => simp [four]
  | 3, _ => simp [four]; omega
set_option maxRecDepth 100000 in
set_option maxHeartbeats 400000 in
theorem sum_tell (c : Nat) (hc : c < 4294967296) (w : World) :
    Calls Try.prog 17 #[.int .u32 c] w fun e w' => e = .returned (.string ⟨(four c).toArray⟩) ∧ Below w.heap.size w w' := by
  have hcv := conv4 (P := Try.prog) (src := 33) (dst := 9) Try.underlying33 Try.underlying5 Try.underlying9 w c hc
  go_enter Try.func17, Try.ntmps17
  go_wp2
  go_ret
  exact ⟨rfl, (Below.refl _ _).alloc (Nat.le_refl _) _⟩
set_option maxRecDepth 100000 in
set_option maxHeartbeats 400000 in
theorem sum_wrap (s : ByteArray) (hs : s.size ≤ 140737488355328) (w : World) :
    Calls Try.prog 14 #[.string s] w fun e w' => e = .returned (.string ⟨(wrap s.data.toList).toArray⟩) ∧ Below w.heap.size w w' := by
  have hl : (text s.data.toList).length ≤ 140737488355338 := by
    unfold text
    have := (put_length s.data.toList.length).2
    simp at this ⊢
    omega
  obtain ⟨L, hL⟩ : ∃ L, L = text s.data.toList := ⟨_, rfl⟩
  rw [← hL] at hl
  have HL : Hid (L = text s.data.toList) := hL
  obtain ⟨c, hc⟩ : ∃ c, c = crc s.data.toList := ⟨_, rfl⟩
  have hcl : c < 4294967296 := hc ▸ crc_lt _
  have HC : Hid (c = crc s.data.toList) := hc
  obtain ⟨F, hF⟩ : ∃ F, F = four c := ⟨_, rfl⟩
  have hfl : F.length = 4 := hF ▸ rfl
  have HF : Hid (F = four c) := hF
  clear hL hc hF
  go_enter Try.func14, Try.ntmps14
  go_wp2_with fail
  refine (text_at HL (by omega) _).mono ?_
  rintro e w1 ⟨rfl, hb1⟩
  go_wp2_with fail
  refine (sum_of s (by omega) _).mono ?_
  rintro e w2 ⟨rfl, rfl⟩
  rw [← HC.out]
  go_wp2_with fail
  refine (sum_tell c hcl _).mono ?_
  rintro e w3 ⟨rfl, hb3⟩
  rw [← HF.out]
  go_wp2
  go_ret
  refine ⟨?_, hb1.trans (hb3.mono hb1.size)⟩
  unfold wrap
  rw [← HL.out, ← HC.out, ← HF.out]
  exact congrArg (fun x => Ending.returned (.string x)) (ByteArray.mk_append_mk _ _)
end Go.Proofs.Ytcolllffjlahbaa
