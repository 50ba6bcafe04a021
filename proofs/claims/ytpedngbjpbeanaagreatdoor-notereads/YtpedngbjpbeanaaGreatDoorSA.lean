/- Check sums and frames: plain; contracts of sum and of the reference. -/
import Derived.Test.YtpedngbjpbeanaaGreatDoorPA
import Derived.Laws.BitsAllLaws
import Derived.Deep.RegionWith
import Derived.Below
import Derived.Laws.Rows
import Derived.Laws.MakeOwn
import Derived.Lib.ConvBytes
import Derived.Lib.BufferMore
namespace Go.Proofs.YtpedngbjpbeanaaGreatDoor
section
open Go.RowKit
set_option linter.unusedVariables false
theorem xor_zero_eq {a b : Nat} (h : a ^^^ b = 0) : a = b := by
  have := congrArg (· ^^^ b) h
  simpa [Nat.xor_assoc] using this
def crcBit (c : Nat) : Nat := if c % 2 = 0 then c / 2 else (c / 2) ^^^ 3988292384
def crcBits : Nat → Nat → Nat
  | 0, c => c
  | k+1, c => crcBits k (crcBit c)
def crcStep (c : Nat) (b : UInt8) : Nat := crcBits 8 (c ^^^ b.toNat)
def crcF (c : Nat) (l : List UInt8) : Nat := l.foldl crcStep c
def crc (l : List UInt8) : Nat := crcF 4294967295 l ^^^ 4294967295
def four (c : Nat) : List UInt8 := [UInt8.ofNat c, UInt8.ofNat (c / 256), UInt8.ofNat (c / 65536), UInt8.ofNat (c / 16777216)]
def wrap (l : List UInt8) : List UInt8 := text l ++ four (crc l)
def unwrap (l : List UInt8) : List UInt8 × Nat × Nat :=
  let (b, k, e) := texts l 40000
  if e ≠ 0 then ([], 0, e) else if l.length - k < 4 then ([], 0, 10) else if (l.drop k).take 4 ≠ four (crc b) then ([], 0, 12) else (b, k + 4, 0)
theorem crcBit_lt (c : Nat) (h : c < 4294967296) : crcBit c < 4294967296 := by
  unfold crcBit
  split
  · omega
  · exact Nat.xor_lt_two_pow (n := 32) (by omega) (by omega)
theorem crcBits_lt : ∀ (k c : Nat), c < 4294967296 → crcBits k c < 4294967296
  | 0, c, h => h
  | k+1, c, h => crcBits_lt k _ (crcBit_lt c h)
theorem xor_lt (a b : Nat) (ha : a < 4294967296) (hb : b < 4294967296) : a ^^^ b < 4294967296 := Nat.xor_lt_two_pow (n := 32) ha hb
theorem u8_lt (b : UInt8) : b.toNat < 4294967296 := by have := b.toNat_lt; omega
theorem crcStep_lt (c : Nat) (b : UInt8) (h : c < 4294967296) : crcStep c b < 4294967296 := crcBits_lt 8 _ (xor_lt _ _ h (u8_lt b))
theorem crcF_lt : ∀ (l : List UInt8) (c : Nat), c < 4294967296 → crcF c l < 4294967296
  | [], c, h => h
  | b :: l, c, h => crcF_lt l _ (crcStep_lt c b h)
theorem crc_lt (l : List UInt8) : crc l < 4294967296 := xor_lt _ _ (crcF_lt l _ (by omega)) (by omega)
theorem crcBit_xor (a b : Nat) : crcBit (a ^^^ b) = crcBit a ^^^ crcBit b := by
  have h2 : (a ^^^ b) / 2 = a / 2 ^^^ b / 2 := by
    have := Nat.shiftRight_xor_distrib (a := a) (b := b) (i := 1)
    simpa [Nat.shiftRight_eq_div_pow] using this
  have h1 : (a ^^^ b) % 2 = (a % 2 ^^^ b % 2) := by
    have := Nat.xor_mod_two_pow (a := a) (b := b) (n := 1)
    simpa using this
  unfold crcBit
  rw [h1, h2]
  rcases Nat.mod_two_eq_zero_or_one a with ha | ha <;> rcases Nat.mod_two_eq_zero_or_one b with hb | hb <;> rw [ha, hb] <;> simp
  · rw [Nat.xor_assoc]
  · rw [Nat.xor_assoc, Nat.xor_assoc, Nat.xor_comm 3988292384]
  · rw [Nat.xor_assoc, Nat.xor_comm 3988292384, Nat.xor_assoc, Nat.xor_self, Nat.xor_zero]
theorem crcBits_xor : ∀ (k a b : Nat), crcBits k (a ^^^ b) = crcBits k a ^^^ crcBits k b
  | 0, a, b => rfl
  | k+1, a, b => by unfold crcBits; rw [crcBit_xor, crcBits_xor k]
theorem crcBit_zero (a : Nat) (h : a < 4294967296) (h0 : crcBit a = 0) : a = 0 := by
  unfold crcBit at h0
  split at h0
  · omega
  · have := xor_zero_eq h0
    omega
theorem crcBits_zero : ∀ (k a : Nat), a < 4294967296 → crcBits k a = 0 → a = 0
  | 0, a, _, h0 => h0
  | k+1, a, h, h0 => crcBit_zero a h (crcBits_zero k _ (crcBit_lt a h) h0)
theorem xor_ne {a b : Nat} (h : a ≠ b) : a ^^^ b ≠ 0 := fun e => h (xor_zero_eq e)
theorem crcBits_inj (k a b : Nat) (ha : a < 4294967296) (hb : b < 4294967296) (h : crcBits k a = crcBits k b) : a = b := by
  refine xor_zero_eq (crcBits_zero k _ (xor_lt _ _ ha hb) ?_)
  rw [crcBits_xor, h, Nat.xor_self]
theorem xor_right_inj {a b c : Nat} (h : a ^^^ c = b ^^^ c) : a = b := by
  have := congrArg (· ^^^ c) h
  simpa [Nat.xor_assoc] using this
theorem crcStep_inj (a b : Nat) (x : UInt8) (ha : a < 4294967296) (hb : b < 4294967296) (h : crcStep a x = crcStep b x) : a = b :=
  xor_right_inj (crcBits_inj 8 _ _ (xor_lt _ _ ha (u8_lt x)) (xor_lt _ _ hb (u8_lt x)) h)
theorem crcStep_byte (c : Nat) (x y : UInt8) (hc : c < 4294967296) (h : crcStep c x = crcStep c y) : x = y := by
  have := crcBits_inj 8 _ _ (xor_lt _ _ hc (u8_lt x)) (xor_lt _ _ hc (u8_lt y)) h
  rw [Nat.xor_comm c, Nat.xor_comm c] at this
  exact UInt8.toNat_inj.mp (xor_right_inj this)
theorem crcF_inj : ∀ (l : List UInt8) (a b : Nat), a < 4294967296 → b < 4294967296 → crcF a l = crcF b l → a = b
  | [], a, b, _, _, h => h
  | x :: l, a, b, ha, hb, h => crcStep_inj a b x ha hb (crcF_inj l _ _ (crcStep_lt a x ha) (crcStep_lt b x hb) h)
theorem crcF_append (c : Nat) (l r : List UInt8) : crcF c (l ++ r) = crcF (crcF c l) r := by simp [crcF]
theorem crc_inj_of (l r : List UInt8) (h : crc l = crc r) : crcF 4294967295 l = crcF 4294967295 r := xor_right_inj h
/-- one byte that is another is seen -/
theorem crc_turned (p q : List UInt8) (x y : UInt8) (h : crc (p ++ x :: q) = crc (p ++ y :: q)) : x = y := by
  have h1 := crc_inj_of _ _ h
  rw [crcF_append, crcF_append] at h1
  have hp := crcF_lt p 4294967295 (by omega)
  exact crcStep_byte _ x y hp (crcF_inj q _ _ (crcStep_lt _ _ hp) (crcStep_lt _ _ hp) h1)
/-- three lists of one length, byte by byte put together -/
def mix3 : List UInt8 → List UInt8 → List UInt8 → List UInt8
  | a :: x, b :: y, c :: z => (a ^^^ b ^^^ c) :: mix3 x y z
  | _, _, _ => []
theorem crcF_mix : ∀ (x y z : List UInt8) (a b c : Nat), x.length = y.length → y.length = z.length → crcF (a ^^^ b ^^^ c) (mix3 x y z) = crcF a x ^^^ crcF b y ^^^ crcF c z
  | [], [], [], a, b, c, _, _ => rfl
  | x :: xs, y :: ys, z :: zs, a, b, c, h1, h2 => by
    have := crcF_mix xs ys zs (crcStep a x) (crcStep b y) (crcStep c z) (by simpa using h1) (by simpa using h2)
    show crcF (crcStep (a ^^^ b ^^^ c) (x ^^^ y ^^^ z)) (mix3 xs ys zs) = _
    rw [show crcStep (a ^^^ b ^^^ c) (x ^^^ y ^^^ z) = crcStep a x ^^^ crcStep b y ^^^ crcStep c z from ?_]
    · exact this
    · unfold crcStep
      rw [← crcBits_xor, ← crcBits_xor, UInt8.toNat_xor, UInt8.toNat_xor]
      congr 1
      ac_rfl
theorem crc_mix (x y z : List UInt8) (h1 : x.length = y.length) (h2 : y.length = z.length) : crc (mix3 x y z) = crc x ^^^ crc y ^^^ crc z := by
  have h := crcF_mix x y z 4294967295 4294967295 4294967295 h1 h2
  rw [Nat.xor_self, Nat.zero_xor] at h
  unfold crc
  rw [h, show crcF 4294967295 x ^^^ 4294967295 ^^^ (crcF 4294967295 y ^^^ 4294967295) ^^^ (crcF 4294967295 z ^^^ 4294967295) = crcF 4294967295 x ^^^ crcF 4294967295 y ^^^ crcF 4294967295 z ^^^ (4294967295 ^^^ (4294967295 ^^^ 4294967295)) by ac_rfl, Nat.xor_self, Nat.xor_zero]
theorem swap1 : ∀ d : Fin 256, d ≠ 0 → crcBits 8 d.val ≠ d.val ∧ crcBits 8 (crcBits 8 d.val) ≠ d.val ∧ crcBits 8 (crcBits 8 (crcBits 8 d.val)) ≠ d.val := by decide +kernel
theorem swap2 (d : Nat) (h : d < 256) (h0 : d ≠ 0) : crcBits 8 d ≠ d ∧ crcBits 8 (crcBits 8 d) ≠ d ∧ crcBits 8 (crcBits 8 (crcBits 8 d)) ≠ d := swap1 ⟨d, h⟩ (fun e => h0 (congrArg Fin.val e))
theorem step_xor (a b : Nat) (u v : UInt8) : crcStep a u ^^^ crcStep b v = crcBits 8 ((a ^^^ b) ^^^ (u.toNat ^^^ v.toNat)) := by
  have h : a ^^^ b ^^^ (u.toNat ^^^ v.toNat) = a ^^^ u.toNat ^^^ (b ^^^ v.toNat) := by ac_rfl
  rw [h, crcBits_xor, crcStep, crcStep]
theorem part_xor {P Q x y : Nat} (h : P ^^^ y = Q ^^^ x) : P ^^^ Q = x ^^^ y := by
  have e := congrArg (· ^^^ (y ^^^ Q)) h
  rw [show P ^^^ y ^^^ (y ^^^ Q) = P ^^^ Q ^^^ (y ^^^ y) by ac_rfl, show Q ^^^ x ^^^ (y ^^^ Q) = x ^^^ y ^^^ (Q ^^^ Q) by ac_rfl, Nat.xor_self, Nat.xor_self, Nat.xor_zero, Nat.xor_zero] at e
  exact e
theorem swap_key (B : Nat → Nat) (st : Nat → UInt8 → Nat) (hs : ∀ (a b : Nat) (u v : UInt8), st a u ^^^ st b v = B ((a ^^^ b) ^^^ (u.toNat ^^^ v.toNat))) (c : Nat) (x y : UInt8)
    (key : B (x.toNat ^^^ y.toNat) ≠ x.toNat ^^^ y.toNat ∧ B (B (x.toNat ^^^ y.toNat)) ≠ x.toNat ^^^ y.toNat ∧ B (B (B (x.toNat ^^^ y.toNat))) ≠ x.toNat ^^^ y.toNat) :
    ∀ m : List UInt8, m.length ≤ 2 → m.foldl st (st c x) ^^^ m.foldl st (st c y) ≠ x.toNat ^^^ y.toNat
  | [], _, e => key.1 (by change st c x ^^^ st c y = _ at e; rw [hs, Nat.xor_self, Nat.zero_xor] at e; exact e)
  | [u], _, e => key.2.1 (by change st (st c x) u ^^^ st (st c y) u = _ at e; rw [hs, hs, Nat.xor_self, Nat.zero_xor, Nat.xor_self, Nat.xor_zero] at e; exact e)
  | [u, v], _, e => key.2.2 (by change st (st (st c x) u) v ^^^ st (st (st c y) u) v = _ at e; rw [hs, hs, hs, Nat.xor_self, Nat.zero_xor, Nat.xor_self, Nat.xor_zero, Nat.xor_self, Nat.xor_zero] at e; exact e)
  | _ :: _ :: _ :: _, h, _ => by simp at h
theorem crcF_five (a : Nat) (u v : UInt8) (m q : List UInt8) : crcF a (u :: (m ++ v :: q)) = crcF (crcStep (crcF (crcStep a u) m) v) q := by
  unfold crcF
  rw [List.foldl_cons, List.foldl_append, List.foldl_cons]
/-- two unlike bytes at most three places apart that change their places are seen -/
theorem crc_swapped (p m q : List UInt8) (x y : UInt8) (hm : m.length ≤ 2) (h : crc (p ++ x :: (m ++ y :: q)) = crc (p ++ y :: (m ++ x :: q))) : x = y := by
  have h1 := crc_inj_of _ _ h
  rw [crcF_append, crcF_append] at h1
  have hp := crcF_lt p 4294967295 (by omega)
  generalize crcF 4294967295 p = c at h1 hp
  rw [crcF_five, crcF_five] at h1
  have hX := crcF_lt m _ (crcStep_lt c x hp)
  have hY := crcF_lt m _ (crcStep_lt c y hp)
  have hF : crcF (crcStep c x) m ^^^ crcF (crcStep c y) m ≠ x.toNat ^^^ y.toNat ∨ x = y := by
    by_cases hne : x = y
    · exact .inr hne
    · exact .inl (swap_key (crcBits 8) crcStep step_xor c x y (swap2 _ (Nat.xor_lt_two_pow (n := 8) x.toNat_lt y.toNat_lt) (xor_ne fun e => hne (UInt8.toNat_inj.mp e))) m hm)
  generalize crcF (crcStep c x) m = P at h1 hX hF
  generalize crcF (crcStep c y) m = Q at h1 hY hF
  have h2 := crcF_inj q _ _ (crcStep_lt _ _ hX) (crcStep_lt _ _ hY) h1
  have h3 := crcBits_inj 8 _ _ (xor_lt _ _ hX (u8_lt _)) (xor_lt _ _ hY (u8_lt _)) h2
  exact hF.resolve_left fun n => n (part_xor h3)
theorem four_length (c : Nat) : (four c).length = 4 := rfl
theorem four_inj (a b : Nat) (ha : a < 4294967296) (hb : b < 4294967296) (h : four a = four b) : a = b := by
  unfold four at h
  injection h with h1 h; injection h with h2 h; injection h with h3 h; injection h with h4 h
  have f1 := congrArg UInt8.toNat h1
  have f2 := congrArg UInt8.toNat h2
  have f3 := congrArg UInt8.toNat h3
  have f4 := congrArg UInt8.toNat h4
  simp at f1 f2 f3 f4
  omega
theorem wrap_length (l : List UInt8) : (wrap l).length = (text l).length + 4 := by simp [wrap, four_length]
theorem unwrap_bad {l : List UInt8} {b : List UInt8} {k e : Nat} (h : texts l 40000 = (b, k, e)) (he : e ≠ 0) : unwrap l = ([], 0, e) := by
  unfold unwrap; rw [h]; simp [he]
theorem unwrap_10 {l : List UInt8} {b : List UInt8} {k : Nat} (h : texts l 40000 = (b, k, 0)) (hk : l.length - k < 4) : unwrap l = ([], 0, 10) := by
  unfold unwrap; rw [h]; simp; intro; omega
theorem unwrap_12 {l : List UInt8} {b : List UInt8} {k : Nat} (h : texts l 40000 = (b, k, 0)) (hk : ¬ l.length - k < 4) (hn : (l.drop k).take 4 ≠ four (crc b)) : unwrap l = ([], 0, 12) := by
  unfold unwrap; rw [h]; simp only; rw [if_neg (by simp), if_neg hk, if_pos hn]
theorem unwrap_0 {l : List UInt8} {b : List UInt8} {k : Nat} (h : texts l 40000 = (b, k, 0)) (hk : ¬ l.length - k < 4) (hn : (l.drop k).take 4 = four (crc b)) : unwrap l = (b, k + 4, 0) := by
  unfold unwrap; rw [h]; simp only; rw [if_neg (by simp), if_neg hk, if_neg (by simp [hn])]
theorem texts_okS {l b : List UInt8} {m : Int} {k e : Nat} (h : texts l m = (b, k, e)) : k ≤ l.length ∧ b.length ≤ l.length ∧ (b.length : Int) ≤ max m 0 ∧ (e = 0 ∨ e = 10 ∨ e = 11 ∨ e = 13) ∧ (e ≠ 0 → b = [] ∧ k = 0) := by
  rcases hg : get l with ⟨n, j, f⟩
  obtain ⟨hn, hj, hj1, hf, hf1⟩ := get_ok hg
  unfold texts at h
  rw [hg] at h
  simp only at h
  split at h
  · cases h; simp; omega
  · split at h
    · cases h; simp; omega
    · split at h
      · cases h; simp; omega
      · cases h; simp; omega
end
section
open Go.RowKit
set_option linter.unusedVariables false
theorem crcF_at (s : ByteArray) (k c : Nat) (h : k < s.size) : crcF c (s.data.toList.drop k) = crcF (crcBits 8 (c ^^^ s[k].toNat)) (s.data.toList.drop (k + 1)) := by
  rw [List.drop_eq_getElem_cons (by simpa using h)]
  rfl
theorem crcF_out (s : ByteArray) (k c : Nat) (h : ¬ k < s.size) : crcF c (s.data.toList.drop k) = c := by
  rw [List.drop_eq_nil_of_le (by simpa using Nat.le_of_not_lt h)]
  rfl
theorem xor32 (a b : Nat) (ha : a < 4294967296) (hb : b < 4294967296) : bits .xor .u32 (a : Int) (b : Int) = ((a ^^^ b : Nat) : Int) := u32_xor_nat a b ha hb
theorem and32 (a : Nat) (ha : a < 4294967296) : bits .and .u32 (a : Int) 1 = ((a % 2 : Nat) : Int) := by
  have := u32_and_nat a 1 ha (by omega)
  rw [Nat.and_one_is_mod] at this
  exact this
theorem crcBits_even (k c : Nat) (h : c % 2 = 0) : crcBits (k + 1) c = crcBits k (c / 2) := by
  rw [crcBits]; unfold crcBit; rw [if_pos h]
theorem crcBits_odd (k c : Nat) (h : ¬ c % 2 = 0) : crcBits (k + 1) c = crcBits k (c / 2 ^^^ 3988292384) := by
  rw [crcBits]; unfold crcBit; rw [if_neg h]
set_option maxRecDepth 100000 in
set_option maxHeartbeats 400000 in
theorem sum_of (s : ByteArray) (hs : s.size ≤ 281474976710656) (w : World) :
    Calls Tryz.prog 50 #[.string s] w fun e w' => e = .returned (.int .u32 (crc s.data.toList)) ∧ w' = w := by
  go_enter Tryz.func50, Tryz.ntmps50
  go_wp2
  go_loop [3, 8] (fun c i => ∃ k a : Nat, k ≤ s.size ∧ i = .int .i64 k ∧ c = .int .u32 a ∧ a < 4294967296 ∧ crcF a (s.data.toList.drop k) = crcF 4294967295 s.data.toList) (fun _ i => s.size - (intOf i).toNat)
  case atStart => exact ⟨0, 4294967295, by omega, rfl, rfl, by omega, rfl⟩
  case round =>
    obtain ⟨k, a, hk, rfl, rfl, ha, heq⟩ := hrel
    have H2 : Hid (crcF a (s.data.toList.drop k) = crcF 4294967295 s.data.toList) := heq
    clear heq
    by_cases hlt : k < s.size
    · have hx := xor32 a s[k].toNat ha (u8_lt _)
      have hxl := xor_lt a s[k].toNat ha (u8_lt _)
      go_wp2
      go_step3
      go_wp2
      go_step3
      go_wp2
      go_loop [3, 17] (fun c j => ∃ n b : Nat, n ≤ 8 ∧ j = .int .i64 n ∧ c = .int .u32 b ∧ b < 4294967296 ∧ crcBits (8 - n) b = crcBits 8 (a ^^^ s[k].toNat)) (fun _ j => 8 - (intOf j).toNat)
      case atStart =>
        refine ⟨0, a ^^^ s[k].toNat, by omega, rfl, ?_, hxl, rfl⟩
        rw [Int.emod_eq_of_lt (by omega) (by have := s[k].toNat_lt; omega), hx]
      case round =>
        obtain ⟨n, b, hn, rfl, rfl, hb, heq⟩ := hrel
        have H3 : Hid (crcBits (8 - n) b = crcBits 8 (a ^^^ s[k].toNat)) := heq
        clear heq
        by_cases hlt8 : n < 8
        · have ha1 := and32 b hb
          have hx1 := xor32 (b / 2) 3988292384 (by omega) (by omega)
          have hx2 := xor_lt (b / 2) 3988292384 (by omega) (by omega)
          have H3' : Hid (crcBits (7 - n + 1) b = crcBits 8 (a ^^^ s[k].toNat)) := (show 8 - n = 7 - n + 1 by omega) ▸ H3
          rcases Nat.mod_two_eq_zero_or_one b with h0 | h0
          · rw [h0] at ha1
            go_wp2
            go_round
            case rel => exact ⟨n + 1, b / 2, by omega, by go_num, by go_num, by omega, by have e := H3'.out; rw [crcBits_even _ _ h0] at e; rw [show 8 - (n + 1) = 7 - n by omega]; exact e⟩
            case measure => simp [intOf]; omega
          · rw [h0] at ha1
            go_wp2
            go_round
            case rel => exact ⟨n + 1, b / 2 ^^^ 3988292384, by omega, by go_num, by rw [← hx1]; rfl, hx2, by have e := H3'.out; rw [crcBits_odd _ _ (by omega)] at e; rw [show 8 - (n + 1) = 7 - n by omega]; exact e⟩
            case measure => simp [intOf]; omega
        · obtain rfl : n = 8 := by omega
          have h3 := H3.out
          go_wp2
          go_round
          case rel => exact ⟨k + 1, b, by omega, by go_num, rfl, hb, by have e := H2.out; rw [crcF_at s k a hlt, ← h3] at e; exact e⟩
          case measure => simp [intOf]; omega
    · have h2 := H2.out
      rw [crcF_out s k a hlt] at h2
      have hx := xor32 a 4294967295 ha (by omega)
      go_wp2
      go_ret
      refine ⟨?_, rfl⟩
      unfold crc
      rw [← h2, ← hx]
      rfl
theorem conv4 {P : Program} {src dst e : TypeId} (hs : P.underlying src = some (.slice e)) (he : P.underlying e = some (.int .u8)) (hd : P.underlying dst = some .string) (wr : World) (c : Nat) (hc : c < 4294967296) :
    (convert src dst (.slice (some ⟨wr.heap.size, 0, none⟩) 4 4)).run P (wr.alloc (.cells #[.int .u8 ((c : Int) % 256), .int .u8 ((c : Int) / 256 % 256), .int .u8 ((c : Int) / 65536 % 256), .int .u8 ((c : Int) / 16777216)] e))
      = .ok (.string ⟨(four c).toArray⟩) (wr.alloc (.cells #[.int .u8 ((c : Int) % 256), .int .u8 ((c : Int) / 256 % 256), .int .u8 ((c : Int) / 65536 % 256), .int .u8 ((c : Int) / 16777216)] e)) := by
  rw [← strOfU8s]
  refine run_convert_bytes_arg _ src e hs he wr.heap.size 0 4 4 _ rfl (fun i hi => ?_) dst hd
  match i, hi with
  | 0, _ => simp [four]
  | 1, _ => simp [four]
  | 2, _ => simp [four]
  | 3, _ => simp [four]; omega
set_option maxRecDepth 100000 in
set_option maxHeartbeats 400000 in
theorem sum_tell (c : Nat) (hc : c < 4294967296) (w : World) :
    Calls Tryz.prog 49 #[.int .u32 c] w fun e w' => e = .returned (.string ⟨(four c).toArray⟩) ∧ Below w.heap.size w w' := by
  have hcv := conv4 (P := Tryz.prog) (src := 38) (dst := 9) Tryz.underlying38 Tryz.underlying5 Tryz.underlying9 w c hc
  go_enter Tryz.func49, Tryz.ntmps49
  go_wp2
  go_ret
  exact ⟨rfl, (Below.refl _ _).alloc (Nat.le_refl _) _⟩
set_option maxRecDepth 100000 in
set_option maxHeartbeats 400000 in
theorem sum_wrap (s : ByteArray) (hs : s.size ≤ 140737488355328) (w : World) :
    Calls Tryz.prog 20 #[.string s] w fun e w' => e = .returned (.string ⟨(wrap s.data.toList).toArray⟩) ∧ Below w.heap.size w w' := by
  have hl : (text s.data.toList).length ≤ 140737488355338 := by
    unfold text
    have := (put_length s.data.toList.length).2
    simp at this ⊢
    omega
  obtain ⟨L, hL⟩ : ∃ L, L = text s.data.toList := ⟨_, rfl⟩
  rw [← hL] at hl
  have HL : Hid (L = text s.data.toList) := hL
  obtain ⟨c, hc⟩ : ∃ c, c = crc s.data.toList := ⟨_, rfl⟩
  have hcl : c < 4294967296 := hc ▸ crc_lt _
  have HC : Hid (c = crc s.data.toList) := hc
  obtain ⟨F, hF⟩ : ∃ F, F = four c := ⟨_, rfl⟩
  have hfl : F.length = 4 := hF ▸ rfl
  have HF : Hid (F = four c) := hF
  clear hL hc hF
  go_enter Tryz.func20, Tryz.ntmps20
  go_wp2_with fail
  refine (text_at HL (by omega) _).mono ?_
  rintro e w1 ⟨rfl, hb1⟩
  go_wp2_with fail
  refine (sum_of s (by omega) _).mono ?_
  rintro e w2 ⟨rfl, rfl⟩
  rw [← HC.out]
  go_wp2_with fail
  refine (sum_tell c hcl _).mono ?_
  rintro e w3 ⟨rfl, hb3⟩
  rw [← HF.out]
  go_wp2
  go_ret
  refine ⟨?_, hb1.trans (hb3.mono hb1.size)⟩
  unfold wrap
  rw [← HL.out, ← HC.out, ← HF.out]
  exact congrArg (fun x => Ending.returned (.string x)) (ByteArray.mk_append_mk _ _)
end
section
open Go.RowKit
set_option linter.unusedVariables false
theorem getF_back : ∀ (l : List UInt8) (i acc n j : Nat), i ≤ 9 → getF l i acc = (n, j, 0) →
    ∃ m, n = acc + m * 128 ^ i ∧ i < j ∧ l.take (j - i) = putF (9 - i) m ∧ (0 < i → 0 < m)
  | [], i, acc, n, j, _, h => by simp [getF] at h
  | b :: r, i, acc, n, j, hi, h => by
    have hb := b.toNat_lt
    simp only [getF] at h
    by_cases h1 : i = 9 ∧ 1 < b.toNat
    · rw [if_pos h1] at h; simp at h
    · rw [if_neg h1] at h
      by_cases h2 : 0 < i ∧ b.toNat = 0
      · rw [if_pos h2] at h; simp at h
      · rw [if_neg h2] at h
        by_cases h3 : b.toNat < 128
        · rw [if_pos h3] at h
          cases h
          refine ⟨b.toNat, rfl, by omega, ?_, by omega⟩
          rw [putF_last _ _ h3, show i + 1 - i = 1 by omega]
          simp [lastB]
        · rw [if_neg h3] at h
          obtain ⟨m, e1, e2, e3, e4⟩ := getF_back r (i + 1) _ n j (by omega) h
          refine ⟨(b.toNat - 128) + 128 * m, ?_, by omega, ?_, by omega⟩
          · rw [e1, Nat.pow_succ, Nat.add_mul]
            have : m * (128 ^ i * 128) = 128 * m * 128 ^ i := by ac_rfl
            omega
          · rw [show j - i = (j - (i + 1)) + 1 by omega, List.take_succ_cons, e3, show 9 - i = (9 - (i + 1)) + 1 by omega, putF_more _ _ (by have := e4 (by omega); omega)]
            congr 1
            · apply UInt8.toNat_inj.mp
              rw [moreB_toNat]; omega
            · congr 1; omega
theorem get_back {l : List UInt8} {n j : Nat} (h : get l = (n, j, 0)) : l.take j = put n := by
  obtain ⟨m, e1, e2, e3, e4⟩ := getF_back l 0 0 n j (by omega) h
  have : n = m := by omega
  subst this
  exact e3
theorem texts_front {l b : List UInt8} {m : Int} {k : Nat} (h : texts l m = (b, k, 0)) : l.take k = text b := by
  rcases hg : get l with ⟨n, j, f⟩
  unfold texts at h
  rw [hg] at h
  simp only at h
  split at h
  · simp at h; omega
  · split at h
    · simp at h
    · split at h
      · simp at h
      · cases h
        have hf : f = 0 := by omega
        subst hf
        have hl : ((l.drop j).take n).length = n := by simp; omega
        unfold text
        rw [List.take_add, get_back hg, hl]
theorem unwrap_wrap (l tail : List UInt8) (hl : l.length ≤ 40000) : unwrap (wrap l ++ tail) = (l, (wrap l).length, 0) := by
  have ht := texts_back l (four (crc l) ++ tail) 40000 (by omega) (by omega)
  rw [← List.append_assoc] at ht
  have hw : text l ++ four (crc l) = wrap l := rfl
  rw [hw] at ht
  rw [unwrap_0 ht (by simp [wrap_length]; omega) (by unfold wrap; rw [List.append_assoc, List.drop_left, List.take_left' (four_length _)]), wrap_length]
theorem unwrap_large (l tail : List UInt8) (hl : l.length ≤ 18446744073709551615) (hm : 40000 < l.length) : unwrap (wrap l ++ tail) = ([], 0, 13) := by
  refine unwrap_bad (e := 13) (b := []) (k := 0) ?_ (by omega)
  unfold wrap
  rw [List.append_assoc]
  exact texts_large l _ 40000 hl (by omega) (by omega)
theorem texts_cut (l : List UInt8) (m : Int) (c : Nat) (hl : l.length ≤ 18446744073709551615) (hm : (l.length : Int) ≤ max m 0) (hc : c < (text l).length) : texts ((text l).take c) m = ([], 0, 10) := by
  have hlen : (text l).length = (put l.length).length + l.length := by simp [text]
  by_cases h : c < (put l.length).length
  · have hg := get_cut l.length c h
    unfold texts
    rw [show (text l).take c = (put l.length).take c by unfold text; rw [List.take_append_of_le_length (by omega)], hg]
    simp
  · have e : (text l).take c = put l.length ++ l.take (c - (put l.length).length) := by
      unfold text; rw [List.take_append, List.take_of_length_le (by omega)]
    have hg := get_put l.length hl (l.take (c - (put l.length).length))
    unfold texts
    rw [e, hg]
    simp only [ne_eq, not_true_eq_false, if_false]
    rw [if_neg (by omega), if_pos (by simp; omega)]
theorem unwrap_cut (l : List UInt8) (c : Nat) (hl : l.length ≤ 40000) (hc : c < (wrap l).length) : unwrap ((wrap l).take c) = ([], 0, 10) := by
  rw [wrap_length] at hc
  by_cases h : c < (text l).length
  · have ht := texts_cut l 40000 c (by omega) (by omega) h
    refine unwrap_bad (b := []) (k := 0) ?_ (by omega)
    unfold wrap
    rw [List.take_append_of_le_length (by omega)]
    exact ht
  · have e : (wrap l).take c = text l ++ (four (crc l)).take (c - (text l).length) := by
      unfold wrap; rw [List.take_append, List.take_of_length_le (by omega)]
    have ht := texts_back l ((four (crc l)).take (c - (text l).length)) 40000 (by omega) (by omega)
    rw [e]
    exact unwrap_10 ht (by simp [four_length]; omega)
theorem put_small (n : Nat) (h : n < 128) : put n = [UInt8.ofNat n] := by
  unfold put; rw [putF_last _ _ h]; rfl
/-- other bytes of the same number under the same sum, or another sum under the same bytes -/
theorem unwrap_other (l F tail : List UInt8) (hl : l.length ≤ 40000) (hF : F.length = 4) (hn : F ≠ four (crc l)) : unwrap (text l ++ F ++ tail) = ([], 0, 12) := by
  have ht := texts_back l (F ++ tail) 40000 (by omega) (by omega)
  rw [← List.append_assoc] at ht
  refine unwrap_12 ht (by simp; omega) ?_
  rw [List.append_assoc, List.drop_left, List.take_left' hF]
  exact hn
end
section
open Go.RowKit
set_option linter.unusedVariables false
theorem of_at {s : ByteArray} {c : Nat} (H : Hid (c = crc s.data.toList)) (hs : s.size ≤ 281474976710656) (w : World) :
    Calls Tryz.prog 50 #[.string s] w fun e w' => e = .returned (.int .u32 c) ∧ w' = w := by
  rw [H.out]; exact sum_of s hs w
theorem tell_at {c : Nat} {L : List UInt8} (H : Hid (L = four c)) (hc : c < 4294967296) (w : World) :
    Calls Tryz.prog 49 #[.int .u32 c] w fun e w' => e = .returned (.string ⟨L.toArray⟩) ∧ Below w.heap.size w w' := by
  rw [H.out]; exact sum_tell c hc w
theorem wrap_at {s : ByteArray} {L : List UInt8} (H : Hid (L = wrap s.data.toList)) (hs : s.size ≤ 140737488355328) (w : World) :
    Calls Tryz.prog 20 #[.string s] w fun e w' => e = .returned (.string ⟨L.toArray⟩) ∧ Below w.heap.size w w' := by
  rw [H.out]; exact sum_wrap s hs w
theorem bytes_eq (a b : ByteArray) : a = b ↔ a.data.toList = b.data.toList :=
  ⟨fun h => by rw [h], fun h => ByteArray.ext (Array.toList_inj.mp h)⟩
theorem cut_four (s : ByteArray) (k : Nat) (hk : k ≤ s.size) : ((s.extract k s.size).extract 0 4).data.toList = (s.data.toList.drop k).take 4 := by
  rw [cut_text s k 4 hk]
set_option maxRecDepth 100000 in
set_option maxHeartbeats 1000000 in
theorem sum_open (s : ByteArray) (hs : s.size ≤ 140737488355328) (w : World) :
    Calls Tryz.prog 39 #[.string s] w fun e w' => e = .returned (.tuple #[.string ⟨(unwrap s.data.toList).1.toArray⟩, .int .i64 (unwrap s.data.toList).2.1, .int .i64 (unwrap s.data.toList).2.2]) ∧ Below w.heap.size w w' := by
  rcases hg : texts s.data.toList 40000 with ⟨b, k, e⟩
  obtain ⟨hk, hbl, hbm, he, hek⟩ := texts_okS hg
  have hk : k ≤ s.size := hk
  have HG : Hid (texts s.data.toList 40000 = (b, k, e)) := hg
  obtain ⟨u, hu⟩ : ∃ u : ByteArray, u = ⟨b.toArray⟩ := ⟨_, rfl⟩
  have HU : Hid (texts s.data.toList 40000 = (u.data.toList, k, e)) := by rw [hu]; exact hg
  have hul : u.size ≤ s.size := by rw [hu]; exact hbl
  have hub : u.data.toList = b := by rw [hu]
  obtain ⟨c, hc⟩ : ∃ c, c = crc u.data.toList := ⟨_, rfl⟩
  have hcl : c < 4294967296 := hc ▸ crc_lt _
  have HC : Hid (c = crc u.data.toList) := hc
  obtain ⟨F, hF⟩ : ∃ F, F = four c := ⟨_, rfl⟩
  have hfl : F.length = 4 := hF ▸ rfl
  have HF : Hid (F = four c) := hF
  have HB : Hid (u.data.toList = b) := hub
  clear hc hF hg hek hbm hu hub hbl
  go_enter Tryz.func39, Tryz.ntmps39
  go_wp2_with fail
  refine (texts_at HU (by omega) (by omega) (by omega) _).mono ?_
  rintro x w1 ⟨rfl, hb1⟩
  have hs1 := hb1.size
  by_cases h0 : e = 0
  · subst h0
    by_cases h4 : s.size - k < 4
    · go_wp2
      go_ret3
      rw [unwrap_10 HG.out h4]
      exact ⟨fin3s rfl rfl rfl, hb1⟩
    · go_wp2
      go_region_with (first | (go_at_call 50; refine (of_at HC (by omega) _).mono ?_; rintro x w2 ⟨rfl, rfl⟩) | (go_at_call 49; refine (tell_at HF hcl _).mono ?_; rintro x w3 ⟨rfl, hb3⟩))
      all_goals
        have hb4 := hb1.drew.trans (hb3.mono hs1)
        go_wp2
        · go_ret3
          rw [unwrap_12 HG.out h4 (by
            have h := ‹(!_) = true›
            rw [ByteArray.toList_eq, cut_four s k hk, HF.out, HC.out, HB.out] at h
            simpa using h)]
          exact ⟨fin3s rfl rfl rfl, hb4⟩
        · go_ret3
          rw [unwrap_0 HG.out h4 (by
            have h := ‹(!_) = false›
            rw [ByteArray.toList_eq, cut_four s k hk, HF.out, HC.out, HB.out] at h
            simpa using h)]
          exact ⟨fin3s (by rw [← HB.out]) (by simp) rfl, hb4⟩
  · go_wp2
    go_ret3
    rw [unwrap_bad HG.out h0]
    exact ⟨fin3s rfl rfl rfl, hb1⟩
theorem open_at {s u : ByteArray} {k e : Nat} (h : Hid (unwrap s.data.toList = (u.data.toList, k, e))) (hs : s.size ≤ 140737488355328) (w : World) :
    Calls Tryz.prog 39 #[.string s] w fun x w' => x = .returned (.tuple #[.string u, .int .i64 k, .int .i64 e]) ∧ Below w.heap.size w w' := by
  have := sum_open s hs w
  rw [h.out] at this
  exact this
end
section
open Go.RowKit
set_option linter.unusedVariables false
set_option maxRecDepth 100000 in
set_option maxHeartbeats 400000 in
theorem ref_of (s : ByteArray) (hs : s.size ≤ 281474976710656) (w : World) :
    Calls Tryz.prog 37 #[.string s] w fun e w' => e = .returned (.int .u32 (crc s.data.toList)) ∧ w' = w := by
  go_enter Tryz.func37, Tryz.ntmps37
  go_wp2
  go_loop [3, 4] (fun c i => ∃ k a : Nat, k ≤ s.size ∧ i = .int .i64 k ∧ c = .int .u32 a ∧ a < 4294967296 ∧ crcF a (s.data.toList.drop k) = crcF 4294967295 s.data.toList) (fun _ i => s.size - (intOf i).toNat)
  case atStart => exact ⟨0, 4294967295, by omega, rfl, rfl, by omega, rfl⟩
  case round =>
    obtain ⟨k, a, hk, rfl, rfl, ha, heq⟩ := hrel
    have H2 : Hid (crcF a (s.data.toList.drop k) = crcF 4294967295 s.data.toList) := heq
    clear heq
    by_cases hlt : k < s.size
    · have hx := xor32 a s[k].toNat ha (u8_lt _)
      have hxl := xor_lt a s[k].toNat ha (u8_lt _)
      go_wp2
      go_loop [3, 5] (fun c j => ∃ n b : Nat, n ≤ 8 ∧ j = .int .i64 n ∧ c = .int .u32 b ∧ b < 4294967296 ∧ crcBits (8 - n) b = crcBits 8 (a ^^^ s[k].toNat)) (fun _ j => 8 - (intOf j).toNat)
      case atStart =>
        refine ⟨0, a ^^^ s[k].toNat, by omega, rfl, ?_, hxl, rfl⟩
        rw [Int.emod_eq_of_lt (by omega) (by have := s[k].toNat_lt; omega), hx]
      case round =>
        obtain ⟨n, b, hn, rfl, rfl, hb, heq⟩ := hrel
        have H3 : Hid (crcBits (8 - n) b = crcBits 8 (a ^^^ s[k].toNat)) := heq
        clear heq
        by_cases hlt8 : n < 8
        · have ha1 := and32 b hb
          have hx1 := xor32 (b / 2) 3988292384 (by omega) (by omega)
          have hx2 := xor_lt (b / 2) 3988292384 (by omega) (by omega)
          have H3' : Hid (crcBits (7 - n + 1) b = crcBits 8 (a ^^^ s[k].toNat)) := (show 8 - n = 7 - n + 1 by omega) ▸ H3
          rcases Nat.mod_two_eq_zero_or_one b with h0 | h0
          · rw [h0] at ha1
            go_wp2
            go_round
            case rel => exact ⟨n + 1, b / 2, by omega, by go_num, by go_num, by omega, by have e := H3'.out; rw [crcBits_even _ _ h0] at e; rw [show 8 - (n + 1) = 7 - n by omega]; exact e⟩
            case measure => simp [intOf]; omega
          · rw [h0] at ha1
            go_wp2
            go_round
            case rel => exact ⟨n + 1, b / 2 ^^^ 3988292384, by omega, by go_num, by rw [← hx1]; rfl, hx2, by have e := H3'.out; rw [crcBits_odd _ _ (by omega)] at e; rw [show 8 - (n + 1) = 7 - n by omega]; exact e⟩
            case measure => simp [intOf]; omega
        · obtain rfl : n = 8 := by omega
          have h3 := H3.out
          go_wp2
          go_round
          case rel => exact ⟨k + 1, b, by omega, by go_num, rfl, hb, by have e := H2.out; rw [crcF_at s k a hlt, ← h3] at e; exact e⟩
          case measure => simp [intOf]; omega
    · have h2 := H2.out
      rw [crcF_out s k a hlt] at h2
      have hx := xor32 a 4294967295 ha (by omega)
      go_wp2
      go_ret
      refine ⟨?_, rfl⟩
      unfold crc
      rw [← h2, ← hx]
      rfl
abbrev cells4 (c : Nat) (e : TypeId) : Obj := .cells #[.int .u8 (IntKind.u8.wrap c), .int .u8 (IntKind.u8.wrap ((c : Int) / 256)), .int .u8 (IntKind.u8.wrap ((c : Int) / 65536)), .int .u8 (IntKind.u8.wrap ((c : Int) / 16777216))] e
theorem conv4b {P : Program} {src dst e : TypeId} (hs : P.underlying src = some (.slice e)) (he : P.underlying e = some (.int .u8)) (hd : P.underlying dst = some .string) {wr W0 W : World} (g : Nat) (hg : wr.heap.size = g) (c : Nat) (hc : c < 4294967296) {F : List UInt8} (HF : Hid (F = four c))
    (hb : Below W0.heap.size W0 W) (h0 : W0.heap = (wr.alloc (cells4 c e)).heap) :
    (convert src dst (.slice (some ⟨g, 0, none⟩) 4 4)).run P W = .ok (.string ⟨F.toArray⟩) W := by
  subst hg
  rw [HF.out, ← strOfU8s]
  refine run_convert_bytes_arg _ src e hs he wr.heap.size 0 4 4 _ rfl (fun i hi => ?_) dst hd
  rw [hb.cell (by simp [h0]), show W0.cell? ⟨wr.heap.size, 0 + i, none⟩ = (wr.alloc (cells4 c e)).cell? ⟨wr.heap.size, 0 + i, none⟩ by simp only [World.cell?, h0]]
  match i, hi with
  | 0, _ => simp [four, IntKind.wrap_u8]
  | 1, _ => simp [four, IntKind.wrap_u8]
  | 2, _ => simp [four, IntKind.wrap_u8]
  | 3, _ => simp [four, IntKind.wrap_u8]
theorem conv4w {P : Program} {src dst e : TypeId} (hs : P.underlying src = some (.slice e)) (he : P.underlying e = some (.int .u8)) (hd : P.underlying dst = some .string) (wr : World) (c : Nat) (hc : c < 4294967296) {F : List UInt8} (HF : Hid (F = four c)) :
    (convert src dst (.slice (some ⟨wr.heap.size, 0, none⟩) 4 4)).run P (wr.alloc (.cells #[.int .u8 (IntKind.u8.wrap c), .int .u8 (IntKind.u8.wrap ((c : Int) / 256)), .int .u8 (IntKind.u8.wrap ((c : Int) / 65536)), .int .u8 (IntKind.u8.wrap ((c : Int) / 16777216))] e))
      = .ok (.string ⟨F.toArray⟩) (wr.alloc (.cells #[.int .u8 (IntKind.u8.wrap c), .int .u8 (IntKind.u8.wrap ((c : Int) / 256)), .int .u8 (IntKind.u8.wrap ((c : Int) / 65536)), .int .u8 (IntKind.u8.wrap ((c : Int) / 16777216))] e)) :=
  conv4b hs he hd wr.heap.size rfl c hc HF (Below.refl _ _) rfl
set_option maxRecDepth 100000 in
set_option maxHeartbeats 1000000 in
theorem ref_wrap (s : ByteArray) (hs : s.size ≤ 140737488355328) (w : World) :
    Calls Tryz.prog 14 #[.string s] w fun e w' => e = .returned (.string ⟨(wrap s.data.toList).toArray⟩) ∧ Below w.heap.size w w' := by
  have hl : (text s.data.toList).length ≤ 140737488355338 := by
    unfold text
    have := (put_length s.data.toList.length).2
    simp at this ⊢
    omega
  obtain ⟨L, hL⟩ : ∃ L, L = text s.data.toList := ⟨_, rfl⟩
  rw [← hL] at hl
  have HL : Hid (L = text s.data.toList) := hL
  obtain ⟨c, hc⟩ : ∃ c, c = crc s.data.toList := ⟨_, rfl⟩
  have hcl : c < 4294967296 := hc ▸ crc_lt _
  have HC : Hid (c = crc s.data.toList) := hc
  obtain ⟨F, hF⟩ : ∃ F, F = four c := ⟨_, rfl⟩
  have hfl : F.length = 4 := hF ▸ rfl
  have HF : Hid (F = four c) := hF
  clear hL hc hF
  go_enter Tryz.func14, Tryz.ntmps14
  go_wp2_with fail
  refine (ref_of s (by omega) _).mono ?_
  rintro e w2 ⟨rfl, rfl⟩
  rw [← HC.out]
  have hcv0 := conv4b (P := Tryz.prog) (src := 38) (dst := 9) Tryz.underlying38 Tryz.underlying5 Tryz.underlying9 w2.heap.size rfl c hcl HF (Below.refl (w2.alloc (.cells #[.int .u8 (IntKind.u8.wrap c), .int .u8 (IntKind.u8.wrap ((c : Int) / 256)), .int .u8 (IntKind.u8.wrap ((c : Int) / 65536)), .int .u8 (IntKind.u8.wrap ((c : Int) / 16777216))] 5)).drew.heap.size _) rfl
  go_wp2
  go_region_with (go_at_call 38; refine (ref_text s (by omega) _).mono ?_; rintro x w3 ⟨rfl, hb3⟩; rw [← HL.out]; (first | have hcv1 := conv4b (P := Tryz.prog) (src := 38) (dst := 9) Tryz.underlying38 Tryz.underlying5 Tryz.underlying9 w2.heap.size rfl c hcl HF hb3 rfl | have hcv1 := conv4w (P := Tryz.prog) (src := 38) (dst := 9) Tryz.underlying38 Tryz.underlying5 Tryz.underlying9 w3 c hcl HF))
  all_goals
    go_wp2
    go_ret
    refine ⟨?_, ?_⟩
    · unfold wrap
      rw [← HL.out, ← HC.out, ← HF.out]
      exact congrArg (fun x => Ending.returned (.string x)) (ByteArray.mk_append_mk _ _)
    · first
      | exact ((Below.refl w2.heap.size w2).drew.trans hb3).alloc hb3.size _
      | exact (((Below.refl w2.heap.size w2).alloc (Nat.le_refl _) _).drew.trans (hb3.mono (by simp)))
theorem refwrap_at {s : ByteArray} {L : List UInt8} (H : Hid (L = wrap s.data.toList)) (hs : s.size ≤ 140737488355328) (w : World) :
    Calls Tryz.prog 14 #[.string s] w fun e w' => e = .returned (.string ⟨L.toArray⟩) ∧ Below w.heap.size w w' := by
  rw [H.out]; exact ref_wrap s hs w
theorem reftexts_atS {s u : ByteArray} {most : Int} {k e : Nat} (h : Hid (texts s.data.toList most = (u.data.toList, k, e))) (hs : s.size ≤ 281474976710656) (hm0 : -9223372036854775808 ≤ most) (hm1 : most ≤ 9223372036854775807) (w : World) :
    Calls Tryz.prog 36 #[.string s, .int .i64 most] w fun x w' => x = .returned (.tuple #[.string u, .int .i64 k, .int .i64 e]) ∧ w' = w := by
  have := ref_texts s most hs hm0 hm1 w
  rw [h.out] at this
  exact this
theorem refof_at {s : ByteArray} {c : Nat} (H : Hid (c = crc s.data.toList)) (hs : s.size ≤ 281474976710656) (w : World) :
    Calls Tryz.prog 37 #[.string s] w fun e w' => e = .returned (.int .u32 c) ∧ w' = w := by
  rw [H.out]; exact ref_of s hs w
theorem cut_first (s : ByteArray) (n : Nat) : (s.extract 0 n).data.toList = s.data.toList.take n := by
  simp [ByteArray.data_extract]
theorem take_wrap {l b : List UInt8} {k : Nat} (h : texts l 40000 = (b, k, 0)) : wrap b = l.take (k + 4) ↔ (l.drop k).take 4 = four (crc b) := by
  rw [List.take_add, texts_front h]
  unfold wrap
  rw [List.append_cancel_left_eq]
  exact eq_comm
set_option maxRecDepth 100000 in
set_option maxHeartbeats 1000000 in
theorem ref_open (s : ByteArray) (hs : s.size ≤ 140737488355328) (w : World) :
    Calls Tryz.prog 12 #[.string s] w fun e w' => e = .returned (.tuple #[.string ⟨(unwrap s.data.toList).1.toArray⟩, .int .i64 (unwrap s.data.toList).2.1, .int .i64 (unwrap s.data.toList).2.2]) ∧ Below w.heap.size w w' := by
  rcases hg : texts s.data.toList 40000 with ⟨b, k, e⟩
  obtain ⟨hk, hbl, hbm, he, hek⟩ := texts_okS hg
  have hk : k ≤ s.size := hk
  have HG : Hid (texts s.data.toList 40000 = (b, k, e)) := hg
  obtain ⟨u, hu⟩ : ∃ u : ByteArray, u = ⟨b.toArray⟩ := ⟨_, rfl⟩
  have HU : Hid (texts s.data.toList 40000 = (u.data.toList, k, e)) := by rw [hu]; exact hg
  have hul : u.size ≤ s.size := by rw [hu]; exact hbl
  have hub : u.data.toList = b := by rw [hu]
  obtain ⟨L, hL⟩ : ∃ L, L = wrap u.data.toList := ⟨_, rfl⟩
  have HL : Hid (L = wrap u.data.toList) := hL
  have HB : Hid (u.data.toList = b) := hub
  clear hL hg hek hbm hu hub hbl
  go_enter Tryz.func12, Tryz.ntmps12
  go_wp2_with fail
  refine (reftexts_atS HU (by omega) (by omega) (by omega) _).mono ?_
  rintro x w1 ⟨rfl, rfl⟩
  by_cases h0 : e = 0
  · subst h0
    by_cases h4 : s.size < k + 4
    · go_wp2
      go_ret3
      rw [unwrap_10 HG.out (show s.size - k < 4 by omega)]
      exact ⟨fin3s rfl rfl rfl, Below.refl _ _⟩
    · have h4' : ¬ s.data.toList.length - k < 4 := show ¬ s.size - k < 4 by omega
      have hw4 : IntKind.i64.wrap ((k : Int) + 4) = ((k + 4 : Nat) : Int) := by rw [IntKind.wrap_i64]; omega
      have hle : k + 4 ≤ s.size := by omega
      go_wp2
      go_region_with ((go_at_call 14; refine (refwrap_at HL (by omega) _).mono ?_; rintro x w3 ⟨rfl, hb3⟩))
      all_goals
        have hb4 := (Below.refl w1.heap.size w1).drew.trans hb3
        go_wp2
        · go_ret3
          rw [unwrap_12 HG.out h4' (fun e => by
            have h := ‹(!_) = true›
            rw [ByteArray.toList_eq, cut_first s (k + 4), HL.out, HB.out, (take_wrap HG.out).mpr e] at h
            simp at h)]
          exact ⟨fin3s rfl rfl rfl, hb4⟩
        · go_ret3
          rw [unwrap_0 HG.out h4' ((take_wrap HG.out).mp (by
            have h := ‹(!_) = false›
            rw [ByteArray.toList_eq, cut_first s (k + 4), HL.out, HB.out] at h
            simpa using h))]
          exact ⟨fin3s (by rw [← HB.out]) (by simp) rfl, hb4⟩
  · go_wp2
    go_ret3
    rw [unwrap_bad HG.out h0]
    exact ⟨fin3s rfl rfl rfl, Below.refl _ _⟩
theorem refopen_at {s u : ByteArray} {k e : Nat} (h : Hid (unwrap s.data.toList = (u.data.toList, k, e))) (hs : s.size ≤ 140737488355328) (w : World) :
    Calls Tryz.prog 12 #[.string s] w fun x w' => x = .returned (.tuple #[.string u, .int .i64 k, .int .i64 e]) ∧ Below w.heap.size w w' := by
  have := ref_open s hs w
  rw [h.out] at this
  exact this
end
section
open Go.RowKit
set_option linter.unusedVariables false
/-- block g's first cells are xs, and none of them is frozen -/
def VRow (W : World) (g : Nat) (xs : List Value) : Prop :=
  ∃ (cur : Array Value) (e : TypeId) (lo hi : Nat), W.heap[g]? = some (.cells cur e (lo, hi)) ∧ (∀ j, j < xs.length → ¬ (lo ≤ j ∧ j < hi)) ∧ cur.toList.take xs.length = xs
theorem VRow.lt {W : World} {g : Nat} {xs : List Value} (h : VRow W g xs) : g < W.heap.size := by
  obtain ⟨cur, e, lo, hi, hg, _⟩ := h
  exact (Array.getElem?_eq_some_iff.1 hg).1
theorem VRow.cell? {W : World} {g : Nat} {xs : List Value} (h : VRow W g xs) (j : Nat) (hj : j < xs.length) : W.cell? ⟨g, j, none⟩ = xs[j]? := by
  obtain ⟨cur, e, lo, hi, hg, _, ht⟩ := h
  rw [cell_of_row W g j cur e (lo, hi) hg]
  have : (cur.toList.take xs.length)[j]? = xs[j]? := by rw [ht]
  rw [← this, List.getElem?_take, if_pos hj]
  simp
theorem VRow.cell {W : World} {g : Nat} {xs : List Value} (h : VRow W g xs) (j : Nat) (hj : j < xs.length) : W.cell? ⟨g, j, none⟩ = some xs[j] := by
  rw [h.cell? j hj]; simp
theorem VRow.frozen {W : World} {g : Nat} {xs : List Value} (h : VRow W g xs) (j : Nat) (hj : j < xs.length) : W.frozen? ⟨g, j, none⟩ = false := by
  obtain ⟨cur, e, lo, hi, hg, hf, ht⟩ := h
  have := hf j hj
  simp only [World.frozen?, hg]
  simp; omega
theorem VRow.set {W : World} {g : Nat} {xs : List Value} (h : VRow W g xs) (j : Nat) (v : Value) : VRow (W.setCell ⟨g, j, none⟩ v) g (xs.set j v) := by
  obtain ⟨cur, e, lo, hi, hg, hf, ht⟩ := h
  refine ⟨cur.setIfInBounds j v, e, lo, hi, ?_, by simpa using hf, ?_⟩
  · rw [setCell_eq_setRow W g j cur e (lo, hi) v hg]; exact setRow_heap W g cur _ e _ hg
  · rw [Array.toList_setIfInBounds, List.length_set, List.take_set, ht]
theorem VRow.heap {W W' : World} {g : Nat} {xs : List Value} (h : VRow W g xs) (e : W'.heap[g]? = W.heap[g]?) : VRow W' g xs := by
  unfold VRow; rw [e]; exact h
theorem VRow.below {B : Nat} {W W' : World} {g : Nat} {xs : List Value} (h : VRow W g xs) (hb : Below B W W') (hg : g < B) : VRow W' g xs := h.heap (hb.block g hg)
theorem VRow.drew {W : World} {g : Nat} {xs : List Value} (h : VRow W g xs) : VRow W.drew g xs := h
theorem VRow.other {W : World} {g : Nat} {xs : List Value} (h : VRow W g xs) (a : Addr) (v : Value) (hne : g ≠ a.block) : VRow (W.setCell a v) g xs := h.heap (heap_setCell_other W a g v hne)
theorem VRow.alloc {W : World} {g : Nat} {xs : List Value} (h : VRow W g xs) (o : Obj) : VRow (W.alloc o) g xs := by
  have := h.lt
  exact h.below (B := W.heap.size) ((Below.refl _ W).alloc (Nat.le_refl _) o) this
theorem VRow.fresh (W : World) (cs : Array Value) (e : TypeId) : VRow (W.alloc (.cells cs e)) W.heap.size cs.toList :=
  ⟨cs, e, 0, 0, heap_alloc_new W _, fun j _ => by omega, List.take_of_length_le (Nat.le_refl _)⟩
theorem VRow.take {W : World} {g : Nat} {xs : List Value} (h : VRow W g xs) (n : Nat) : VRow W g (xs.take n) := by
  obtain ⟨cur, e, lo, hi, hg, hf, ht⟩ := h
  refine ⟨cur, e, lo, hi, hg, fun j hj => hf j (by simp at hj; omega), ?_⟩
  rw [List.length_take, ← List.take_take, ht]
theorem u8s_length (xs : List UInt8) : (u8s xs).length = xs.length := by simp [u8s]
theorem u8s_get (xs : List UInt8) (j : Nat) (hj : j < xs.length) : (u8s xs)[j]? = some (.int .u8 xs[j].toNat) := by simp [u8s, hj]
theorem u8s_set (xs : List UInt8) (j : Nat) (b : UInt8) : (u8s xs).set j (.int .u8 b.toNat) = u8s (xs.set j b) := by simp [u8s, List.map_set]
theorem VRow.byte {W : World} {g : Nat} {xs : List UInt8} (h : VRow W g (u8s xs)) (j : Nat) (hj : j < xs.length) : W.cell? ⟨g, j, none⟩ = some (.int .u8 xs[j].toNat) := by
  rw [h.cell? j (by rw [u8s_length]; exact hj), u8s_get xs j hj]
theorem VRow.setByte {W : World} {g : Nat} {xs : List UInt8} (h : VRow W g (u8s xs)) (j : Nat) (b : UInt8) : VRow (W.setCell ⟨g, j, none⟩ (.int .u8 b.toNat)) g (u8s (xs.set j b)) := by
  rw [← u8s_set]; exact h.set j _
/-- 'string(b)' -/
theorem VRow.text {P : Program} {W : World} {src dst e g n cap : Nat} {xs : List UInt8} (h : VRow W g (u8s xs)) (hs : P.underlying src = some (.slice e)) (he : P.underlying e = some (.int .u8)) (hd : P.underlying dst = some .string) (hn : xs.length = n) :
    (convert src dst (.slice (some ⟨g, 0, none⟩) n cap)).run P W = .ok (.string ⟨xs.toArray⟩) W := by
  rw [← strOfU8s]
  refine run_convert_bytes_arg W src e hs he g 0 n cap _ (by simpa using hn) (fun i hi => ?_) dst hd
  rw [Nat.zero_add, h.byte i (by omega)]
  simp [List.getD, hn, hi]
/-- '[]byte(s)' -/
theorem bytes_row {P : Program} (w : World) (src dst e : TypeId) (s : ByteArray) (hs : P.underlying src = some .string) (hd : P.underlying dst = some (.slice e)) (he : P.underlying e = some (.int .u8)) :
    ∃ (W : World) (cap : Nat), (convert src dst (.string s)).run P w = .ok (.slice (some ⟨w.heap.size, 0, none⟩) s.size cap) W ∧ VRow W w.heap.size (u8s s.data.toList) ∧ Below w.heap.size w W := by
  refine ⟨_, _, Lib.run_convert_string_bytes w src dst e s hs hd he, ⟨_, e, _, _, Lib.bytesWorld_at_new w e s, fun j hj => ?_, ?_⟩, ?_⟩
  · rw [u8s_length] at hj
    simp [Lib.bytesCells]
    simp at hj
    omega
  · rw [u8s_length]
    simp [Lib.bytesCells, u8s]
  · exact ⟨rfl, rfl, rfl, by rw [Lib.bytesWorld_size]; omega, fun k hk => Lib.bytesWorld_at_old w e s k hk⟩
/-- 'make([]byte, n)' -/
theorem make_bytes {P : Program} (t e : TypeId) (i : TypeInfo) (ht : P.underlying t = some (.slice e)) (hi : P.info? e = some i) (hz : i.zero = some (.int .u8 0)) (hsz : i.size = 1) (hby : i.bytes = 1) (n : Nat) (hn : n ≤ 281474976710656) :
    ∃ M : Array Value, M.toList = u8s (List.replicate n 0) ∧ ∀ W : World, (Instr.makeSlice t (.int .i64 (n : Int)) (.int .i64 (n : Int))).run P W = .ok (.slice (some ⟨W.heap.size, 0, none⟩) n n) (W.alloc (.cells M e)) := by
  refine ⟨madeCells (Value.int .u8 0).cells (((n : Nat) : Int).toNat * i.size), ?_, fun W => ?_⟩
  · apply List.ext_getElem?
    intro j
    simp [madeCells, hsz, u8s, List.getElem?_replicate, Value.cells, Nat.mod_one]
    by_cases h : j < n <;> simp [h]
  · simpa using run_make (P := P) W t e i (.int .u8 0) ht hi hz .i64 .i64 (n : Int) (n : Int) (by omega) (by omega) (by rw [hby]; omega) (by omega)
theorem made_bytes {P : Program} (t e : TypeId) (i : TypeInfo) (ht : P.underlying t = some (.slice e)) (hi : P.info? e = some i) (hz : i.zero = some (.int .u8 0)) (hsz : i.size = 1) (hby : i.bytes = 1) (n : Nat) (hn : n ≤ 281474976710656) (z : Int) (hz : (n : Int) = z) (W : World) :
    ∃ W' : World, (Instr.makeSlice t (.int .i64 z) (.int .i64 z)).run P W = .ok (.slice (some ⟨W.heap.size, 0, none⟩) n n) W' ∧ VRow W' W.heap.size (u8s (List.replicate n 0)) ∧ Below W.heap.size W W' := by
  subst hz
  obtain ⟨M, hM, hmk⟩ := make_bytes (P := P) t e i ht hi ‹_› hsz hby n hn
  exact ⟨_, hmk W, hM ▸ VRow.fresh W M e, (Below.refl _ _).alloc (Nat.le_refl _) _⟩
theorem below_drewN {B : Nat} {a w : World} (h : Below B a w) (n : Nat) : Below B a (w.drewN n) := by
  induction n with
  | zero => exact h
  | succ n ih => exact ih.drew
end
end Go.Proofs.YtpedngbjpbeanaaGreatDoor
