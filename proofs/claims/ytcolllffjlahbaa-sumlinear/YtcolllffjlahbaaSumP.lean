/- Plain facts on check sums and frames, of no program: what a sum is (crc), that it is linear and sees a turned bit, what a frame is (wrap, unwrap). No conditions beyond those typed. -/
import Derived.Test.YtcolllffjlahbaaPlain2
import Derived.Laws.BitsAllLaws
namespace Go.Proofs.Ytcolllffjlahbaa
open Go.RowKit
set_option linter.unusedVariables false
theorem xor_zero_eq {a b : Nat} (h : a ^^^ b = 0) : a = b := by
  have := congrArg (· ^^^ b) h
  simpa [Nat.xor_assoc] using this
def crcBit (c : Nat) : Nat := if c % 2 = 0 then c / 2 else (c / 2) ^^^ 3988292384
def crcBits : Nat → Nat → Nat
  | 0, c => c
  | k+1, c => crcBits k (crcBit c)
def crcStep (c : Nat) (b : UInt8) : Nat := crcBits 8 (c ^^^ b.toNat)
def crcF (c : Nat) (l : List UInt8) : Nat := l.foldl crcStep c
def crc (l : List UInt8) : Nat := crcF 4294967295 l ^^^ 4294967295
def four (c : Nat) : List UInt8 := [UInt8.ofNat c, UInt8.ofNat (c / 256), UInt8.ofNat (c / 65536), UInt8.ofNat (c / 16777216)]
def wrap (l : List UInt8) : List UInt8 := text l ++ four (crc l)
def unwrap (l : List UInt8) : List UInt8 × Nat × Nat :=
  let (b, k, e) := texts l 40000
  if e ≠ 0 then ([], 0, e) else if l.length - k < 4 then ([], 0, 10) else if (l.drop k).take 4 ≠ four (crc b) then ([], 0, 12) else (b, k + 4, 0)
theorem crcBit_lt (c : Nat) (h : c < 4294967296) : crcBit c < 4294967296 := by
  unfold crcBit
  split
  · omega
  · exact Nat.xor_lt_two_pow (n := 32) (by omega) (by omega)
theorem crcBits_lt : ∀ (k c : Nat), c < 4294967296 → crcBits k c < 4294967296
  | 0, c, h => h
  | k+1, c, h => crcBits_lt k _ (crcBit_lt c h)
theorem xor_lt (a b : Nat) (ha : a < 4294967296) (hb : b < 4294967296) : a ^^^ b < 4294967296 := Nat.xor_lt_two_pow (n := 32) ha hb
theorem u8_lt (b : UInt8) : b.toNat < 4294967296 := by have := b.toNat_lt; omega
theorem crcStep_lt (c : Nat) (b : UInt8) (h : c < 4294967296) : crcStep c b < 4294967296 := crcBits_lt 8 _ (xor_lt _ _ h (u8_lt b))
theorem crcF_lt : ∀ (l : List UInt8) (c : Nat), c < 4294967296 → crcF c l < 4294967296
  | [], c, h => h
  | b :: l, c, h => crcF_lt l _ (crcStep_lt c b h)
theorem crc_lt (l : List UInt8) : crc l < 4294967296 := xor_lt _ _ (crcF_lt l _ (by omega)) (by omega)
theorem crcBit_xor (a b : Nat) : crcBit (a ^^^ b) = crcBit a ^^^ crcBit b := by
  have h2 : (a ^^^ b) / 2 = a / 2 ^^^ b / 2 := by
    have := Nat.shiftRight_xor_distrib (a := a) (b := b) (i := 1)
    simpa [Nat.shiftRight_eq_div_pow] using this
  have h1 : (a ^^^ b) % 2 = (a % 2 ^^^ b % 2) := by
    have := Nat.xor_mod_two_pow (a := a) (b := b) (n := 1)
    simpa using this
  unfold crcBit
  rw [h1, h2]
  rcases Nat.mod_two_eq_zero_or_one a with ha | ha <;> rcases Nat.mod_two_eq_zero_or_one b with hb | hb <;> rw [ha, hb] <;> simp
  · rw [Nat.xor_assoc]
  · rw [Nat.xor_assoc, Nat.xor_assoc, Nat.xor_comm 3988292384]
  · rw [Nat.xor_assoc, Nat.xor_comm 3988292384, Nat.xor_assoc, Nat.xor_self, Nat.xor_zero]
theorem crcBits_xor : ∀ (k a b : Nat), crcBits k (a ^^^ b) = crcBits k a ^^^ crcBits k b
  | 0, a, b => rfl
  | k+1, a, b => by unfold crcBits; rw [crcBit_xor, crcBits_xor k]
theorem crcBit_zero (a : Nat) (h : a < 4294967296) (h0 : crcBit a = 0) : a = 0 := by
  unfold crcBit at h0
  split at h0
  · omega
  · have := xor_zero_eq h0
    omega
theorem crcBits_zero : ∀ (k a : Nat), a < 4294967296 → crcBits k a = 0 → a = 0
  | 0, a, _, h0 => h0
  | k+1, a, h, h0 => crcBit_zero a h (crcBits_zero k _ (crcBit_lt a h) h0)
theorem xor_ne {a b : Nat} (h : a ≠ b) : a ^^^ b ≠ 0 := fun e => h (xor_zero_eq e)
theorem crcBits_inj (k a b : Nat) (ha : a < 4294967296) (hb : b < 4294967296) (h : crcBits k a = crcBits k b) : a = b := by
  refine xor_zero_eq (crcBits_zero k _ (xor_lt _ _ ha hb) ?_)
  rw [crcBits_xor, h, Nat.xor_self]
theorem xor_right_inj {a b c : Nat} (h : a ^^^ c = b ^^^ c) : a = b := by
  have := congrArg (· ^^^ c) h
  simpa [Nat.xor_assoc] using this
theorem crcStep_inj (a b : Nat) (x : UInt8) (ha : a < 4294967296) (hb : b < 4294967296) (h : crcStep a x = crcStep b x) : a = b :=
  xor_right_inj (crcBits_inj 8 _ _ (xor_lt _ _ ha (u8_lt x)) (xor_lt _ _ hb (u8_lt x)) h)
theorem crcStep_byte (c : Nat) (x y : UInt8) (hc : c < 4294967296) (h : crcStep c x = crcStep c y) : x = y := by
  have := crcBits_inj 8 _ _ (xor_lt _ _ hc (u8_lt x)) (xor_lt _ _ hc (u8_lt y)) h
  rw [Nat.xor_comm c, Nat.xor_comm c] at this
  exact UInt8.toNat_inj.mp (xor_right_inj this)
theorem crcF_inj : ∀ (l : List UInt8) (a b : Nat), a < 4294967296 → b < 4294967296 → crcF a l = crcF b l → a = b
  | [], a, b, _, _, h => h
  | x :: l, a, b, ha, hb, h => crcStep_inj a b x ha hb (crcF_inj l _ _ (crcStep_lt a x ha) (crcStep_lt b x hb) h)
theorem crcF_append (c : Nat) (l r : List UInt8) : crcF c (l ++ r) = crcF (crcF c l) r := by simp [crcF]
theorem crc_inj_of (l r : List UInt8) (h : crc l = crc r) : crcF 4294967295 l = crcF 4294967295 r := xor_right_inj h
/-- one byte that is another is seen -/
theorem crc_turned (p q : List UInt8) (x y : UInt8) (h : crc (p ++ x :: q) = crc (p ++ y :: q)) : x = y := by
  have h1 := crc_inj_of _ _ h
  rw [crcF_append, crcF_append] at h1
  have hp := crcF_lt p 4294967295 (by omega)
  exact crcStep_byte _ x y hp (crcF_inj q _ _ (crcStep_lt _ _ hp) (crcStep_lt _ _ hp) h1)
/-- three lists of one length, byte by byte put together -/
def mix3 : List UInt8 → List UInt8 → List UInt8 → List UInt8
  | a :: x, b :: y, c :: z => (a ^^^ b ^^^ c) :: mix3 x y z
  | _, _, _ => []
theorem crcF_mix : ∀ (x y z : List UInt8) (a b c : Nat), x.length = y.length → y.length = z.length → crcF (a ^^^ b ^^^ c) (mix3 x y z) = crcF a x ^^^ crcF b y ^^^ crcF c z
  | [], [], [], a, b, c, _, _ => rfl
  | x :: xs, y :: ys, z :: zs, a, b, c, h1, h2 => by
    have := crcF_mix xs ys zs (crcStep a x) (crcStep b y) (crcStep c z) (by simpa using h1) (by simpa using h2)
    show crcF (crcStep (a ^^^ b ^^^ c) (x ^^^ y ^^^ z)) (mix3 xs ys zs) = _
    rw [show crcStep (a ^^^ b ^^^ c) (x ^^^ y ^^^ z) = crcStep a x ^^^ crcStep b y ^^^ crcStep c z from ?_]
    · exact this
    · unfold crcStep
      rw [← crcBits_xor, ← crcBits_xor, UInt8.toNat_xor, UInt8.toNat_xor]
      congr 1
      ac_rfl
theorem crc_mix (x y z : List UInt8) (h1 : x.length = y.length) (h2 : y.length = z.length) : crc (mix3 x y z) = crc x ^^^ crc y ^^^ crc z := by
  have h := crcF_mix x y z 4294967295 4294967295 4294967295 h1 h2
  rw [Nat.xor_self, Nat.zero_xor] at h
  unfold crc
  rw [h, show crcF 4294967295 x ^^^ 4294967295 ^^^ (crcF 4294967295 y ^^^ 4294967295) ^^^ (crcF 4294967295 z ^^^ 4294967295) = crcF 4294967295 x ^^^ crcF 4294967295 y ^^^ crcF 4294967295 z ^^^ (4294967295 ^^^ (4294967295 ^^^ 4294967295)) by ac_rfl, Nat.xor_self, Nat.xor_zero]
theorem swap1 : ∀ d : Fin 256, d ≠ 0 → crcBits 8 d.val ≠ d.val ∧ crcBits 8 (crcBits 8 d.val) ≠ d.val ∧ crcBits 8 (crcBits 8 (crcBits 8 d.val)) ≠ d.val := by decide +kernel
theorem swap2 (d : Nat) (h : d < 256) (h0 : d ≠ 0) : crcBits 8 d ≠ d ∧ crcBits 8 (crcBits 8 d) ≠ d ∧ crcBits 8 (crcBits 8 (crcBits 8 d)) ≠ d := swap1 ⟨d, h⟩ (fun e => h0 (congrArg Fin.val e))
theorem step_xor (a b : Nat) (u v : UInt8) : crcStep a u ^^^ crcStep b v = crcBits 8 ((a ^^^ b) ^^^ (u.toNat ^^^ v.toNat)) := by
  have h : a ^^^ b ^^^ (u.toNat ^^^ v.toNat) = a ^^^ u.toNat ^^^ (b ^^^ v.toNat) := by ac_rfl
  rw [h, crcBits_xor, crcStep, crcStep]
theorem part_xor {P Q x y : Nat} (h : P ^^^ y = Q ^^^ x) : P ^^^ Q = x ^^^ y := by
  have e := congrArg (· ^^^ (y ^^^ Q)) h
  rw [show P ^^^ y ^^^ (y ^^^ Q) = P ^^^ Q ^^^ (y ^^^ y) by ac_rfl, show Q ^^^ x ^^^ (y ^^^ Q) = x ^^^ y ^^^ (Q ^^^ Q) by ac_rfl, Nat.xor_self, Nat.xor_self, Nat.xor_zero, Nat.xor_zero] at e
  exact e
theorem swap_key (B : Nat → Nat) (st : Nat → UInt8 → Nat) (hs : ∀ (a b : Nat) (u v : UInt8), st a u ^^^ st b v = B ((a ^^^ b) ^^^ (u.toNat ^^^ v.toNat))) (c : Nat) (x y : UInt8)
    (key : B (x.toNat ^^^ y.toNat) ≠ x.toNat ^^^ y.toNat ∧ B (B (x.toNat ^^^ y.toNat)) ≠ x.toNat ^^^ y.toNat ∧ B (B (B (x.toNat ^^^ y.toNat))) ≠ x.toNat ^^^ y.toNat) :
    ∀ m : List UInt8, m.length ≤ 2 → m.foldl st (st c x) ^^^ m.foldl st (st c y) ≠ x.toNat ^^^ y.toNat
  | [], _, e => key.1 (by change st c x ^^^ st c y = _ at e; rw [hs, Nat.xor_self, Nat.zero_xor] at e; exact e)
  | [u], _, e => key.2.1 (by change st (st c x) u ^^^ st (st c y) u = _ at e; rw [hs, hs, Nat.xor_self, Nat.zero_xor, Nat.xor_self, Nat.xor_zero] at e; exact e)
  | [u, v], _, e => key.2.2 (by change st (st (st c x) u) v ^^^ st (st (st c y) u) v = _ at e; rw [hs, hs, hs, Nat.xor_self, Nat.zero_xor, Nat.xor_self, Nat.xor_zero, Nat.xor_self, Nat.xor_zero] at e; exact e)
  | _ :: _ :: _ :: _, h, _ => by simp at h
theorem crcF_five (a : Nat) (u v : UInt8) (m q : List UInt8) : crcF a (u :: (m ++ v :: q)) = crcF (crcStep (crcF (crcStep a u) m) v) q := by
  unfold crcF
  rw [List.foldl_cons, List.foldl_append, List.foldl_cons]
/-- two unlike bytes at most three places apart that change their places are seen -/
theorem crc_swapped (p m q : List UInt8) (x y : UInt8) (hm : m.length ≤ 2) (h : crc (p ++ x :: (m ++ y :: q)) = crc (p ++ y :: (m ++ x :: q))) : x = y := by
  have h1 := crc_inj_of _ _ h
  rw [crcF_append, crcF_append] at h1
  have hp := crcF_lt p 4294967295 (by omega)
  generalize crcF 4294967295 p = c at h1 hp
  rw [crcF_five, crcF_five] at h1
  have hX := crcF_lt m _ (crcStep_lt c x hp)
  have hY := crcF_lt m _ (crcStep_lt c y hp)
  have hF : crcF (crcStep c x) m ^^^ crcF (crcStep c y) m ≠ x.toNat ^^^ y.toNat ∨ x = y := by
    by_cases hne : x = y
    · exact .inr hne
    · exact .inl (swap_key (crcBits 8) crcStep step_xor c x y (swap2 _ (Nat.xor_lt_two_pow (n := 8) x.toNat_lt y.toNat_lt) (xor_ne fun e => hne (UInt8.toNat_inj.mp e))) m hm)
  generalize crcF (crcStep c x) m = P at h1 hX hF
  generalize crcF (crcStep c y) m = Q at h1 hY hF
  have h2 := crcF_inj q _ _ (crcStep_lt _ _ hX) (crcStep_lt _ _ hY) h1
  have h3 := crcBits_inj 8 _ _ (xor_lt _ _ hX (u8_lt _)) (xor_lt _ _ hY (u8_lt _)) h2
  exact hF.resolve_left fun n => n (part_xor h3)
theorem four_length (c : Nat) : (four c).length = 4 := rfl
theorem four_inj (a b : Nat) (ha : a < 4294967296) (hb : b < 4294967296) (h : four a = four b) : a = b := by
  unfold four at h
  injection h with h1 h; injection h with h2 h; injection h with h3 h; injection h with h4 h
  have f1 := congrArg UInt8.toNat h1
  have f2 := congrArg UInt8.toNat h2
  have f3 := congrArg UInt8.toNat h3
  have f4 := congrArg UInt8.toNat h4
  simp at f1 f2 f3 f4
  omega
theorem wrap_length (l : List UInt8) : (wrap l).length = (text l).length + 4 := by simp [wrap, four_length]
theorem unwrap_bad {l : List UInt8} {b : List UInt8} {k e : Nat} (h : texts l 40000 = (b, k, e)) (he : e ≠ 0) : unwrap l = ([], 0, e) := by
  unfold unwrap; rw [h]; simp [he]
theorem unwrap_10 {l : List UInt8} {b : List UInt8} {k : Nat} (h : texts l 40000 = (b, k, 0)) (hk : l.length - k < 4) : unwrap l = ([], 0, 10) := by
  unfold unwrap; rw [h]; simp; intro; omega
theorem unwrap_12 {l : List UInt8} {b : List UInt8} {k : Nat} (h : texts l 40000 = (b, k, 0)) (hk : ¬ l.length - k < 4) (hn : (l.drop k).take 4 ≠ four (crc b)) : unwrap l = ([], 0, 12) := by
  unfold unwrap; rw [h]; simp only; rw [if_neg (by simp), if_neg hk, if_pos hn]
theorem unwrap_0 {l : List UInt8} {b : List UInt8} {k : Nat} (h : texts l 40000 = (b, k, 0)) (hk : ¬ l.length - k < 4) (hn : (l.drop k).take 4 = four (crc b)) : unwrap l = (b, k + 4, 0) := by
  unfold unwrap; rw [h]; simp only; rw [if_neg (by simp), if_neg hk, if_neg (by simp [hn])]
theorem texts_ok {l b : List UInt8} {m : Int} {k e : Nat} (h : texts l m = (b, k, e)) : k ≤ l.length ∧ b.length ≤ l.length ∧ (b.length : Int) ≤ max m 0 ∧ (e = 0 ∨ e = 10 ∨ e = 11 ∨ e = 13) ∧ (e ≠ 0 → b = [] ∧ k = 0) := by
  rcases hg : get l with ⟨n, j, f⟩
  obtain ⟨hn, hj, hj1, hf, hf1⟩ := get_ok hg
  unfold texts at h
  rw [hg] at h
  simp only at h
  split at h
  · cases h; simp; omega
  · split at h
    · cases h; simp; omega
    · split at h
      · cases h; simp; omega
      · cases h; simp; omega
end Go.Proofs.Ytcolllffjlahbaa
