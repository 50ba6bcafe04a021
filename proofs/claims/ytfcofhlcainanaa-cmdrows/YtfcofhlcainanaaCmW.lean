/- Plain facts on commands: what was told is read; what is read was told so. -/
import Derived.Test.YtfcofhlcainanaaCmQ
namespace Go.Proofs.Ytfcofhlcainanaa
open Go.RowKit
set_option linter.unusedVariables false
def numsC (c : Cm) : Prop := ∀ k, -9223372036854775808 ≤ (c.f k).n ∧ (c.f k).n ≤ 9223372036854775807
theorem part_back {c d : Cm} {p : Pa} (hp : p.ok) (hi : p.is c = true) (hn : numsC c) (R : List UInt8) : p.read d (p.told c ++ R) = (p.put c d, (p.told c).length, 0) := by
  rcases p with ⟨k, lo, hi'⟩ | k
  · obtain ⟨h1, h2⟩ := is_num.1 hi
    obtain ⟨-, o1, o2, o3, o4⟩ := hp
    have hg := get_put (zig (c.i k)) (zig_le _ (by omega) (by omega)) R
    show numR d k lo hi' (put (zig (c.i k)) ++ R) = _
    unfold numR
    rw [hg]
    simp only
    rw [zag_zig, if_neg (by simp), if_neg (by omega)]
    rfl
  · have h2 : isF (c.f k) = true := hi
    have h3 := h2
    unfold isF at h3
    simp only [Bool.and_eq_true, decide_eq_true_eq] at h3
    have hs : (c.f k).s.data.toList.length ≤ 12 := h3.2
    obtain ⟨n1, n2⟩ := hn k
    have ht := texts_back (c.f k).s.data.toList (put (zig (c.f k).n) ++ R) 12 (by omega) (by omega)
    have hg := get_put (zig (c.f k).n) (zig_le _ n1 n2) R
    show fldR d k ((text (c.f k).s.data.toList ++ put (zig (c.f k).n)) ++ R) = _
    unfold fldR
    rw [List.append_assoc, ht]
    simp only
    rw [List.drop_left, hg]
    simp only
    rw [zag_zig]
    have e : (⟨(c.f k).n, ⟨(c.f k).s.data.toList.toArray⟩⟩ : Fl) = c.f k := rfl
    rw [e, if_neg (by simp), if_neg (by simp), if_neg (by simp [h2])]
    show (d.setF k (c.f k), _, 0) = (d.setF k (c.f k), (text _ ++ put _).length, 0)
    rw [List.length_append]
theorem readL_back {c : Cm} (hn : numsC c) : ∀ (L : List Pa) (d : Cm) (S R : List UInt8) (z : Nat), (∀ p ∈ L, p.ok) → (∀ p ∈ L, p.is c = true) → S.drop z = toldL L c ++ R → readL S L d z = (putL c L d, z + (toldL L c).length, 0)
  | [], d, S, R, z, _, _, h => rfl
  | p :: l, d, S, R, z, hok, his, h => by
    have e : toldL (p :: l) c = p.told c ++ toldL l c := rfl
    rw [e, List.append_assoc] at h
    have hb := part_back (d := d) (hok p (by simp)) (his p (by simp)) hn (toldL l c ++ R)
    rw [readL, h, hb]
    simp only
    rw [if_neg (by simp), readL_back hn l (p.put c d) S R _ (fun q hq => hok q (by simp [hq])) (fun q hq => his q (by simp [hq])) (by rw [← List.drop_drop, h, List.drop_left]), e, List.length_append, Nat.add_assoc]
    rfl
theorem putL_append (c : Cm) : ∀ (L M : List Pa) (d : Cm), putL c (L ++ M) d = putL c M (putL c L d)
  | [], M, d => rfl
  | p :: l, M, d => putL_append c l M (p.put c d)
theorem read_back {c : Cm} (hi : isC c = true) (hn : numsC c) (R : List UInt8) : readC (toldL (partsP c.kd) c ++ R) = (c, (toldL (partsP c.kd) c).length, 0) := by
  obtain ⟨h1, h2⟩ := isC_iff.1 hi
  have hb := put_back c.kd c h2
  have e : toldL (partsP c.kd) c = toldL headP c ++ toldL (restP c.kd) c := by unfold toldL partsP; rw [List.flatMap_append]
  have ha := readL_back hn headP zC (toldL (partsP c.kd) c ++ R) (toldL (restP c.kd) c ++ R) 0 head_ok (fun p hp => h1 p (by unfold partsP; simp [hp])) (by rw [List.drop_zero, e, List.append_assoc])
  have hkd : (putL c headP zC).kd = c.kd := rfl
  have hr := readL_back hn (restP c.kd) (putL c headP zC) (toldL (partsP c.kd) c ++ R) R (0 + (toldL headP c).length) (rest_ok _) (fun p hp => h1 p (by unfold partsP; simp [hp])) (by rw [Nat.zero_add, e, List.append_assoc, List.drop_left])
  unfold readC
  rw [ha]
  simp only
  rw [hkd, hr]
  simp only
  rw [if_neg (by simp), if_neg (by simp), ← putL_append, show headP ++ restP c.kd = partsP c.kd from rfl, hb, e, List.length_append, Nat.zero_add]
end Go.Proofs.Ytfcofhlcainanaa
