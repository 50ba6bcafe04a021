/- Plain facts: a delta that was written is read, whatever stands behind it. -/
import Derived.Test.YtkklchobiiajgaaFldL
import Derived.Test.YtkklchobiiajgaaFldT
namespace Go.Proofs.Ytkklchobiiajgaa
open Go.RowKit
set_option linter.unusedVariables false
theorem pair_back (a b : Nat) (ha : a ≤ 1000000) (hb : b ≤ 1000000) (r : List UInt8) : pairR (put a ++ (put b ++ r)) = (a, b, (put a).length + (put b).length, 0) := by
  have h1 := get_put a (by omega) (put b ++ r)
  refine pairR_3 h1 ?_
  rw [List.drop_left]
  exact get_put b (by omega) r
theorem field_back (f : Fl) (hf : isF f = true) (hn : -9223372036854775808 ≤ f.n ∧ f.n ≤ 9223372036854775807) (r : List UInt8) : fieldR (told f ++ r) = (f, (told f).length, 0) := by
  obtain ⟨n, s⟩ := f
  simp only [isF, Bool.and_eq_true, decide_eq_true_eq, Bool.or_eq_true, beq_iff_eq] at hf
  obtain ⟨h1, h2⟩ := hf
  have h2 : s.data.toList.length ≤ 12 := h2
  by_cases he : s.data.toList = []
  · have hs : s = ⟨#[]⟩ := ByteArray.ext (Array.toList_inj.mp he)
    subst hs
    have ht := texts_text [] (put (zig n) ++ r) 12 (by simp) (by simp)
    have hz := zig_le n hn.1 hn.2
    unfold told
    rw [if_pos rfl, List.append_assoc]
    have e := fieldR_4 (l := text [] ++ (put (zig n) ++ r)) ht (by
      rw [show (put (List.length ([] : List UInt8))).length + List.length ([] : List UInt8) = (text []).length by simp [text], List.drop_left]
      exact get_put (zig n) (by omega) r)
    rw [zag_zig] at e
    refine e.trans ?_
    simp [text]
  · have h1' : n = 0 := by
      rcases h1 with h | h
      · exact h
      · rw [ByteArray.toList_eq] at h; exact absurd h he
    subst h1'
    have ht := texts_text s.data.toList r 12 (by omega) (by omega)
    unfold told
    rw [if_neg he, List.append_nil]
    refine (fieldR_2 ht he).trans ?_
    simp [text]
def tailK (d : Dl) (r : List UInt8) : Nat → List UInt8
  | 0 => r
  | k + 1 => (if d.m.testBit (4 - k) then told (d.f (3 - k)) else []) ++ tailK d r k
theorem bytes_split (d : Dl) (r : List UInt8) : bytesK d 4 ++ r = bytesK d 0 ++ tailK d r 4 ∧ bytesK d 4 ++ r = bytesK d 1 ++ tailK d r 3 ∧ bytesK d 4 ++ r = bytesK d 2 ++ tailK d r 2 ∧ bytesK d 4 ++ r = bytesK d 3 ++ tailK d r 1 := by
  refine ⟨?_, ?_, ?_, ?_⟩ <;> simp [bytesK, tailK, List.append_assoc]
def cutD (d : Dl) (k : Nat) : Dl := ⟨d.id, d.m, d.x, d.y, if 0 < k then d.f0 else zF, if 1 < k then d.f1 else zF, if 2 < k then d.f2 else zF, if 3 < k then d.f3 else zF⟩
theorem step_back {d : Dl} {l R : List UInt8} {k : Nat} (hk : k < 4) (h : readS l (k + 1) = (cutD d k, (bytesK d k).length, 0)) (hl : l = bytesK d k ++ ((if d.m.testBit (k + 1) then told (d.f k) else []) ++ R)) (hF : isF (d.f k) = true) (hn : -9223372036854775808 ≤ (d.f k).n ∧ (d.f k).n ≤ 9223372036854775807) (hz : d.m.testBit (k + 1) = true ∨ d.f k = zF) : readS l (k + 1 + 1) = (cutD d (k + 1), (bytesK d (k + 1)).length, 0) := by
  cases hr : d.m.testBit (k + 1)
  · have hz' : d.f k = zF := by
      rcases hz with h | h
      · rw [hr] at h; cases h
      · exact h
    rw [bytesK_same rfl hr]
    have e : cutD d (k + 1) = cutD d k := by
      obtain rfl | rfl | rfl | rfl : k = 0 ∨ k = 1 ∨ k = 2 ∨ k = 3 := by omega
      all_goals simp [cutD, Dl.f] at hz' ⊢ <;> exact hz'
    rw [e]
    exact readS_skip h hr
  · rw [hr] at hl
    have e : cutD d (k + 1) = (cutD d k).set k (d.f k) := by
      obtain rfl | rfl | rfl | rfl : k = 0 ∨ k = 1 ∨ k = 2 ∨ k = 3 := by omega
      all_goals simp [cutD, Dl.f, Dl.set]
    have hp : fieldR (l.drop (bytesK d k).length) = (d.f k, (told (d.f k)).length, 0) := by
      rw [hl, List.drop_left]
      simp only [if_true]
      exact field_back (d.f k) hF hn R
    have := readS_fl (b := k) h hr hp
    rw [this, e, bytesK_next rfl hr, List.length_append]
theorem read_back (d : Dl) (hD : isD d = true) (hn : ∀ k, -9223372036854775808 ≤ (d.f k).n ∧ (d.f k).n ≤ 9223372036854775807) (r : List UInt8) : read (bytesK d 4 ++ r) = (d, (bytesK d 4).length, 0) := by
  obtain ⟨d1, d2, d3, d4, d5, d6, d7, d8, d9, d10⟩ := isD_small hD
  obtain ⟨s0, s1, s2, s3⟩ := bytes_split d r
  have hD' := hD
  unfold isD at hD'
  simp only [Bool.and_eq_true, Bool.or_eq_true, List.all_eq_true, List.mem_range, decide_eq_true_eq, eqF_iff] at hD'
  obtain ⟨⟨_, hp⟩, hz⟩ := hD'
  obtain ⟨L, hL⟩ : ∃ L, bytesK d 4 ++ r = L := ⟨_, rfl⟩
  rw [hL] at s0 s1 s2 s3 ⊢
  have i1 : (d.id.toNat : Int) = d.id := by omega
  have x1 : (d.x.toNat : Int) = d.x := by omega
  have y1 : (d.y.toNat : Int) = d.y := by omega
  have h0 : readS L 1 = (cutD d 0, (bytesK d 0).length, 0) := by
    cases hr : d.m.testBit 0
    · have e : L = put d.id.toNat ++ (put d.m ++ tailK d r 4) := by rw [s0, bytesK, hr]; simp [List.append_assoc]
      have hh : readS L 0 = (⟨(d.id.toNat : Int), d.m, 0, 0, zF, zF, zF, zF⟩, (put d.id.toNat).length + (put d.m).length, 0) := by
        have := headR_3 (l := L) (by rw [e]; exact pair_back d.id.toNat d.m (by omega) (by omega) _) (by omega) (by omega) (by omega)
        exact this
      have := readS_skip hh hr
      rw [this]
      rcases hp with hp | hp
      · rw [hr] at hp; cases hp
      · simp [pEq] at hp
        simp [cutD, i1, hp, bytesK, hr]
    · have e : L = put d.id.toNat ++ (put d.m ++ ((put d.x.toNat ++ put d.y.toNat) ++ tailK d r 4)) := by rw [s0, bytesK, hr]; simp [List.append_assoc]
      have hh : readS L 0 = (⟨(d.id.toNat : Int), d.m, 0, 0, zF, zF, zF, zF⟩, (put d.id.toNat).length + (put d.m).length, 0) := by
        have := headR_3 (l := L) (by rw [e]; exact pair_back d.id.toNat d.m (by omega) (by omega) _) (by omega) (by omega) (by omega)
        exact this
      have hq : pairR (L.drop ((put d.id.toNat).length + (put d.m).length)) = (d.x.toNat, d.y.toNat, (put d.x.toNat).length + (put d.y.toNat).length, 0) := by
        rw [e, ← List.append_assoc, show (put d.id.toNat).length + (put d.m).length = (put d.id.toNat ++ put d.m).length by rw [List.length_append], List.drop_left, List.append_assoc]
        exact pair_back d.x.toNat d.y.toNat (by omega) (by omega) _
      have := readS_pt hh hr hq
      rw [this]
      have m1 : ((min d.x.toNat 64 : Nat) : Int) = d.x := by omega
      have m2 : ((min d.y.toNat 64 : Nat) : Int) = d.y := by omega
      rw [m1, m2]
      simp [cutD, i1, bytesK, hr]
      omega
  have z : ∀ k, k < 4 → d.m.testBit (k + 1) = true ∨ d.f k = zF := fun k hk => (hz k hk).2
  have h1 := step_back (k := 0) (by omega) h0 (by rw [s0]; rfl) (d10 0) (hn 0) (z 0 (by omega))
  have h2 := step_back (k := 1) (by omega) h1 (by rw [s1]; rfl) (d10 1) (hn 1) (z 1 (by omega))
  have h3 := step_back (k := 2) (by omega) h2 (by rw [s2]; rfl) (d10 2) (hn 2) (z 2 (by omega))
  have h4 := step_back (k := 3) (by omega) h3 (by rw [s3]; rfl) (d10 3) (hn 3) (z 3 (by omega))
  exact read_good (show readS L 5 = (d, (bytesK d 4).length, 0) from h4) hD
end Go.Proofs.Ytkklchobiiajgaa
