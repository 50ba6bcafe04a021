/- Plain facts on changes: what changed makes the new thing of the old one; masks. -/
import Derived.Test.YtkklchobiiajgaaFldS
namespace Go.Proofs.Ytkklchobiiajgaa
open Go.RowKit
set_option linter.unusedVariables false
def msk (n0 n1 n2 n3 n4 : Bool) : Nat := n0.toNat + 2 * n1.toNat + 4 * n2.toNat + 8 * n3.toNat + 16 * n4.toNat
theorem msk_bits : ∀ n0 n1 n2 n3 n4 : Bool, (msk n0 n1 n2 n3 n4).testBit 0 = n0 ∧ (msk n0 n1 n2 n3 n4).testBit 1 = n1 ∧ (msk n0 n1 n2 n3 n4).testBit 2 = n2 ∧ (msk n0 n1 n2 n3 n4).testBit 3 = n3 ∧ (msk n0 n1 n2 n3 n4).testBit 4 = n4 := by decide +kernel
theorem msk_le : ∀ n0 n1 n2 n3 n4 : Bool, msk n0 n1 n2 n3 n4 ≤ 31 := by decide +kernel
theorem msk_zero : ∀ n0 n1 n2 n3 n4 : Bool, msk n0 n1 n2 n3 n4 = 0 → n0 = false ∧ n1 = false ∧ n2 = false ∧ n3 = false ∧ n4 = false := by decide +kernel
theorem msk_or : ∀ n0 n1 n2 n3 n4 m0 m1 m2 m3 m4 : Bool, msk n0 n1 n2 n3 n4 ||| msk m0 m1 m2 m3 m4 = msk (n0 || m0) (n1 || m1) (n2 || m2) (n3 || m3) (n4 || m4) := by decide +kernel
theorem msk_or1 : ∀ n0 : Bool, msk n0 false false false false ||| 2 = msk n0 true false false false := by decide
theorem msk_or2 : ∀ n0 n1 : Bool, msk n0 n1 false false false ||| 4 = msk n0 n1 true false false := by decide
theorem msk_or3 : ∀ n0 n1 n2 : Bool, msk n0 n1 n2 false false ||| 8 = msk n0 n1 n2 true false := by decide
theorem msk_or4 : ∀ n0 n1 n2 n3 : Bool, msk n0 n1 n2 n3 false ||| 16 = msk n0 n1 n2 n3 true := by decide
def ne0 (a b : Th) : Bool := !pEq a.x a.y b.x b.y
def neF (f g : Fl) : Bool := !eqF f g
theorem dK0 (a b : Th) : dK a b 0 = ⟨b.id, msk (ne0 a b) false false false false, bif ne0 a b then b.x else 0, bif ne0 a b then b.y else 0, zF, zF, zF, zF⟩ := by
  unfold dK ne0
  cases pEq a.x a.y b.x b.y <;> rfl
theorem dK1 (a b : Th) : dK a b 1 = ⟨b.id, msk (ne0 a b) (neF a.f0 b.f0) false false false, bif ne0 a b then b.x else 0, bif ne0 a b then b.y else 0, bif neF a.f0 b.f0 then b.f0 else zF, zF, zF, zF⟩ := by
  rw [dK, dK0]
  unfold neF
  by_cases h : a.f0 = b.f0
  · rw [if_pos (show eqF (a.f 0) (b.f 0) = true from eqF_iff.2 h), eqF_iff.2 h]; rfl
  · rw [if_neg (show ¬ eqF (a.f 0) (b.f 0) = true from fun e => h (eqF_iff.1 e)), eqF_no.2 h]; simp only [Dl.set]; rw [show (2 : Nat) ^ (0 + 1) = 2 from rfl, msk_or1]; simp [Th.f]
theorem dK2 (a b : Th) : dK a b 2 = ⟨b.id, msk (ne0 a b) (neF a.f0 b.f0) (neF a.f1 b.f1) false false, bif ne0 a b then b.x else 0, bif ne0 a b then b.y else 0, bif neF a.f0 b.f0 then b.f0 else zF, bif neF a.f1 b.f1 then b.f1 else zF, zF, zF⟩ := by
  rw [dK, dK1]
  obtain ⟨c, hc⟩ : ∃ c, neF a.f0 b.f0 = c := ⟨_, rfl⟩
  rw [hc]
  unfold neF
  by_cases h : a.f1 = b.f1
  · rw [if_pos (show eqF (a.f 1) (b.f 1) = true from eqF_iff.2 h), eqF_iff.2 h]; rfl
  · rw [if_neg (show ¬ eqF (a.f 1) (b.f 1) = true from fun e => h (eqF_iff.1 e)), eqF_no.2 h]; simp only [Dl.set]; rw [show (2 : Nat) ^ (1 + 1) = 4 from rfl, msk_or2]; simp [Th.f]
theorem dK3 (a b : Th) : dK a b 3 = ⟨b.id, msk (ne0 a b) (neF a.f0 b.f0) (neF a.f1 b.f1) (neF a.f2 b.f2) false, bif ne0 a b then b.x else 0, bif ne0 a b then b.y else 0, bif neF a.f0 b.f0 then b.f0 else zF, bif neF a.f1 b.f1 then b.f1 else zF, bif neF a.f2 b.f2 then b.f2 else zF, zF⟩ := by
  rw [dK, dK2]
  obtain ⟨c, hc⟩ : ∃ c, neF a.f0 b.f0 = c := ⟨_, rfl⟩
  obtain ⟨c', hc'⟩ : ∃ c, neF a.f1 b.f1 = c := ⟨_, rfl⟩
  rw [hc, hc']
  unfold neF
  by_cases h : a.f2 = b.f2
  · rw [if_pos (show eqF (a.f 2) (b.f 2) = true from eqF_iff.2 h), eqF_iff.2 h]; rfl
  · rw [if_neg (show ¬ eqF (a.f 2) (b.f 2) = true from fun e => h (eqF_iff.1 e)), eqF_no.2 h]; simp only [Dl.set]; rw [show (2 : Nat) ^ (2 + 1) = 8 from rfl, msk_or3]; simp [Th.f]
theorem dK4 (a b : Th) : dK a b 4 = ⟨b.id, msk (ne0 a b) (neF a.f0 b.f0) (neF a.f1 b.f1) (neF a.f2 b.f2) (neF a.f3 b.f3), bif ne0 a b then b.x else 0, bif ne0 a b then b.y else 0, bif neF a.f0 b.f0 then b.f0 else zF, bif neF a.f1 b.f1 then b.f1 else zF, bif neF a.f2 b.f2 then b.f2 else zF, bif neF a.f3 b.f3 then b.f3 else zF⟩ := by
  rw [dK, dK3]
  obtain ⟨c, hc⟩ : ∃ c, neF a.f0 b.f0 = c := ⟨_, rfl⟩
  obtain ⟨c', hc'⟩ : ∃ c, neF a.f1 b.f1 = c := ⟨_, rfl⟩
  obtain ⟨c2, hc2⟩ : ∃ c, neF a.f2 b.f2 = c := ⟨_, rfl⟩
  rw [hc, hc', hc2]
  unfold neF
  by_cases h : a.f3 = b.f3
  · rw [if_pos (show eqF (a.f 3) (b.f 3) = true from eqF_iff.2 h), eqF_iff.2 h]; rfl
  · rw [if_neg (show ¬ eqF (a.f 3) (b.f 3) = true from fun e => h (eqF_iff.1 e)), eqF_no.2 h]; simp only [Dl.set]; rw [show (2 : Nat) ^ (3 + 1) = 16 from rfl, msk_or4]; simp [Th.f]
theorem apply5 (t : Th) (d : Dl) : apply t d = ⟨t.id, bif d.m.testBit 0 then d.x else t.x, bif d.m.testBit 0 then d.y else t.y, bif d.m.testBit 1 then d.f0 else t.f0, bif d.m.testBit 2 then d.f1 else t.f1, bif d.m.testBit 3 then d.f2 else t.f2, bif d.m.testBit 4 then d.f3 else t.f3⟩ := by
  unfold apply aK aK aK aK aK
  cases d.m.testBit 0 <;> cases d.m.testBit 1 <;> cases d.m.testBit 2 <;> cases d.m.testBit 3 <;> cases d.m.testBit 4 <;> rfl
theorem apply_dK (a b : Th) (h : a.id = b.id) : apply a (dK a b 4) = b := by
  obtain ⟨m0, m1, m2, m3, m4⟩ := msk_bits (ne0 a b) (neF a.f0 b.f0) (neF a.f1 b.f1) (neF a.f2 b.f2) (neF a.f3 b.f3)
  rw [apply5, dK4]
  simp only
  rw [m0, m1, m2, m3, m4]
  obtain ⟨bi, bx, bY, b0, b1, b2, b3⟩ := b
  simp only [Th.mk.injEq]
  refine ⟨h, ?_, ?_, ?_, ?_, ?_, ?_⟩
  · cases e : ne0 a ⟨bi, bx, bY, b0, b1, b2, b3⟩ <;> simp [ne0, pEq] at e ⊢; exact e.1
  · cases e : ne0 a ⟨bi, bx, bY, b0, b1, b2, b3⟩ <;> simp [ne0, pEq] at e ⊢; exact e.2
  · cases e : neF a.f0 b0 <;> simp [neF, eqF_iff] at e ⊢; exact e
  · cases e : neF a.f1 b1 <;> simp [neF, eqF_iff] at e ⊢; exact e
  · cases e : neF a.f2 b2 <;> simp [neF, eqF_iff] at e ⊢; exact e
  · cases e : neF a.f3 b3 <;> simp [neF, eqF_iff] at e ⊢; exact e
theorem dK_m0 {a b : Th} (h : a.id = b.id) (hm : (dK a b 4).m = 0) : a = b := by
  rw [dK4] at hm
  obtain ⟨m0, m1, m2, m3, m4⟩ := msk_zero _ _ _ _ _ hm
  obtain ⟨ai, ax, ay, a0, a1, a2, a3⟩ := a
  obtain ⟨bi, bx, bY, b0, b1, b2, b3⟩ := b
  simp [ne0, pEq, neF, eqF_iff] at m0 m1 m2 m3 m4 h
  simp [m0, m1, m2, m3, m4, h]
theorem diff_no {a b : Th} {x : Dl} (h : a.id = b.id) (hd : diff a b = (x, false)) : a = b := by
  unfold diff at hd
  split at hd
  · exact dK_m0 h (by assumption)
  · simp at hd
theorem diff_yes {a b : Th} {x : Dl} (hd : diff a b = (x, true)) : x = dK a b 4 ∧ ¬ x.m = 0 := by
  unfold diff at hd
  split at hd
  · simp at hd
  · simp only [Prod.mk.injEq, and_true] at hd
    subst hd
    exact ⟨rfl, by assumption⟩
theorem diff_apply {a b : Th} {x : Dl} (h : a.id = b.id) (hd : diff a b = (x, true)) : apply a x = b := by
  rw [(diff_yes hd).1]; exact apply_dK a b h
theorem diff_m {a b : Th} {x : Dl} {q : Bool} (hd : diff a b = (x, q)) : x.m ≤ 31 := by
  unfold diff at hd
  split at hd
  · simp only [Prod.mk.injEq] at hd; obtain ⟨rfl, _⟩ := hd; decide
  · simp only [Prod.mk.injEq] at hd; obtain ⟨rfl, _⟩ := hd; rw [dK4]; exact msk_le _ _ _ _ _
theorem chain_mask {a b c : Th} {x y z : Dl} (h1 : diff a b = (x, true)) (h2 : diff b c = (y, true)) (h3 : diff a c = (z, true)) : x.m ||| y.m ||| z.m = x.m ||| y.m := by
  rw [(diff_yes h1).1, (diff_yes h2).1, (diff_yes h3).1, dK4, dK4, dK4]
  simp only
  rw [msk_or, msk_or]
  have e : ∀ p q r : Bool, (r = true → p = true ∨ q = true) → (p || q || r) = (p || q) := by decide
  have f : ∀ f g h : Fl, neF f h = true → neF f g = true ∨ neF g h = true := fun f g h => by
    simp only [neF, Bool.not_eq_true', eqF_no]
    intro h1
    by_cases h2 : f = g
    · right; rw [← h2]; exact h1
    · left; exact h2
  rw [e _ _ _ (f a.f0 b.f0 c.f0), e _ _ _ (f a.f1 b.f1 c.f1), e _ _ _ (f a.f2 b.f2 c.f2), e _ _ _ (f a.f3 b.f3 c.f3)]
  rw [e]
  intro h
  simp [ne0, pEq] at h ⊢
  omega
end Go.Proofs.Ytkklchobiiajgaa
