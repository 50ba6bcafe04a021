/- Plain facts on commands: what Read says of whatever bytes; unlike commands have unlike bytes; cut off bytes are none. -/
import Derived.Test.YtfcofhlcainanaaCmV
import Derived.Test.YtfcofhlcainanaaCmD
import Derived.Test.YtfcofhlcainanaaCmB
namespace Go.Proofs.Ytfcofhlcainanaa
open Go.RowKit
set_option linter.unusedVariables false
theorem readL_err {S : List UInt8} : ∀ (L : List Pa) (d c : Cm) (z z' e : Nat), readL S L d z = (c, z', e) → e = 0 ∨ e = 10 ∨ e = 11 ∨ e = 13
  | [], d, c, z, z', e, h => by simp only [readL, Prod.mk.injEq] at h; omega
  | p :: l, d, c, z, z', e, h => by
    rcases hr : p.read d (S.drop z) with ⟨d1, i, e1⟩
    rw [readL, hr] at h
    simp only at h
    by_cases he : e1 = 0
    · rw [if_neg (by simpa using he)] at h
      exact readL_err l _ c _ z' e h
    · rw [if_pos he] at h
      have := (part_read_le hr).2
      simp only [Prod.mk.injEq] at h
      omega
theorem read_err {S : List UInt8} {c : Cm} {n e : Nat} (h : readC S = (c, n, e)) (he : ¬ e = 0) : c = zC ∧ n = 0 ∧ (e = 10 ∨ e = 11 ∨ e = 13) := by
  rcases h1 : readL S headP zC 0 with ⟨c1, z1, e1⟩
  have k1 := readL_err _ _ _ _ _ _ h1
  by_cases hx : e1 = 0
  · subst hx
    rcases h2 : readL S (restP c1.kd) c1 z1 with ⟨c2, z2, e2⟩
    have k2 := readL_err _ _ _ _ _ _ h2
    by_cases hx2 : e2 = 0
    · subst hx2
      rw [readC_good h1 h2] at h
      simp only [Prod.mk.injEq] at h
      omega
    · rw [readC_bad2 h1 h2 hx2] at h
      simp only [Prod.mk.injEq] at h
      exact ⟨h.1.symm, h.2.1.symm, by omega⟩
  · rw [readC_bad h1 hx] at h
    simp only [Prod.mk.injEq] at h
    exact ⟨h.1.symm, h.2.1.symm, by omega⟩
theorem head_keys : headP.Pairwise (fun p q => p.key ≠ q.key) := by simp [headP, Pa.key]
theorem rest_keys (kd : Int) : (restP kd).Pairwise (fun p q => p.key ≠ q.key) := by
  refine rest_cases (P := fun l => l.Pairwise (fun p q => p.key ≠ q.key)) ?_ ?_ ?_ ?_ ?_ ?_ ?_ kd <;> simp [Pa.key]
theorem rest_far (kd : Int) : ∀ p ∈ restP kd, p.key ≠ 0 ∧ p.key ≠ 16 ∧ p.key ≠ 17 := by
  refine rest_cases (P := fun l => ∀ p ∈ l, p.key ≠ 0 ∧ p.key ≠ 16 ∧ p.key ≠ 17) ?_ ?_ ?_ ?_ ?_ ?_ ?_ kd <;> simp [Pa.key]
theorem clr_zero (kd : Int) (c : Cm) (hi : ∀ j, atI j → (∀ p ∈ partsP kd, p.key ≠ j) → c.i j = 0) (hf : ∀ j, atF j → (∀ p ∈ partsP kd, p.key ≠ j) → c.f j = zF) : clrL (partsP kd) c = zC := by
  revert hi hf
  obtain ⟨a0, a1, a2, a3, a4, a5, a6, a7, a8, a9, a10, a11, a12, a13, a14, a15, a16⟩ := c
  unfold partsP
  refine rest_cases (P := fun l => (∀ j, atI j → (∀ p ∈ headP ++ l, p.key ≠ j) → Cm.i _ j = 0) → (∀ j, atF j → (∀ p ∈ headP ++ l, p.key ≠ j) → Cm.f _ j = zF) → clrL (headP ++ l) _ = zC) ?_ ?_ ?_ ?_ ?_ ?_ ?_ kd
  all_goals
    intro hi hf
    have i1 := hi 1 (by simp [atI])
    have i2 := hi 2 (by simp [atI])
    have i3 := hi 3 (by simp [atI])
    have i4 := hi 4 (by simp [atI])
    have i5 := hi 5 (by simp [atI])
    have j18 := hi 18 (by simp [atI])
    have j19 := hi 19 (by simp [atI])
    have j20 := hi 20 (by simp [atI])
    have j21 := hi 21 (by simp [atI])
    have g6 := hf 6 (by simp [atF])
    have g8 := hf 8 (by simp [atF])
    have g10 := hf 10 (by simp [atF])
    have g12 := hf 12 (by simp [atF])
    have g14 := hf 14 (by simp [atF])
    clear hi hf
    simp [headP, Pa.key, Cm.i, Cm.f] at i1 i2 i3 i4 i5 j18 j19 j20 j21 g6 g8 g10 g12 g14
    simp_all [headP, clrL, Pa.clr, Cm.setI, Cm.setF, zC]
theorem nums_zC : numsC zC := by
  intro k
  have h : ∀ f : Fl, f = zF → (-9223372036854775808 ≤ f.n ∧ f.n ≤ 9223372036854775807) := fun f h => by rw [h]; decide
  apply h
  unfold Cm.f
  split <;> rfl
theorem read_canon {S : List UInt8} {c : Cm} {n : Nat} (h : readC S = (c, n, 0)) : isC c = true ∧ S = toldL (partsP c.kd) c ++ S.drop n ∧ n ≤ S.length ∧ numsC c := by
  rcases h1 : readL S headP zC 0 with ⟨c1, z1, e1⟩
  by_cases hx : e1 = 0
  · subst hx
    rcases h2 : readL S (restP c1.kd) c1 z1 with ⟨c2, z2, e2⟩
    by_cases hx2 : e2 = 0
    · subst hx2
      rw [readC_good h1 h2] at h
      simp only [Prod.mk.injEq, and_true] at h
      obtain ⟨rfl, rfl⟩ := h
      obtain ⟨a1, a2, a3, a4, a5, a6⟩ := readL_inv _ _ _ _ _ h1 head_ok head_keys (by omega)
      obtain ⟨b1, b2, b3, b4, b5, b6⟩ := readL_inv _ _ _ _ _ h2 (rest_ok _) (rest_keys _) a1
      have hfar := rest_far c1.kd
      have k0 : c2.i 0 = c1.i 0 := b4 0 (by simp [atI]) (fun p hp => (hfar p hp).1)
      have k1 : c2.i 16 = c1.i 16 := b4 16 (by simp [atI]) (fun p hp => (hfar p hp).2.1)
      have k2 : c2.i 17 = c1.i 17 := b4 17 (by simp [atI]) (fun p hp => (hfar p hp).2.2)
      have hkd : c2.kd = c1.kd := k0
      have ht : toldL headP c2 = toldL headP c1 := by
        show put (zig (c2.i 0)) ++ (put (zig (c2.i 16)) ++ (put (zig (c2.i 17)) ++ [])) = put (zig (c1.i 0)) ++ (put (zig (c1.i 16)) ++ (put (zig (c1.i 17)) ++ []))
        rw [k0, k1, k2]
      have his : ∀ p ∈ headP, p.is c2 = true := by
        intro p hp
        have := a3 p hp
        simp only [headP, List.mem_cons, List.not_mem_nil, or_false] at hp
        rcases hp with rfl | rfl | rfl
        · rw [is_num] at this ⊢; rw [k0]; exact this
        · rw [is_num] at this ⊢; rw [k1]; exact this
        · rw [is_num] at this ⊢; rw [k2]; exact this
      refine ⟨?_, ?_, b1, b6 (a6 nums_zC)⟩
      · rw [isC_iff, hkd]
        refine ⟨?_, ?_⟩
        · intro p hp
          unfold partsP at hp
          rcases List.mem_append.1 hp with hp | hp
          · exact his p hp
          · exact b3 p hp
        · refine clr_zero _ _ ?_ ?_
          · intro j hj hne
            rw [b4 j hj (fun p hp => hne p (by unfold partsP; simp [hp])), a4 j hj (fun p hp => hne p (by unfold partsP; simp [hp]))]
            rcases hj with rfl | rfl | rfl | rfl | rfl | rfl | rfl | rfl | rfl | rfl | rfl | rfl <;> rfl
          · intro j hj hne
            rw [b5 j hj (fun p hp => hne p (by unfold partsP; simp [hp])), a5 j hj (fun p hp => hne p (by unfold partsP; simp [hp]))]
            rcases hj with rfl | rfl | rfl | rfl | rfl <;> rfl
      · have e : toldL (partsP c2.kd) c2 = toldL headP c2 ++ toldL (restP c2.kd) c2 := by unfold toldL partsP; rw [List.flatMap_append]
        rw [e, hkd, ht, List.append_assoc, ← b2]
        exact a2
    · rw [readC_bad2 h1 h2 hx2] at h
      simp only [Prod.mk.injEq] at h
      omega
  · rw [readC_bad h1 hx] at h
    simp only [Prod.mk.injEq] at h
    omega
theorem told_inj {c d : Cm} (hc : isC c = true) (hd : isC d = true) (nc : numsC c) (nd : numsC d) (h : toldL (partsP c.kd) c = toldL (partsP d.kd) d) : c = d := by
  have h1 := read_back hc nc []
  have h2 := read_back hd nd []
  rw [h, h2] at h1
  exact (congrArg Prod.fst h1).symm
theorem told_cut {c : Cm} (hc : isC c = true) (nc : numsC c) {k : Nat} (hk : k < (toldL (partsP c.kd) c).length) {x : Cm} {n e : Nat} (h : readC ((toldL (partsP c.kd) c).take k) = (x, n, e)) : ¬ e = 0 := by
  rintro rfl
  obtain ⟨h1, h2, h3, h4⟩ := read_canon h
  rw [List.length_take] at h3
  have e1 : toldL (partsP c.kd) c = toldL (partsP x.kd) x ++ (((toldL (partsP c.kd) c).take k).drop n ++ (toldL (partsP c.kd) c).drop k) := by
    rw [← List.append_assoc, ← h2, List.take_append_drop]
  have h5 := read_back hc nc []
  rw [List.append_nil] at h5
  have h6 := read_back h1 h4 (((toldL (partsP c.kd) c).take k).drop n ++ (toldL (partsP c.kd) c).drop k)
  rw [← e1, h5] at h6
  have e2 := congrArg (fun r => r.2.1) h6
  simp only at e2
  have e3 := congrArg List.length h2
  rw [List.length_append, List.length_take, List.length_drop, List.length_take] at e3
  omega
theorem told_pos (c : Cm) : 0 < (toldL (partsP c.kd) c).length := by
  have e : toldL (partsP c.kd) c = put (zig c.kd) ++ ((put (zig c.cl) ++ (put (zig c.se) ++ [])) ++ toldL (restP c.kd) c) := by
    unfold toldL partsP
    rw [List.flatMap_append]
    show (put (zig c.kd) ++ (put (zig c.cl) ++ (put (zig c.se) ++ []))) ++ _ = _
    rw [List.append_assoc]
  rw [e, List.length_append]
  have := (put_length (zig c.kd)).1
  omega
end Go.Proofs.Ytfcofhlcainanaa
