/- Plain facts on reading rows of things: step by step; what was written is read. -/
import Derived.Test.YtkklchobiiajgaaThgA
namespace Go.Proofs.Ytkklchobiiajgaa
open Go.RowKit
set_option linter.unusedVariables false
def nextS (p : List Th × Nat × Nat) (r : Th × Nat × Nat) : List Th × Nat × Nat :=
  if p.2.2 ≠ 0 then p else if r.2.2 ≠ 0 then ([], 0, r.2.2) else if risesB p.1 r.1 = false then ([], 0, 11) else (p.1 ++ [r.1], p.2.1 + r.2.1, 0)
def runS (s : List UInt8) (z0 : Nat) : Nat → List Th × Nat × Nat
  | 0 => ([], z0, 0)
  | k + 1 => nextS (runS s z0 k) (readT (s.drop (runS s z0 k).2.1))
def headS (s : List UInt8) (g : Nat × Nat × Nat) : List Th × Nat × Nat :=
  if g.2.2 ≠ 0 then ([], 0, g.2.2) else if 200 < g.1 then ([], 0, 13) else runS s g.2.1 g.1
def someL (s : List UInt8) : List Th × Nat × Nat := headS s (get s)
theorem runS_succ {s : List UInt8} {z0 k : Nat} {M : List Th} {z e : Nat} (h : runS s z0 k = (M, z, e)) : runS s z0 (k + 1) = nextS (M, z, e) (readT (s.drop z)) := by rw [runS, h]
theorem nextS_err {M : List Th} {z e : Nat} (he : ¬ e = 0) (r : Th × Nat × Nat) : nextS (M, z, e) r = (M, z, e) := by
  unfold nextS; rw [if_pos (by simpa using he)]
theorem nextS_bad {M : List Th} {z m e : Nat} {t : Th} (he : ¬ e = 0) : nextS (M, z, 0) (t, m, e) = ([], 0, e) := by
  unfold nextS; rw [if_neg (by simp), if_pos (by simpa using he)]
theorem nextS_down {M : List Th} {z m : Nat} {t : Th} (hq : risesB M t = false) : nextS (M, z, 0) (t, m, 0) = ([], 0, 11) := by
  unfold nextS; rw [if_neg (by simp), if_neg (by simp), if_pos hq]
theorem nextS_on {M : List Th} {z m : Nat} {t : Th} (hq : risesB M t = true) : nextS (M, z, 0) (t, m, 0) = (M ++ [t], z + m, 0) := by
  unfold nextS; rw [if_neg (by simp), if_neg (by simp), if_neg (by simp [hq])]
theorem someS_err {s : List UInt8} {z0 k : Nat} {M : List Th} {z e : Nat} (h : runS s z0 k = (M, z, e)) (he : ¬ e = 0) : ∀ c, k ≤ c → runS s z0 c = (M, z, e) := by
  intro c hc
  induction c with
  | zero => obtain rfl : k = 0 := by omega
            exact h
  | succ c ih =>
    by_cases hbc : k = c + 1
    · rw [← hbc]; exact h
    · rw [runS_succ (ih (by omega)), nextS_err he]
theorem someS_bad {s : List UInt8} {z0 k : Nat} {M : List Th} {z m e : Nat} {t : Th} (h : runS s z0 k = (M, z, 0)) (hr : readT (s.drop z) = (t, m, e)) (he : ¬ e = 0) : runS s z0 (k + 1) = ([], 0, e) := by
  rw [runS_succ h, hr, nextS_bad he]
theorem someS_down {s : List UInt8} {z0 k : Nat} {M : List Th} {z m : Nat} {t : Th} (h : runS s z0 k = (M, z, 0)) (hr : readT (s.drop z) = (t, m, 0)) (hq : risesB M t = false) : runS s z0 (k + 1) = ([], 0, 11) := by
  rw [runS_succ h, hr, nextS_down hq]
theorem someS_next {s : List UInt8} {z0 k : Nat} {M : List Th} {z m : Nat} {t : Th} (h : runS s z0 k = (M, z, 0)) (hr : readT (s.drop z) = (t, m, 0)) (hq : risesB M t = true) : runS s z0 (k + 1) = (M ++ [t], z + m, 0) := by
  rw [runS_succ h, hr, nextS_on hq]
theorem headS_1 (s : List UInt8) {n z e : Nat} (he : ¬ e = 0) : headS s (n, z, e) = ([], 0, e) := by
  unfold headS; rw [if_pos (by simpa using he)]
theorem headS_2 (s : List UInt8) {n z : Nat} (hn : 200 < n) : headS s (n, z, 0) = ([], 0, 13) := by
  unfold headS; rw [if_neg (by simp), if_pos hn]
theorem headS_3 (s : List UInt8) {n z : Nat} (hn : n ≤ 200) : headS s (n, z, 0) = runS s z n := by
  unfold headS; rw [if_neg (by simp), if_neg (by simpa using hn)]
theorem someT_1 {s : List UInt8} {n z e : Nat} (h : get s = (n, z, e)) (he : ¬ e = 0) : someL s = ([], 0, e) := by
  unfold someL; rw [h, headS_1 s he]
theorem someT_2 {s : List UInt8} {n z : Nat} (h : get s = (n, z, 0)) (hn : 200 < n) : someL s = ([], 0, 13) := by
  unfold someL; rw [h, headS_2 s hn]
theorem someT_3 {s : List UInt8} {n z : Nat} (h : get s = (n, z, 0)) (hn : n ≤ 200) : someL s = runS s z n := by
  unfold someL; rw [h, headS_3 s hn]
theorem someT_bad {s : List UInt8} {n z0 k : Nat} {M : List Th} {z m e : Nat} {t : Th} (hg : get s = (n, z0, 0)) (hn : n ≤ 200) (hk : k < n) (h : runS s z0 k = (M, z, 0)) (hr : readT (s.drop z) = (t, m, e)) (he : ¬ e = 0) : someL s = ([], 0, e) := by
  rw [someT_3 hg hn]; exact someS_err (someS_bad h hr he) he n (by omega)
theorem someT_down {s : List UInt8} {n z0 k : Nat} {M : List Th} {z m : Nat} {t : Th} (hg : get s = (n, z0, 0)) (hn : n ≤ 200) (hk : k < n) (h : runS s z0 k = (M, z, 0)) (hr : readT (s.drop z) = (t, m, 0)) (hq : risesB M t = false) : someL s = ([], 0, 11) := by
  rw [someT_3 hg hn]; exact someS_err (someS_down h hr hq) (by decide) n (by omega)
theorem rises_take {L : List Th} {k : Nat} {t : Th} (h : L[k]? = some t) (hg : good L = true) : isT t = true ∧ risesB (L.take k) t = true := by
  have := good_at hg (List.getElem?_eq_some_iff.1 h).1
  rw [okT_eq h] at this
  simpa using this
theorem take_next {L : List Th} {k : Nat} {t : Th} (h : L[k]? = some t) : L.take (k + 1) = L.take k ++ [t] := by
  rw [List.take_add_one, h]; rfl
theorem drop_flat {L : List Th} {k : Nat} {t : Th} (h : L[k]? = some t) (P R : List UInt8) : (P ++ L.flatMap thB ++ R).drop (P ++ (L.take k).flatMap thB).length = thB t ++ ((L.drop (k + 1)).flatMap thB ++ R) := by
  have hk : k < L.length := (List.getElem?_eq_some_iff.1 h).1
  have e := flat_drop thB L k hk R
  rw [(List.getElem?_eq_some_iff.1 h).2] at e
  rw [List.length_append, List.append_assoc, List.drop_append, List.drop_eq_nil_of_le (by omega), List.nil_append]
  rw [show P.length + ((L.take k).flatMap thB).length - P.length = ((L.take k).flatMap thB).length by omega]
  exact e
theorem some_back {L : List Th} (hg : good L = true) (hi : ∀ t ∈ L, inT t) (hl : L.length ≤ 200) (R : List UInt8) : someL (put L.length ++ L.flatMap thB ++ R) = (L, (put L.length ++ L.flatMap thB).length, 0) := by
  have h0 := get_put L.length (by omega) (L.flatMap thB ++ R)
  rw [← List.append_assoc] at h0
  rw [someT_3 h0 hl]
  have step : ∀ k, k ≤ L.length → runS (put L.length ++ L.flatMap thB ++ R) (put L.length).length k = (L.take k, (put L.length ++ (L.take k).flatMap thB).length, 0) := by
    intro k
    induction k with
    | zero => intro _; simp [runS]
    | succ k ih =>
      intro hk
      obtain ⟨t, ht⟩ : ∃ t, L[k]? = some t := ⟨L[k], by simp⟩
      obtain ⟨h1, h2⟩ := rises_take ht hg
      have hr := readT_back h1 (hi t (List.mem_of_getElem? ht)) ((L.drop (k + 1)).flatMap thB ++ R)
      rw [← drop_flat ht (put L.length) R] at hr
      rw [someS_next (ih (by omega)) hr h2, take_next ht]
      simp [Nat.add_assoc]
  have := step L.length (Nat.le_refl _)
  rw [List.take_length] at this
  exact this
/- cut off it isn't read -/
theorem getF_take : ∀ (l : List UInt8) (i acc c : Nat) (n z : Nat), getF l i acc = (n, z, 0) → c + i < z → getF (l.take c) i acc = (0, 0, 10)
  | [], i, acc, c, n, z, h, hc => by simp [getF] at h
  | b :: r, i, acc, c, n, z, h, hc => by
    cases c with
    | zero => rfl
    | succ c =>
      simp only [List.take_succ_cons]
      simp only [getF] at h ⊢
      by_cases h1 : i = 9 ∧ 1 < b.toNat
      · rw [if_pos h1] at h; simp at h
      · rw [if_neg h1] at h ⊢
        by_cases h2 : 0 < i ∧ b.toNat = 0
        · rw [if_pos h2] at h; simp at h
        · rw [if_neg h2] at h ⊢
          by_cases h3 : b.toNat < 128
          · rw [if_pos h3] at h
            simp only [Prod.mk.injEq] at h
            omega
          · rw [if_neg h3] at h ⊢
            exact getF_take r (i + 1) _ c n z h (by omega)
theorem getF_size : ∀ (l : List UInt8) (i acc n z : Nat), getF l i acc = (n, z, 0) → i + 1 ≤ z
  | [], i, acc, n, z, h => by simp [getF] at h
  | b :: r, i, acc, n, z, h => by
    simp only [getF] at h
    by_cases h1 : i = 9 ∧ 1 < b.toNat
    · rw [if_pos h1] at h; simp at h
    · rw [if_neg h1] at h
      by_cases h2 : 0 < i ∧ b.toNat = 0
      · rw [if_pos h2] at h; simp at h
      · rw [if_neg h2] at h
        by_cases h3 : b.toNat < 128
        · rw [if_pos h3] at h
          simp only [Prod.mk.injEq] at h
          omega
        · rw [if_neg h3] at h
          have := getF_size r (i + 1) _ n z h
          omega
theorem getF_more : ∀ (l : List UInt8) (i acc c : Nat) (n z : Nat), getF l i acc = (n, z, 0) → z ≤ c + i → getF (l.take c) i acc = (n, z, 0)
  | [], i, acc, c, n, z, h, hc => by simp [getF] at h
  | b :: r, i, acc, c, n, z, h, hc => by
    cases c with
    | zero =>
      exfalso
      simp only [getF] at h
      by_cases h1 : i = 9 ∧ 1 < b.toNat
      · rw [if_pos h1] at h; simp at h
      · rw [if_neg h1] at h
        by_cases h2 : 0 < i ∧ b.toNat = 0
        · rw [if_pos h2] at h; simp at h
        · rw [if_neg h2] at h
          by_cases h3 : b.toNat < 128
          · rw [if_pos h3] at h
            simp only [Prod.mk.injEq] at h
            omega
          · rw [if_neg h3] at h
            have := getF_size r (i + 1) _ n z h
            omega
    | succ c =>
      simp only [List.take_succ_cons]
      simp only [getF] at h ⊢
      by_cases h1 : i = 9 ∧ 1 < b.toNat
      · rw [if_pos h1] at h; simp at h
      · rw [if_neg h1] at h ⊢
        by_cases h2 : 0 < i ∧ b.toNat = 0
        · rw [if_pos h2] at h; simp at h
        · rw [if_neg h2] at h ⊢
          by_cases h3 : b.toNat < 128
          · rw [if_pos h3] at h ⊢
            exact h
          · rw [if_neg h3] at h ⊢
            exact getF_more r (i + 1) _ c n z h (by omega)
end Go.Proofs.Ytkklchobiiajgaa
