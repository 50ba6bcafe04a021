/- Plain facts, of no program: which codes lie in a square; what is in a square of a rising row; the squares that aren't split have all that there is, once. -/
import Derived.Test.YtildhbkcpehobaaGreatDoorQd7
import Derived.Test.YtildhbkcpehobaaGreatDoorQd8
namespace Go.Proofs.YtildhbkcpehobaaGreatDoor
open Go.RowKit
set_option linter.unusedVariables false
theorem gat_div (c m : Nat) (hc : c < 4294967296) : gat (c / 2 ^ (2 * m)) = gat c / 2 ^ m := by
  apply Nat.eq_of_testBit_eq
  intro j
  rw [gat_bit, Nat.testBit_div_two_pow, Nat.testBit_div_two_pow, gat_bit]
  by_cases h1 : j + m < 16
  · have h2 : j < 16 := by omega
    rw [show 2 * j + 2 * m = 2 * (j + m) by omega]
    simp [h1, h2]
  · have : c.testBit (2 * j + 2 * m) = false := lt_bit (n := 32) hc (by omega)
    simp [h1, this]
theorem gat_mul (q m : Nat) (hq : q * 2 ^ (2 * m) < 4294967296) : gat (q * 2 ^ (2 * m)) = gat q * 2 ^ m := by
  have h1 := gat_div (q * 2 ^ (2 * m)) m hq
  rw [Nat.mul_div_cancel _ (Nat.two_pow_pos _)] at h1
  have h2 : gat (q * 2 ^ (2 * m)) % 2 ^ m = 0 := by
    apply Nat.eq_of_testBit_eq
    intro j
    rw [Nat.testBit_mod_two_pow, gat_bit, Nat.testBit_mul_two_pow]
    by_cases h : j < m
    · have : ¬ 2 * m ≤ 2 * j := by omega
      simp [this]
    · simp [h]
  have h3 := Nat.div_add_mod (gat (q * 2 ^ (2 * m))) (2 ^ m)
  rw [h2, ← h1, Nat.add_zero, Nat.mul_comm] at h3
  exact h3.symm
theorem weave_back (c : Nat) (hc : c < 4294967296) : weave (gat c) (gat (c / 2)) = c := by
  apply Nat.eq_of_testBit_eq
  intro j
  rw [weave_bit _ _ _ (gat_lt _) (gat_lt _), gat_bit, gat_bit]
  by_cases hj : j < 32
  · have e1 : j / 2 < 16 := by omega
    have e2 : (c / 2).testBit (2 * (j / 2)) = c.testBit (2 * (j / 2) + 1) := by rw [Nat.testBit_succ]
    rw [e2]
    split
    · rw [show 2 * (j / 2) = j by omega]; simp [e1]
    · rw [show 2 * (j / 2) + 1 = j by omega]; simp [e1]
  · have e1 : ¬ j / 2 < 16 := by omega
    have : c.testBit j = false := lt_bit (n := 32) hc (by omega)
    simp [e1, this]
theorem gat_inj {a b : Nat} (ha : a < 4294967296) (hb : b < 4294967296) (h1 : gat a = gat b) (h2 : gat (a / 2) = gat (b / 2)) : a = b := by
  rw [← weave_back a ha, ← weave_back b hb, h1, h2]
theorem div_iff (a x m : Nat) : (x * 2 ^ m ≤ a ∧ a < x * 2 ^ m + 2 ^ m) ↔ a / 2 ^ m = x := by
  have hp := Nat.two_pow_pos m
  rw [← Nat.succ_mul]
  constructor
  · rintro ⟨h1, h2⟩
    have g1 := (Nat.le_div_iff_mul_le hp).2 h1
    have g2 := (Nat.div_lt_iff_lt_mul hp).2 h2
    omega
  · intro h
    exact ⟨(Nat.le_div_iff_mul_le hp).1 (by omega), (Nat.div_lt_iff_lt_mul hp).1 (by omega)⟩
/-- squares that begin where squares of their depth do -/
def okA (s : Sq) : Prop := s.d ≤ 4 ∧ ∃ q, s.b = q * 2 ^ (2 * (6 - s.d)) ∧ q < 4 ^ s.d
theorem side_pow {d : Nat} (h : d ≤ 4) : sideN d = 2 ^ (6 - d) := by
  rcases five h with rfl | rfl | rfl | rfl | rfl <;> rfl
theorem side_sq {d : Nat} (h : d ≤ 4) : sideN d * sideN d = 2 ^ (2 * (6 - d)) := by
  rcases five h with rfl | rfl | rfl | rfl | rfl <;> rfl
theorem okA_root : okA ⟨0, 0⟩ := ⟨by simp, 0, by simp, by simp⟩
theorem okA_part {s : Sq} (h : okA s) (hd : s.d ≤ 3) {i : Nat} (hi : i < 4) : okA (partQ s i) := by
  obtain ⟨_, q, hq, hl⟩ := h
  refine ⟨by unfold partQ; simp only; omega, 4 * q + i, ?_, ?_⟩
  · unfold partQ qN
    simp only
    rw [side_sq (by omega), hq, show 2 * (6 - s.d) = 2 * (6 - (s.d + 1)) + 2 by omega, Nat.pow_add, Nat.add_mul]
    rw [show q * (2 ^ (2 * (6 - (s.d + 1))) * 2 ^ 2) = 4 * q * 2 ^ (2 * (6 - (s.d + 1))) by rw [Nat.mul_comm (2 ^ (2 * (6 - (s.d + 1)))), ← Nat.mul_assoc, Nat.mul_comm q]]
  · show 4 * q + i < 4 ^ (s.d + 1)
    rw [Nat.pow_succ]; omega
theorem sq_small {d q : Nat} (hd : d ≤ 4) (hq : q < 4 ^ d) : q * 2 ^ (2 * (6 - d)) + 2 ^ (2 * (6 - d)) ≤ 4096 := by
  rcases five hd with rfl | rfl | rfl | rfl | rfl <;> simp at hq ⊢ <;> omega
def inQ (s : Sq) (c : Nat) : Bool := decide (s.b ≤ c) && decide (c < endN s)
theorem inQ_iff {s : Sq} {c : Nat} : inQ s c = true ↔ s.b ≤ c ∧ c < endN s := by simp [inQ]
theorem inB_iff {r : Rc} {x y : Int} : inB r x y = true ↔ r.x0 ≤ x ∧ x < r.x1 ∧ r.y0 ≤ y ∧ y < r.y1 := by simp [inB, and_assoc]
theorem in_square {s : Sq} (h : okA s) {c : Nat} (hc : c < 4096) : inQ s c = inB (rectS s) (plX c) (plY c) := by
  obtain ⟨hd, q, hq, hl⟩ := h
  obtain ⟨d, b⟩ := s
  simp only at hd hq hl
  have hsm := sq_small hd hl
  have hp := Nat.two_pow_pos (2 * (6 - d))
  obtain ⟨m, hm⟩ : ∃ m, 6 - d = m := ⟨_, rfl⟩
  have hq4 : q < 4294967296 := by
    have : q * 1 ≤ q * 2 ^ (2 * (6 - d)) := Nat.mul_le_mul_left q hp
    omega
  have g1 := gat_mul q m (by rw [← hm]; omega)
  have hb2 : gat (b / 2) = gat (q / 2) * 2 ^ m := by
    have : b / 2 = (b / 2) := rfl
    have h1 := gat_div (b / 2) m (by rw [hq]; omega)
    have h2 : b / 2 / 2 ^ (2 * m) = q / 2 := by
      rw [Nat.div_div_eq_div_mul, Nat.mul_comm, ← Nat.div_div_eq_div_mul, hq, hm, Nat.mul_div_cancel _ (Nat.two_pow_pos _)]
    rw [h2] at h1
    have h3 : gat (b / 2) % 2 ^ m = 0 := by
      apply Nat.eq_of_testBit_eq
      intro j
      rw [Nat.testBit_mod_two_pow, gat_bit, ← Nat.testBit_succ, hq, hm, Nat.testBit_mul_two_pow]
      by_cases h : j < m
      · have : ¬ 2 * m ≤ 2 * j + 1 := by omega
        simp [this]
      · simp [h]
    have h4 := Nat.div_add_mod (gat (b / 2)) (2 ^ m)
    rw [h3, ← h1, Nat.add_zero, Nat.mul_comm] at h4
    exact h4.symm
  have gb : gat b = gat q * 2 ^ m := by rw [hq, hm]; exact g1
  have d1 := gat_div c m (by omega)
  have d2 : gat (c / 2 ^ (2 * m) / 2) = gat (c / 2) / 2 ^ m := by
    rw [← gat_div (c / 2) m (by omega), Nat.div_div_eq_div_mul, Nat.mul_comm, ← Nat.div_div_eq_div_mul]
  have hcl : c / 2 ^ (2 * m) < 4294967296 := Nat.lt_of_le_of_lt (Nat.div_le_self _ _) (by omega)
  have k1 : (b ≤ c ∧ c < endN ⟨d, b⟩) ↔ c / 2 ^ (2 * m) = q := by
    unfold endN
    simp only
    rw [side_sq hd, hm, hq, hm]
    exact div_iff c q (2 * m)
  have k2 : (gat b ≤ gat c ∧ gat c < gat b + sideN d) ↔ gat c / 2 ^ m = gat q := by
    rw [gb, side_pow hd, hm]
    exact div_iff (gat c) (gat q) m
  have k3 : (gat (b / 2) ≤ gat (c / 2) ∧ gat (c / 2) < gat (b / 2) + sideN d) ↔ gat (c / 2) / 2 ^ m = gat (q / 2) := by
    rw [hb2, side_pow hd, hm]
    exact div_iff (gat (c / 2)) (gat (q / 2)) m
  have k4 : c / 2 ^ (2 * m) = q ↔ (gat c / 2 ^ m = gat q ∧ gat (c / 2) / 2 ^ m = gat (q / 2)) := by
    rw [← d1, ← d2]
    exact ⟨fun h => by rw [h]; exact ⟨rfl, rfl⟩, fun h => gat_inj hcl hq4 h.1 h.2⟩
  rw [Bool.eq_iff_iff, inB_iff, inQ_iff]
  show (b ≤ c ∧ c < endN ⟨d, b⟩) ↔ ((gat b : Nat) : Int) ≤ ((gat c : Nat) : Int) ∧ ((gat c : Nat) : Int) < ((gat b : Nat) : Int) + ((sideN d : Nat) : Int) ∧ ((gat (b / 2) : Nat) : Int) ≤ ((gat (c / 2) : Nat) : Int) ∧ ((gat (c / 2) : Nat) : Int) < ((gat (b / 2) : Nat) : Int) + ((sideN d : Nat) : Int)
  rw [k1, k4, ← k2, ← k3]
  omega
theorem wth_filter (s : Sq) : ∀ (S : List Sp), S.Pairwise (fun a b => a.c ≤ b.c) → wth S s = S.filter fun a => inQ s a.c
  | [], _ => rfl
  | a :: l, h => by
    obtain ⟨ha, hl⟩ := List.pairwise_cons.1 h
    have ih := wth_filter s l hl
    have hbe := endN_ge s
    have c1 : ∀ c, firstN c (a :: l) = firstN c l + if a.c < c then 1 else 0 := fun c => by
      unfold firstN
      rw [List.countP_cons]
      simp
    have c0 : ∀ c, c ≤ a.c → firstN c l = 0 := fun c hc => by
      unfold firstN
      rw [List.countP_eq_zero]
      intro b hb
      have := ha b hb
      simp only [decide_eq_true_eq]; omega
    rw [List.filter_cons]
    unfold wth at ih ⊢
    rw [c1, c1]
    by_cases h1 : a.c < s.b
    · have h2 : a.c < endN s := by omega
      have h3 : inQ s a.c = false := by rw [← Bool.not_eq_true, inQ_iff]; omega
      rw [if_pos h1, if_pos h2, h3, ← ih]
      rw [show firstN (endN s) l + 1 - (firstN s.b l + 1) = firstN (endN s) l - firstN s.b l by omega]
      simp
    · have z1 := c0 s.b (by omega)
      rw [if_neg h1, z1]
      rw [z1] at ih
      by_cases h2 : a.c < endN s
      · have h3 : inQ s a.c = true := by rw [inQ_iff]; omega
        rw [if_pos h2, h3, if_pos rfl, ← ih]
        simp
      · have h3 : inQ s a.c = false := by rw [← Bool.not_eq_true, inQ_iff]; omega
        have z2 := c0 (endN s) (by omega)
        rw [z2] at ih
        rw [if_neg h2, h3, ← ih, z2]
        simp
theorem rising_pair {S : List Sp} (h : Rising S) : S.Pairwise (fun a b => a.c ≤ b.c) := by
  rw [List.pairwise_iff_getElem]
  intro i j hi hj hij
  exact h i j S[i] S[j] (by omega) (List.getElem?_eq_getElem hi) (List.getElem?_eq_getElem hj)
theorem pair_rising {S : List Sp} (h : S.Pairwise (fun a b => a.c ≤ b.c)) : Rising S := by
  intro i j a b hij ha hb
  obtain ⟨hi, e1⟩ := List.getElem?_eq_some_iff.1 ha
  obtain ⟨hj, e2⟩ := List.getElem?_eq_some_iff.1 hb
  by_cases e : i = j
  · subst e
    rw [← e1, ← e2]; exact Nat.le_refl _
  · have := (List.pairwise_iff_getElem.1 h) i j hi hj (by omega)
    rw [e1, e2] at this
    exact this
def rng (x y : Nat) (c : Nat) : Bool := decide (x ≤ c) && decide (c < y)
theorem rng_iff {x y c : Nat} : rng x y c = true ↔ x ≤ c ∧ c < y := by simp [rng]
theorem two_filter {α : Type} (p q r : α → Bool) (h1 : ∀ a, r a = (p a || q a)) (h2 : ∀ a, p a = true → q a = false) : ∀ l : List α, (l.filter p ++ l.filter q).Perm (l.filter r)
  | [] => .refl _
  | a :: l => by
    have ih := two_filter p q r h1 h2 l
    rw [List.filter_cons, List.filter_cons, List.filter_cons, h1 a]
    cases hp : p a
    · cases hq : q a
      · simpa using ih
      · simp only [Bool.false_or, if_true]
        exact List.perm_middle.trans (ih.cons a)
    · have hq := h2 a hp
      rw [hq]
      simpa using ih.cons a
theorem rng_two (f : Sp → Bool) {x y z : Nat} (h1 : x ≤ y) (h2 : y ≤ z) (S : List Sp) : (S.filter (fun a => rng y z a.c && f a) ++ S.filter (fun a => rng x y a.c && f a)).Perm (S.filter fun a => rng x z a.c && f a) := by
  refine two_filter _ _ _ (fun a => ?_) (fun a ha => ?_) S
  · rw [← Bool.and_or_distrib_right]
    congr 1
    rw [Bool.eq_iff_iff, Bool.or_eq_true, rng_iff, rng_iff, rng_iff]
    omega
  · rw [Bool.and_eq_true, rng_iff] at ha
    have : rng x y a.c = false := by rw [← Bool.not_eq_true, rng_iff]; omega
    rw [this]; rfl
theorem inQ_rng (s : Sq) (c : Nat) : inQ s c = rng s.b (endN s) c := rfl
/-- what the squares hold that have a point of r -/
def collS (S : List Sp) (r : Rc) (T : List Sq) : List Sp := T.flatMap fun s => (wth S s).filter (inP r)
theorem miss_none {S : List Sp} (hC : ∀ p ∈ S, p.c < 4096) {r : Rc} {s : Sq} (ho : okA s) (h : missB r s = true) : S.filter (fun a => inQ s a.c && inP r a) = [] := by
  rw [List.filter_eq_nil_iff]
  intro a ha hh
  rw [Bool.and_eq_true, in_square ho (hC a ha)] at hh
  obtain ⟨h1, h2⟩ := hh
  unfold inP at h2
  rw [inB_iff] at h1 h2
  unfold missB at h
  have he : emptyB (meetR (rectS s) r) = false := by
    unfold meetR
    simp only
    have : emptyB ⟨max (rectS s).x0 r.x0, max (rectS s).y0 r.y0, min (rectS s).x1 r.x1, min (rectS s).y1 r.y1⟩ = false := by
      simp [emptyB]
      omega
    rw [this]
    simpa using this
  rw [he] at h
  cases h
theorem collS_append (S : List Sp) (r : Rc) (T U : List Sq) : collS S r (T ++ U) = collS S r T ++ collS S r U := by simp [collS]
theorem coll_one {S : List Sp} (hP : S.Pairwise (fun a b => a.c ≤ b.c)) (r : Rc) (s : Sq) : (collS S r [s]).Perm (S.filter fun a => inQ s a.c && inP r a) := by
  simp only [collS, List.flatMap_cons, List.flatMap_nil, List.append_nil]
  rw [wth_filter s S hP, List.filter_filter]
  have : (fun a => inP r a && inQ s a.c) = (fun a : Sp => inQ s a.c && inP r a) := by funext a; rw [Bool.and_comm]
  rw [this]
theorem collS_all {S : List Sp} (hP : S.Pairwise (fun a b => a.c ≤ b.c)) (hC : ∀ p ∈ S, p.c < 4096) (r : Rc) : ∀ (k : Nat) (s : Sq), okA s → s.d + k = 4 → (collS S r (lvs S r k s)).Perm (S.filter fun a => inQ s a.c && inP r a) := by
  intro k
  induction k with
  | zero =>
    intro s ho hk
    by_cases hm : missB r s = true
    · have e : lvs S r 0 s = [] := by simp [lvs, hm]
      rw [e, miss_none hC ho hm]
      exact .refl _
    · have hm' : missB r s = false := by simpa using hm
      have e : lvs S r 0 s = [s] := by simp [lvs, hm']
      rw [e]; exact coll_one hP r s
  | succ k ihk =>
    intro s ho hk
    by_cases hm : missB r s = true
    · have e : lvs S r (k + 1) s = [] := by simp [lvs, hm]
      rw [e, miss_none hC ho hm]
      exact .refl _
    · have hm' : missB r s = false := by simpa using hm
      by_cases hs : splB S s = true
      · have e : lvs S r (k + 1) s = lvs S r k (partQ s 3) ++ (lvs S r k (partQ s 2) ++ (lvs S r k (partQ s 1) ++ lvs S r k (partQ s 0))) := by simp [lvs, hm', hs]
        rw [e, collS_append, collS_append, collS_append]
        have ih := fun i (hi : i < 4) => ihk (partQ s i) (okA_part ho (by omega) hi) (by show s.d + 1 + k = 4; omega)
        have i0 := ih 0 (by decide)
        have i1 := ih 1 (by decide)
        have i2 := ih 2 (by decide)
        have i3 := ih 3 (by decide)
        simp only [inQ_rng, end_part] at i0 i1 i2 i3
        have hb0 : (partQ s 0).b = s.b := by unfold partQ; simp
        have hb4 : (partQ s 4).b = endN s := four_end (by omega)
        have m1 := part_le (s := s) (i := 0) (j := 1) (by omega)
        have m2 := part_le (s := s) (i := 1) (j := 2) (by omega)
        have m3 := part_le (s := s) (i := 2) (j := 3) (by omega)
        have m4 := part_le (s := s) (i := 3) (j := 4) (by omega)
        have t1 := (i1.append i0).trans (rng_two (inP r) m1 m2 S)
        have t2 := (i2.append t1).trans (rng_two (inP r) (by omega) m3 S)
        have t3 := (i3.append t2).trans (rng_two (inP r) (by omega) m4 S)
        rw [hb0, hb4] at t3
        exact t3
      · have hs' : splB S s = false := by simpa using hs
        have e : lvs S r (k + 1) s = [s] := by simp [lvs, hm', hs']
        rw [e]; exact coll_one hP r s
theorem srt_eq {l m : List Int} (h : l.Perm m) (hm : m.Pairwise (· ≤ ·)) : srt l = m := by
  refine List.Perm.eq_of_pairwise (le := (· ≤ ·)) (fun a b _ _ h1 h2 => Int.le_antisymm h1 h2) ?_ hm ((List.mergeSort_perm l _).trans h)
  have := List.pairwise_mergeSort (le := fun x y : Int => decide (x ≤ y)) (fun a b c h1 h2 => by simp at *; omega) (fun a b => by simp; omega) l
  unfold srt
  exact this.imp (fun h => by simpa using h)
/-- In tells all that are in r -/
theorem inL_perm {S : List Sp} (hR : Rising S) (hC : ∀ p ∈ S, p.c < 4096) (r : Rc) {m : List Int} (h : (idsOf r S).Perm m) (hm : m.Pairwise (· ≤ ·)) : inL S r = m := by
  unfold inL
  refine srt_eq (List.Perm.trans ?_ h) hm
  have := collS_all (rising_pair hR) hC r 4 ⟨0, 0⟩ okA_root rfl
  have e1 : collect S r (lv S r ⟨0, 0⟩) = (collS S r (lvs S r 4 ⟨0, 0⟩)).map Sp.id := by
    unfold collect collS idsOf lv
    rw [List.map_flatMap]
    rfl
  have e2 : S.filter (fun a => inQ ⟨0, 0⟩ a.c && inP r a) = S.filter (inP r) := by
    apply List.filter_congr
    intro a ha
    have : inQ ⟨0, 0⟩ a.c = true := by
      rw [inQ_iff]
      have := hC a ha
      have e : endN ⟨0, 0⟩ = 4096 := by decide
      rw [e]
      simp only
      omega
    rw [this, Bool.true_and]
  rw [e1]
  unfold idsOf
  rw [← e2]
  exact this.map Sp.id
end Go.Proofs.YtildhbkcpehobaaGreatDoor
