/- Plain facts: readers look at no more than what they take; cut off within it bytes lack. -/
import Derived.Test.YtlbbdpkbglkmnaaThgN
namespace Go.Proofs.Ytlbbdpkbglkmnaa
open Go.RowKit
set_option linter.unusedVariables false
theorem cut_drop (l : List UInt8) (c i : Nat) : (l.take c).drop i = (l.drop i).take (c - i) := List.drop_take
theorem get_more {l : List UInt8} {n z c : Nat} (h : get l = (n, z, 0)) (hc : z ≤ c) : get (l.take c) = (n, z, 0) := getF_more l 0 0 c n z h (by omega)
theorem get_less {l : List UInt8} {n z c : Nat} (h : get l = (n, z, 0)) (hc : c < z) : get (l.take c) = (0, 0, 10) := getF_take l 0 0 c n z h (by omega)
theorem pair_parts {l : List UInt8} {a b z : Nat} (h : pairR l = (a, b, z, 0)) : ∃ i k, get l = (a, i, 0) ∧ get (l.drop i) = (b, k, 0) ∧ z = i + k := by
  rcases hg : get l with ⟨n, i, x⟩
  rcases hg' : get (l.drop i) with ⟨n', k, x'⟩
  by_cases hx : x = 0
  · subst hx
    by_cases hx' : x' = 0
    · subst hx'
      rw [pairR_3 hg hg'] at h
      simp only [Prod.mk.injEq] at h
      obtain ⟨rfl, rfl, rfl, _⟩ := h
      exact ⟨i, k, rfl, hg', rfl⟩
    · rw [pairR_2 hg hg' hx'] at h
      simp only [Prod.mk.injEq] at h
      omega
  · rw [pairR_1 hg hx] at h
    simp only [Prod.mk.injEq] at h
    omega
theorem pair_more {l : List UInt8} {a b z c : Nat} (h : pairR l = (a, b, z, 0)) (hc : z ≤ c) : pairR (l.take c) = (a, b, z, 0) := by
  obtain ⟨i, k, h1, h2, rfl⟩ := pair_parts h
  exact pairR_3 (get_more h1 (by omega)) (by rw [cut_drop]; exact get_more h2 (by omega))
theorem pair_less {l : List UInt8} {a b z c : Nat} (h : pairR l = (a, b, z, 0)) (hc : c < z) : pairR (l.take c) = (0, 0, 0, 10) := by
  obtain ⟨i, k, h1, h2, rfl⟩ := pair_parts h
  by_cases hi : c < i
  · exact pairR_1 (get_less h1 hi) (by decide)
  · exact pairR_2 (get_more h1 (by omega)) (by rw [cut_drop]; exact get_less h2 (by omega)) (by decide)
theorem head_parts {l : List UInt8} {D : Dl} {z : Nat} (h : headR l = (D, z, 0)) : ∃ a b, pairR l = (a, b, z, 0) ∧ a ≤ 1000000 ∧ 1 ≤ b ∧ b ≤ 31 ∧ D = ⟨a, b, 0, 0, zF, zF, zF, zF⟩ := by
  rcases hg : pairR l with ⟨a, b, i, x⟩
  by_cases hx : x = 0
  · subst hx
    by_cases hb : 1000000 < a ∨ b = 0 ∨ 31 < b
    · rw [headR_2 hg hb] at h
      simp only [Prod.mk.injEq] at h
      omega
    · rw [headR_3 hg (by omega) (by omega) (by omega)] at h
      simp only [Prod.mk.injEq] at h
      obtain ⟨rfl, rfl, _⟩ := h
      exact ⟨a, b, rfl, by omega, by omega, by omega, rfl⟩
  · rw [headR_1 hg hx] at h
    simp only [Prod.mk.injEq] at h
    omega
theorem head_more {l : List UInt8} {D : Dl} {z c : Nat} (h : headR l = (D, z, 0)) (hc : z ≤ c) : headR (l.take c) = (D, z, 0) := by
  obtain ⟨a, b, hp, h1, h2, h3, rfl⟩ := head_parts h
  exact headR_3 (pair_more hp hc) h1 h2 h3
theorem head_less {l : List UInt8} {D : Dl} {z c : Nat} (h : headR l = (D, z, 0)) (hc : c < z) : headR (l.take c) = (zD, 0, 10) := by
  obtain ⟨a, b, hp, h1, h2, h3, rfl⟩ := head_parts h
  exact headR_1 (pair_less hp hc) (by decide)
theorem texts_1 {l : List UInt8} {n i x : Nat} (h : get l = (n, i, x)) (hx : ¬ x = 0) : texts l 12 = ([], 0, x) := by
  unfold texts; rw [h]; simp only; rw [if_pos (by simpa using hx)]
theorem texts_2 {l : List UInt8} {n i : Nat} (h : get l = (n, i, 0)) (hn : 12 < n) : texts l 12 = ([], 0, 13) := by
  unfold texts; rw [h]; simp only; rw [if_neg (by simp), if_pos (by omega)]
theorem texts_3 {l : List UInt8} {n i : Nat} (h : get l = (n, i, 0)) (hn : n ≤ 12) (hl : l.length - i < n) : texts l 12 = ([], 0, 10) := by
  unfold texts; rw [h]; simp only; rw [if_neg (by simp), if_neg (by omega), if_pos hl]
theorem texts_4 {l : List UInt8} {n i : Nat} (h : get l = (n, i, 0)) (hn : n ≤ 12) (hl : n ≤ l.length - i) : texts l 12 = ((l.drop i).take n, i + n, 0) := by
  unfold texts; rw [h]; simp only; rw [if_neg (by simp), if_neg (by omega), if_neg (by omega)]
theorem text_parts {l u : List UInt8} {z : Nat} (h : texts l 12 = (u, z, 0)) : ∃ n i, get l = (n, i, 0) ∧ n ≤ 12 ∧ n ≤ l.length - i ∧ i ≤ l.length ∧ u = (l.drop i).take n ∧ z = i + n := by
  rcases hg : get l with ⟨n, i, x⟩
  have hi := (get_ok hg).2.1
  by_cases hx : x = 0
  · subst hx
    by_cases hn : 12 < n
    · rw [texts_2 hg hn] at h
      simp only [Prod.mk.injEq] at h
      omega
    · by_cases hl : l.length - i < n
      · rw [texts_3 hg (by omega) hl] at h
        simp only [Prod.mk.injEq] at h
        omega
      · rw [texts_4 hg (by omega) (by omega)] at h
        simp only [Prod.mk.injEq] at h
        obtain ⟨rfl, rfl, _⟩ := h
        exact ⟨n, i, rfl, by omega, by omega, hi, rfl, rfl⟩
  · rw [texts_1 hg hx] at h
    simp only [Prod.mk.injEq] at h
    omega
theorem text_more {l u : List UInt8} {z c : Nat} (h : texts l 12 = (u, z, 0)) (hc : z ≤ c) : texts (l.take c) 12 = (u, z, 0) := by
  obtain ⟨n, i, hg, h1, h2, h3, rfl, rfl⟩ := text_parts h
  rw [texts_4 (get_more hg (by omega)) h1 (by rw [List.length_take]; omega), cut_drop, List.take_take]
  rw [show min n (c - i) = n by omega]
theorem text_less {l u : List UInt8} {z c : Nat} (h : texts l 12 = (u, z, 0)) (hc : c < z) : texts (l.take c) 12 = ([], 0, 10) := by
  obtain ⟨n, i, hg, h1, h2, h3, rfl, rfl⟩ := text_parts h
  by_cases hi : c < i
  · exact texts_1 (get_less hg hi) (by decide)
  · exact texts_3 (get_more hg (by omega)) h1 (by rw [List.length_take]; omega)
theorem field_cut {l : List UInt8} {f : Fl} {z c : Nat} (h : fieldR l = (f, z, 0)) : (z ≤ c → fieldR (l.take c) = (f, z, 0)) ∧ (c < z → fieldR (l.take c) = (zF, 0, 10)) := by
  rcases ht : texts l 12 with ⟨u, i, x⟩
  by_cases hx : x = 0
  · subst hx
    by_cases hu : u = []
    · subst hu
      rcases hg : get (l.drop i) with ⟨n, k, x'⟩
      by_cases hx' : x' = 0
      · subst hx'
        rw [fieldR_4 ht hg] at h
        simp only [Prod.mk.injEq] at h
        obtain ⟨rfl, rfl, _⟩ := h
        constructor
        · intro hc
          exact fieldR_4 (text_more ht (by omega)) (by rw [cut_drop]; exact get_more hg (by omega))
        · intro hc
          by_cases hi : c < i
          · exact fieldR_1 (text_less ht hi) (by decide)
          · exact fieldR_3 (text_more ht (by omega)) (by rw [cut_drop]; exact get_less hg (by omega)) (by decide)
      · rw [fieldR_3 ht hg hx'] at h
        simp only [Prod.mk.injEq] at h
        omega
    · rw [fieldR_2 ht hu] at h
      simp only [Prod.mk.injEq] at h
      obtain ⟨rfl, rfl, _⟩ := h
      exact ⟨fun hc => fieldR_2 (text_more ht hc) hu, fun hc => fieldR_1 (text_less ht hc) (by decide)⟩
  · rw [fieldR_1 ht hx] at h
    simp only [Prod.mk.injEq] at h
    omega
theorem readS_cut (l : List UInt8) (c : Nat) : ∀ (b : Nat) (D : Dl) (z : Nat), readS l b = (D, z, 0) → (z ≤ c → readS (l.take c) b = (D, z, 0)) ∧ (c < z → ∃ D' z', readS (l.take c) b = (D', z', 10))
  | 0, D, z, h => ⟨fun hc => head_more h hc, fun hc => ⟨_, _, head_less h hc⟩⟩
  | b + 1, D, z, h => by
    rcases hp : readS l b with ⟨D', z', e'⟩
    by_cases he : e' = 0
    · subst he
      obtain ⟨ih1, ih2⟩ := readS_cut l c b D' z' hp
      cases hr : D'.m.testBit b
      · rw [readS_skip hp hr] at h
        simp only [Prod.mk.injEq] at h
        obtain ⟨rfl, rfl, _⟩ := h
        refine ⟨fun hc => readS_skip (ih1 hc) hr, fun hc => ?_⟩
        obtain ⟨E, y, hE⟩ := ih2 hc
        exact ⟨E, y, readS_err hE (by decide) (b + 1) (by omega)⟩
      · cases b with
        | zero =>
          rcases hq : pairR (l.drop z') with ⟨x, y, k, e2⟩
          rw [readS_pt hp hr hq] at h
          simp only [Prod.mk.injEq] at h
          obtain ⟨rfl, rfl, rfl⟩ := h
          refine ⟨fun hc => readS_pt (ih1 (by omega)) hr (by rw [cut_drop]; exact pair_more hq (by omega)), fun hc => ?_⟩
          by_cases hz : c < z'
          · obtain ⟨E, y, hE⟩ := ih2 hz
            exact ⟨E, y, readS_err hE (by decide) (0 + 1) (by omega)⟩
          · exact ⟨_, _, readS_pt (ih1 (by omega)) hr (by rw [cut_drop]; exact pair_less hq (by omega))⟩
        | succ b =>
          rcases hq : fieldR (l.drop z') with ⟨f, k, e2⟩
          rw [readS_fl hp hr hq] at h
          simp only [Prod.mk.injEq] at h
          obtain ⟨rfl, rfl, rfl⟩ := h
          refine ⟨fun hc => readS_fl (ih1 (by omega)) hr (by rw [cut_drop]; exact (field_cut hq).1 (by omega)), fun hc => ?_⟩
          by_cases hz : c < z'
          · obtain ⟨E, y, hE⟩ := ih2 hz
            exact ⟨E, y, readS_err hE (by decide) (b + 1 + 1) (by omega)⟩
          · exact ⟨_, _, readS_fl (ih1 (by omega)) hr (by rw [cut_drop]; exact (field_cut hq).2 (by omega))⟩
    · have := readS_err hp he (b + 1) (by omega)
      rw [this] at h
      simp only [Prod.mk.injEq] at h
      omega
theorem read_cut {l : List UInt8} {D : Dl} {z : Nat} (c : Nat) (h : read l = (D, z, 0)) : (z ≤ c → read (l.take c) = (D, z, 0)) ∧ (c < z → read (l.take c) = (zD, 0, 10)) := by
  rcases hp : readS l 5 with ⟨D', z', e'⟩
  by_cases he : e' = 0
  · subst he
    cases hd : isD D'
    · rw [read_bad hp hd] at h
      simp only [Prod.mk.injEq] at h
      omega
    · rw [read_good hp hd] at h
      simp only [Prod.mk.injEq] at h
      obtain ⟨rfl, rfl, _⟩ := h
      obtain ⟨h1, h2⟩ := readS_cut l c 5 D' z' hp
      refine ⟨fun hc => read_good (h1 hc) hd, fun hc => ?_⟩
      obtain ⟨E, y, hE⟩ := h2 hc
      exact read_err hE (by decide) (by omega)
  · rw [read_err hp he (by omega)] at h
    simp only [Prod.mk.injEq] at h
    omega
theorem readT_cut {l : List UInt8} {t : Th} {z : Nat} (c : Nat) (h : readT l = (t, z, 0)) : (z ≤ c → readT (l.take c) = (t, z, 0)) ∧ (c < z → readT (l.take c) = (zT, 0, 10)) := by
  rcases hp : read l with ⟨D, n, e⟩
  by_cases he : e = 0
  · subst he
    by_cases hm : D.m = 31
    · rw [readT_ok hp hm] at h
      simp only [Prod.mk.injEq] at h
      obtain ⟨rfl, rfl, _⟩ := h
      obtain ⟨h1, h2⟩ := read_cut c hp
      exact ⟨fun hc => readT_ok (h1 hc) hm, fun hc => readT_err (h2 hc) (by decide)⟩
    · rw [readT_form hp hm] at h
      simp only [Prod.mk.injEq] at h
      omega
  · rw [readT_err hp he] at h
    simp only [Prod.mk.injEq] at h
    omega
theorem runS_cut (s : List UInt8) (z0 c : Nat) (h0 : z0 ≤ c) : ∀ (k : Nat) (M : List Th) (z : Nat), runS s z0 k = (M, z, 0) → (z ≤ c → runS (s.take c) z0 k = (M, z, 0)) ∧ (c < z → ∃ M' z', runS (s.take c) z0 k = (M', z', 10))
  | 0, M, z, h => by
    simp only [runS, Prod.mk.injEq] at h ⊢
    obtain ⟨rfl, rfl, _⟩ := h
    exact ⟨fun _ => ⟨rfl, rfl, trivial⟩, fun hc => by omega⟩
  | k + 1, M, z, h => by
    rcases hp : runS s z0 k with ⟨M', z', e'⟩
    by_cases he : e' = 0
    · subst he
      obtain ⟨ih1, ih2⟩ := runS_cut s z0 c h0 k M' z' hp
      rcases hr : readT (s.drop z') with ⟨t, m, e⟩
      by_cases hx : e = 0
      · subst hx
        cases hq : risesB M' t
        · rw [someS_down hp hr hq] at h
          simp only [Prod.mk.injEq] at h
          omega
        · rw [someS_next hp hr hq] at h
          simp only [Prod.mk.injEq] at h
          obtain ⟨rfl, rfl, _⟩ := h
          refine ⟨fun hc => someS_next (ih1 (by omega)) (by rw [cut_drop]; exact (readT_cut _ hr).1 (by omega)) hq, fun hc => ?_⟩
          by_cases hz : c < z'
          · obtain ⟨E, y, hE⟩ := ih2 hz
            exact ⟨E, y, someS_err hE (by decide) (k + 1) (by omega)⟩
          · exact ⟨_, _, someS_bad (ih1 (by omega)) (by rw [cut_drop]; exact (readT_cut _ hr).2 (by omega)) (by decide)⟩
      · rw [someS_bad hp hr hx] at h
        simp only [Prod.mk.injEq] at h
        omega
    · rw [someS_err hp he (k + 1) (by omega)] at h
      simp only [Prod.mk.injEq] at h
      omega
theorem some_cut {s : List UInt8} {L : List Th} {z c : Nat} (h : someL s = (L, z, 0)) (hc : c < z) : ∃ M y, someL (s.take c) = (M, y, 10) := by
  rcases hg : get s with ⟨n, z0, x⟩
  by_cases hx : x = 0
  · subst hx
    by_cases hn : 200 < n
    · rw [someT_2 hg hn] at h
      simp only [Prod.mk.injEq] at h
      omega
    · by_cases h0 : c < z0
      · exact ⟨_, _, someT_1 (get_less hg h0) (by decide)⟩
      · rw [someT_3 hg (by omega)] at h
        obtain ⟨M, y, hM⟩ := (runS_cut s z0 c (by omega) n L z h).2 hc
        exact ⟨M, y, by rw [someT_3 (get_more hg (by omega)) (by omega)]; exact hM⟩
  · rw [someT_1 hg hx] at h
    simp only [Prod.mk.injEq] at h
    omega
end Go.Proofs.Ytlbbdpkbglkmnaa
