/- Plain facts on commands: whatever is read is a command, and its bytes are just those that it was read of. -/
import Derived.Test.YtfcofhlcainanaaCmW
namespace Go.Proofs.Ytfcofhlcainanaa
open Go.RowKit
set_option linter.unusedVariables false
def Pa.key : Pa → Nat
  | Sum.inl (k, _, _) => k
  | Sum.inr k => k
theorem i_setI (d : Cm) {k j : Nat} (hk : atI k) (hj : atI j) (h : j ≠ k) (z : Int) : (d.setI k z).i j = d.i j := by
  rcases hk with rfl | rfl | rfl | rfl | rfl | rfl | rfl | rfl | rfl | rfl | rfl | rfl <;> rcases hj with rfl | rfl | rfl | rfl | rfl | rfl | rfl | rfl | rfl | rfl | rfl | rfl <;> first | rfl | exact absurd rfl h
theorem i_setI_self (d : Cm) {k : Nat} (hk : atI k) (z : Int) : (d.setI k z).i k = z := by
  rcases hk with rfl | rfl | rfl | rfl | rfl | rfl | rfl | rfl | rfl | rfl | rfl | rfl <;> rfl
theorem i_setF (d : Cm) {k j : Nat} (hk : atF k) (hj : atI j) (f : Fl) : (d.setF k f).i j = d.i j := by
  rcases hk with rfl | rfl | rfl | rfl | rfl <;> rcases hj with rfl | rfl | rfl | rfl | rfl | rfl | rfl | rfl | rfl | rfl | rfl | rfl <;> rfl
theorem f_setF_ne (d : Cm) {k j : Nat} (hk : atF k) (hj : atF j) (h : j ≠ k) (f : Fl) : (d.setF k f).f j = d.f j := by
  rcases hk with rfl | rfl | rfl | rfl | rfl <;> rcases hj with rfl | rfl | rfl | rfl | rfl <;> first | rfl | exact absurd rfl h
theorem f_setF_self (d : Cm) {k : Nat} (hk : atF k) (f : Fl) : (d.setF k f).f k = f := by
  rcases hk with rfl | rfl | rfl | rfl | rfl <;> rfl
theorem f_setI' (c : Cm) (k : Nat) (z : Int) (j : Nat) : (c.setI k z).f j = c.f j := by
  unfold Cm.setI
  split <;> rfl
theorem num_inv {d d' : Cm} {k : Nat} {lo hi : Int} {l : List UInt8} {i : Nat} (h : numR d k lo hi l = (d', i, 0)) (hk : atI k) : i ≤ l.length ∧ ∃ z, d' = d.setI k z ∧ lo ≤ z ∧ z ≤ hi ∧ l = put (zig z) ++ l.drop i := by
  rcases hg : get l with ⟨n, j, x⟩
  obtain ⟨h1, h2, h3, h4, h5⟩ := get_ok hg
  unfold numR at h
  rw [hg] at h
  simp only at h
  split at h
  · simp_all
  · split at h
    · simp at h
    · simp only [Prod.mk.injEq, and_true] at h
      obtain ⟨rfl, rfl⟩ := h
      have hx : x = 0 := by simp_all
      subst hx
      refine ⟨h2, zag n, rfl, by omega, by omega, ?_⟩
      rw [zig_zag, ← get_canon hg, List.take_append_drop]
theorem fld_inv {d d' : Cm} {k : Nat} {l : List UInt8} {i : Nat} (h : fldR d k l = (d', i, 0)) (hk : atF k) : i ≤ l.length ∧ ∃ f, d' = d.setF k f ∧ isF f = true ∧ (-9223372036854775808 ≤ f.n ∧ f.n ≤ 9223372036854775807) ∧ l = (text f.s.data.toList ++ put (zig f.n)) ++ l.drop i := by
  rcases ht : texts l 12 with ⟨u, j, x⟩
  obtain ⟨t1, t2, t3, t4, t5⟩ := texts_ok ht
  rcases hg : get (l.drop j) with ⟨n, j2, x2⟩
  obtain ⟨h1, h2, h3, h4, h5⟩ := get_ok hg
  rw [List.length_drop] at h2
  unfold fldR at h
  rw [ht] at h
  simp only at h
  rw [hg] at h
  simp only at h
  split at h
  · simp_all
  · split at h
    · simp_all
    · split at h
      · simp at h
      · simp only [Prod.mk.injEq, and_true] at h
        obtain ⟨rfl, rfl⟩ := h
        have hx : x = 0 := by simp_all
        have hx2 : x2 = 0 := by simp_all
        subst hx hx2
        refine ⟨by omega, ⟨zag n, ⟨u.toArray⟩⟩, rfl, by simp_all, zag_le n h1, ?_⟩
        have e1 := texts_canon ht
        have e2 := get_canon hg
        show l = (text u ++ put (zig (zag n))) ++ l.drop (j + j2)
        rw [zig_zag, ← e1, ← e2, List.append_assoc, ← List.drop_drop, List.take_append_drop, List.take_append_drop]
theorem nums_setF {c : Cm} (h : numsC c) {k : Nat} (hk : atF k) {f : Fl} (hf : -9223372036854775808 ≤ f.n ∧ f.n ≤ 9223372036854775807) : numsC (c.setF k f) := by
  have h0 := h 6
  have h1 := h 8
  have h2 := h 10
  have h3 := h 12
  have h4 := h 14
  intro j
  unfold Cm.f
  rcases hk with rfl | rfl | rfl | rfl | rfl <;> split <;> assumption
theorem readL_inv {S : List UInt8} : ∀ (L : List Pa) (d c : Cm) (z z' : Nat), readL S L d z = (c, z', 0) → (∀ p ∈ L, p.ok) → L.Pairwise (fun p q => p.key ≠ q.key) → z ≤ S.length →
    z' ≤ S.length ∧ S.drop z = toldL L c ++ S.drop z' ∧ (∀ p ∈ L, p.is c = true) ∧ (∀ j, atI j → (∀ p ∈ L, p.key ≠ j) → c.i j = d.i j) ∧ (∀ j, atF j → (∀ p ∈ L, p.key ≠ j) → c.f j = d.f j) ∧ (numsC d → numsC c)
  | [], d, c, z, z', h, _, _, hz => by
    simp only [readL, Prod.mk.injEq, and_true] at h
    obtain ⟨rfl, rfl⟩ := h
    exact ⟨hz, rfl, by simp, fun _ _ _ => rfl, fun _ _ _ => rfl, fun h => h⟩
  | p :: l, d, c, z, z', h, hok, hpw, hz => by
    obtain ⟨hp1, hp2⟩ := List.pairwise_cons.1 hpw
    rcases hr : p.read d (S.drop z) with ⟨d1, i, e⟩
    rw [readL, hr] at h
    simp only at h
    by_cases he : e = 0
    · subst he
      rw [if_neg (by simp)] at h
      rcases p with ⟨k, lo, hi⟩ | k
      · have hkk : atI k := (hok (.num k lo hi) (by simp)).1
        obtain ⟨hi1, v, rfl, v1, v2, v3⟩ := num_inv hr hkk
        rw [List.length_drop] at hi1
        obtain ⟨a1, a2, a3, a4, a5, a6⟩ := readL_inv l _ c (z + i) z' h (fun q hq => hok q (by simp [hq])) hp2 (by omega)
        have ek : c.i k = v := (a4 k hkk (fun q hq => (hp1 q hq).symm)).trans (i_setI_self d hkk v)
        refine ⟨a1, ?_, ?_, ?_, ?_, ?_⟩
        · show _ = (put (zig (c.i k)) ++ toldL l c) ++ _
          rw [ek, List.append_assoc, ← a2, ← List.drop_drop]
          exact v3
        · intro q hq
          rcases List.mem_cons.1 hq with rfl | hq
          · exact is_num.2 (by rw [ek]; exact ⟨v1, v2⟩)
          · exact a3 q hq
        · intro j hj hne
          rw [a4 j hj (fun q hq => hne q (by simp [hq]))]
          exact i_setI d hkk hj (fun e => hne (.num k lo hi) (by simp) e.symm) v
        · intro j hj hne
          rw [a5 j hj (fun q hq => hne q (by simp [hq])), f_setI']
        · intro hn
          exact a6 (fun j => by rw [f_setI']; exact hn j)
      · have hkk : atF k := hok (.fld k) (by simp)
        obtain ⟨hi1, v, rfl, v1, vb, v3⟩ := fld_inv hr hkk
        rw [List.length_drop] at hi1
        obtain ⟨a1, a2, a3, a4, a5, a6⟩ := readL_inv l _ c (z + i) z' h (fun q hq => hok q (by simp [hq])) hp2 (by omega)
        have ek : c.f k = v := (a5 k hkk (fun q hq => (hp1 q hq).symm)).trans (f_setF_self d hkk v)
        refine ⟨a1, ?_, ?_, ?_, ?_, ?_⟩
        · show _ = ((text (c.f k).s.data.toList ++ put (zig (c.f k).n)) ++ toldL l c) ++ _
          rw [ek, List.append_assoc, ← a2, ← List.drop_drop]
          exact v3
        · intro q hq
          rcases List.mem_cons.1 hq with rfl | hq
          · show isF (c.f k) = true
            rw [ek]; exact v1
          · exact a3 q hq
        · intro j hj hne
          rw [a4 j hj (fun q hq => hne q (by simp [hq])), i_setF d hkk hj]
        · intro j hj hne
          rw [a5 j hj (fun q hq => hne q (by simp [hq]))]
          exact f_setF_ne d hkk hj (fun e => hne (.fld k) (by simp) e.symm) v
        · intro hn
          exact a6 (nums_setF hn hkk vb)
    · rw [if_pos he] at h
      simp only [Prod.mk.injEq] at h
      exact absurd h.2.2 he
end Go.Proofs.Ytfcofhlcainanaa
