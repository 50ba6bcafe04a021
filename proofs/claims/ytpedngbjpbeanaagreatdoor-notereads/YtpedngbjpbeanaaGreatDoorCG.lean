/- Plain: what was told is read, what is read was told so. -/
import Derived.Test.YtpedngbjpbeanaaGreatDoorCF
namespace Go.Proofs.YtpedngbjpbeanaaGreatDoor
section
open Go.RowKit
set_option linter.unusedVariables false
def numsC (c : Cm) : Prop := ∀ k, -9223372036854775808 ≤ (c.f k).n ∧ (c.f k).n ≤ 9223372036854775807
theorem part_back {c d : Cm} {p : Pa} (hp : p.ok) (hi : p.is c = true) (hn : numsC c) (R : List UInt8) : p.read d (p.told c ++ R) = (p.put c d, (p.told c).length, 0) := by
  rcases p with ⟨k, lo, hi'⟩ | k
  · obtain ⟨h1, h2⟩ := is_num.1 hi
    obtain ⟨-, o1, o2, o3, o4⟩ := hp
    have hg := get_put (zig (c.i k)) (zig_le _ (by omega) (by omega)) R
    show numR d k lo hi' (put (zig (c.i k)) ++ R) = _
    unfold numR
    rw [hg]
    simp only
    rw [zag_zig, if_neg (by simp), if_neg (by omega)]
    rfl
  · have h2 : isF (c.f k) = true := hi
    have h3 := h2
    unfold isF at h3
    simp only [Bool.and_eq_true, decide_eq_true_eq] at h3
    have hs : (c.f k).s.data.toList.length ≤ 12 := h3.2
    obtain ⟨n1, n2⟩ := hn k
    have ht := texts_back (c.f k).s.data.toList (put (zig (c.f k).n) ++ R) 12 (by omega) (by omega)
    have hg := get_put (zig (c.f k).n) (zig_le _ n1 n2) R
    show fldR d k ((text (c.f k).s.data.toList ++ put (zig (c.f k).n)) ++ R) = _
    unfold fldR
    rw [List.append_assoc, ht]
    simp only
    rw [List.drop_left, hg]
    simp only
    rw [zag_zig]
    have e : (⟨(c.f k).n, ⟨(c.f k).s.data.toList.toArray⟩⟩ : Fl) = c.f k := rfl
    rw [e, if_neg (by simp), if_neg (by simp), if_neg (by simp [h2])]
    show (d.setF k (c.f k), _, 0) = (d.setF k (c.f k), (text _ ++ put _).length, 0)
    rw [List.length_append]
theorem readL_back {c : Cm} (hn : numsC c) : ∀ (L : List Pa) (d : Cm) (S R : List UInt8) (z : Nat), (∀ p ∈ L, p.ok) → (∀ p ∈ L, p.is c = true) → S.drop z = toldL L c ++ R → readL S L d z = (putL c L d, z + (toldL L c).length, 0)
  | [], d, S, R, z, _, _, h => rfl
  | p :: l, d, S, R, z, hok, his, h => by
    have e : toldL (p :: l) c = p.told c ++ toldL l c := rfl
    rw [e, List.append_assoc] at h
    have hb := part_back (d := d) (hok p (by simp)) (his p (by simp)) hn (toldL l c ++ R)
    rw [readL, h, hb]
    simp only
    rw [if_neg (by simp), readL_back hn l (p.put c d) S R _ (fun q hq => hok q (by simp [hq])) (fun q hq => his q (by simp [hq])) (by rw [← List.drop_drop, h, List.drop_left]), e, List.length_append, Nat.add_assoc]
    rfl
theorem putL_append (c : Cm) : ∀ (L M : List Pa) (d : Cm), putL c (L ++ M) d = putL c M (putL c L d)
  | [], M, d => rfl
  | p :: l, M, d => putL_append c l M (p.put c d)
theorem read_backC {c : Cm} (hi : isCm c = true) (hn : numsC c) (R : List UInt8) : readC (toldL (partsP c.kd) c ++ R) = (c, (toldL (partsP c.kd) c).length, 0) := by
  obtain ⟨h1, h2⟩ := isC_iff.1 hi
  have hb := put_back c.kd c h2
  have e : toldL (partsP c.kd) c = toldL headP c ++ toldL (restP c.kd) c := by unfold toldL partsP; rw [List.flatMap_append]
  have ha := readL_back hn headP zC (toldL (partsP c.kd) c ++ R) (toldL (restP c.kd) c ++ R) 0 head_ok (fun p hp => h1 p (by unfold partsP; simp [hp])) (by rw [List.drop_zero, e, List.append_assoc])
  have hkd : (putL c headP zC).kd = c.kd := rfl
  have hr := readL_back hn (restP c.kd) (putL c headP zC) (toldL (partsP c.kd) c ++ R) R (0 + (toldL headP c).length) (rest_ok _) (fun p hp => h1 p (by unfold partsP; simp [hp])) (by rw [Nat.zero_add, e, List.append_assoc, List.drop_left])
  unfold readC
  rw [ha]
  simp only
  rw [hkd, hr]
  simp only
  rw [if_neg (by simp), if_neg (by simp), ← putL_append, show headP ++ restP c.kd = partsP c.kd from rfl, hb, e, List.length_append, Nat.zero_add]
end
section
open Go.RowKit
set_option linter.unusedVariables false
def Pa.key : Pa → Nat
  | Sum.inl (k, _, _) => k
  | Sum.inr k => k
theorem i_setI (d : Cm) {k j : Nat} (hk : plI k) (hj : plI j) (h : j ≠ k) (z : Int) : (d.setI k z).i j = d.i j := by
  rcases hk with rfl | rfl | rfl | rfl | rfl | rfl | rfl | rfl | rfl | rfl | rfl | rfl <;> rcases hj with rfl | rfl | rfl | rfl | rfl | rfl | rfl | rfl | rfl | rfl | rfl | rfl <;> first | rfl | exact absurd rfl h
theorem i_setI_self (d : Cm) {k : Nat} (hk : plI k) (z : Int) : (d.setI k z).i k = z := by
  rcases hk with rfl | rfl | rfl | rfl | rfl | rfl | rfl | rfl | rfl | rfl | rfl | rfl <;> rfl
theorem i_setF (d : Cm) {k j : Nat} (hk : atF k) (hj : plI j) (f : Fl) : (d.setF k f).i j = d.i j := by
  rcases hk with rfl | rfl | rfl | rfl | rfl <;> rcases hj with rfl | rfl | rfl | rfl | rfl | rfl | rfl | rfl | rfl | rfl | rfl | rfl <;> rfl
theorem f_setF_ne (d : Cm) {k j : Nat} (hk : atF k) (hj : atF j) (h : j ≠ k) (f : Fl) : (d.setF k f).f j = d.f j := by
  rcases hk with rfl | rfl | rfl | rfl | rfl <;> rcases hj with rfl | rfl | rfl | rfl | rfl <;> first | rfl | exact absurd rfl h
theorem f_setF_self (d : Cm) {k : Nat} (hk : atF k) (f : Fl) : (d.setF k f).f k = f := by
  rcases hk with rfl | rfl | rfl | rfl | rfl <;> rfl
theorem f_setI' (c : Cm) (k : Nat) (z : Int) (j : Nat) : (c.setI k z).f j = c.f j := by
  unfold Cm.setI
  split <;> rfl
theorem num_inv {d d' : Cm} {k : Nat} {lo hi : Int} {l : List UInt8} {i : Nat} (h : numR d k lo hi l = (d', i, 0)) (hk : plI k) : i ≤ l.length ∧ ∃ z, d' = d.setI k z ∧ lo ≤ z ∧ z ≤ hi ∧ l = put (zig z) ++ l.drop i := by
  rcases hg : get l with ⟨n, j, x⟩
  obtain ⟨h1, h2, h3, h4, h5⟩ := get_ok hg
  unfold numR at h
  rw [hg] at h
  simp only at h
  split at h
  · simp_all
  · split at h
    · simp at h
    · simp only [Prod.mk.injEq, and_true] at h
      obtain ⟨rfl, rfl⟩ := h
      have hx : x = 0 := by simp_all
      subst hx
      refine ⟨h2, zag n, rfl, by omega, by omega, ?_⟩
      rw [zig_zag, ← get_canon hg, List.take_append_drop]
theorem fld_inv {d d' : Cm} {k : Nat} {l : List UInt8} {i : Nat} (h : fldR d k l = (d', i, 0)) (hk : atF k) : i ≤ l.length ∧ ∃ f, d' = d.setF k f ∧ isF f = true ∧ (-9223372036854775808 ≤ f.n ∧ f.n ≤ 9223372036854775807) ∧ l = (text f.s.data.toList ++ put (zig f.n)) ++ l.drop i := by
  rcases ht : texts l 12 with ⟨u, j, x⟩
  obtain ⟨t1, t2, t3, t4, t5⟩ := texts_ok ht
  rcases hg : get (l.drop j) with ⟨n, j2, x2⟩
  obtain ⟨h1, h2, h3, h4, h5⟩ := get_ok hg
  rw [List.length_drop] at h2
  unfold fldR at h
  rw [ht] at h
  simp only at h
  rw [hg] at h
  simp only at h
  split at h
  · simp_all
  · split at h
    · simp_all
    · split at h
      · simp at h
      · simp only [Prod.mk.injEq, and_true] at h
        obtain ⟨rfl, rfl⟩ := h
        have hx : x = 0 := by simp_all
        have hx2 : x2 = 0 := by simp_all
        subst hx hx2
        refine ⟨by omega, ⟨zag n, ⟨u.toArray⟩⟩, rfl, by simp_all, zag_le n h1, ?_⟩
        have e1 := texts_canon ht
        have e2 := get_canon hg
        show l = (text u ++ put (zig (zag n))) ++ l.drop (j + j2)
        rw [zig_zag, ← e1, ← e2, List.append_assoc, ← List.drop_drop, List.take_append_drop, List.take_append_drop]
theorem nums_setF {c : Cm} (h : numsC c) {k : Nat} (hk : atF k) {f : Fl} (hf : -9223372036854775808 ≤ f.n ∧ f.n ≤ 9223372036854775807) : numsC (c.setF k f) := by
  have h0 := h 6
  have h1 := h 8
  have h2 := h 10
  have h3 := h 12
  have h4 := h 14
  intro j
  unfold Cm.f
  rcases hk with rfl | rfl | rfl | rfl | rfl <;> split <;> assumption
theorem readL_inv {S : List UInt8} : ∀ (L : List Pa) (d c : Cm) (z z' : Nat), readL S L d z = (c, z', 0) → (∀ p ∈ L, p.ok) → L.Pairwise (fun p q => p.key ≠ q.key) → z ≤ S.length →
    z' ≤ S.length ∧ S.drop z = toldL L c ++ S.drop z' ∧ (∀ p ∈ L, p.is c = true) ∧ (∀ j, plI j → (∀ p ∈ L, p.key ≠ j) → c.i j = d.i j) ∧ (∀ j, atF j → (∀ p ∈ L, p.key ≠ j) → c.f j = d.f j) ∧ (numsC d → numsC c)
  | [], d, c, z, z', h, _, _, hz => by
    simp only [readL, Prod.mk.injEq, and_true] at h
    obtain ⟨rfl, rfl⟩ := h
    exact ⟨hz, rfl, by simp, fun _ _ _ => rfl, fun _ _ _ => rfl, fun h => h⟩
  | p :: l, d, c, z, z', h, hok, hpw, hz => by
    obtain ⟨hp1, hp2⟩ := List.pairwise_cons.1 hpw
    rcases hr : p.read d (S.drop z) with ⟨d1, i, e⟩
    rw [readL, hr] at h
    simp only at h
    by_cases he : e = 0
    · subst he
      rw [if_neg (by simp)] at h
      rcases p with ⟨k, lo, hi⟩ | k
      · have hkk : plI k := (hok (.num k lo hi) (by simp)).1
        obtain ⟨hi1, v, rfl, v1, v2, v3⟩ := num_inv hr hkk
        rw [List.length_drop] at hi1
        obtain ⟨a1, a2, a3, a4, a5, a6⟩ := readL_inv l _ c (z + i) z' h (fun q hq => hok q (by simp [hq])) hp2 (by omega)
        have ek : c.i k = v := (a4 k hkk (fun q hq => (hp1 q hq).symm)).trans (i_setI_self d hkk v)
        refine ⟨a1, ?_, ?_, ?_, ?_, ?_⟩
        · show _ = (put (zig (c.i k)) ++ toldL l c) ++ _
          rw [ek, List.append_assoc, ← a2, ← List.drop_drop]
          exact v3
        · intro q hq
          rcases List.mem_cons.1 hq with rfl | hq
          · exact is_num.2 (by rw [ek]; exact ⟨v1, v2⟩)
          · exact a3 q hq
        · intro j hj hne
          rw [a4 j hj (fun q hq => hne q (by simp [hq]))]
          exact i_setI d hkk hj (fun e => hne (.num k lo hi) (by simp) e.symm) v
        · intro j hj hne
          rw [a5 j hj (fun q hq => hne q (by simp [hq])), f_setI']
        · intro hn
          exact a6 (fun j => by rw [f_setI']; exact hn j)
      · have hkk : atF k := hok (.fld k) (by simp)
        obtain ⟨hi1, v, rfl, v1, vb, v3⟩ := fld_inv hr hkk
        rw [List.length_drop] at hi1
        obtain ⟨a1, a2, a3, a4, a5, a6⟩ := readL_inv l _ c (z + i) z' h (fun q hq => hok q (by simp [hq])) hp2 (by omega)
        have ek : c.f k = v := (a5 k hkk (fun q hq => (hp1 q hq).symm)).trans (f_setF_self d hkk v)
        refine ⟨a1, ?_, ?_, ?_, ?_, ?_⟩
        · show _ = ((text (c.f k).s.data.toList ++ put (zig (c.f k).n)) ++ toldL l c) ++ _
          rw [ek, List.append_assoc, ← a2, ← List.drop_drop]
          exact v3
        · intro q hq
          rcases List.mem_cons.1 hq with rfl | hq
          · show isF (c.f k) = true
            rw [ek]; exact v1
          · exact a3 q hq
        · intro j hj hne
          rw [a4 j hj (fun q hq => hne q (by simp [hq])), i_setF d hkk hj]
        · intro j hj hne
          rw [a5 j hj (fun q hq => hne q (by simp [hq]))]
          exact f_setF_ne d hkk hj (fun e => hne (.fld k) (by simp) e.symm) v
        · intro hn
          exact a6 (nums_setF hn hkk vb)
    · rw [if_pos he] at h
      simp only [Prod.mk.injEq] at h
      exact absurd h.2.2 he
end
section
open Go.RowKit
set_option linter.unusedVariables false
theorem readL_err {S : List UInt8} : ∀ (L : List Pa) (d c : Cm) (z z' e : Nat), readL S L d z = (c, z', e) → e = 0 ∨ e = 10 ∨ e = 11 ∨ e = 13
  | [], d, c, z, z', e, h => by simp only [readL, Prod.mk.injEq] at h; omega
  | p :: l, d, c, z, z', e, h => by
    rcases hr : p.read d (S.drop z) with ⟨d1, i, e1⟩
    rw [readL, hr] at h
    simp only at h
    by_cases he : e1 = 0
    · rw [if_neg (by simpa using he)] at h
      exact readL_err l _ c _ z' e h
    · rw [if_pos he] at h
      have := (part_read_le hr).2
      simp only [Prod.mk.injEq] at h
      omega
theorem read_errC {S : List UInt8} {c : Cm} {n e : Nat} (h : readC S = (c, n, e)) (he : ¬ e = 0) : c = zC ∧ n = 0 ∧ (e = 10 ∨ e = 11 ∨ e = 13) := by
  rcases h1 : readL S headP zC 0 with ⟨c1, z1, e1⟩
  have k1 := readL_err _ _ _ _ _ _ h1
  by_cases hx : e1 = 0
  · subst hx
    rcases h2 : readL S (restP c1.kd) c1 z1 with ⟨c2, z2, e2⟩
    have k2 := readL_err _ _ _ _ _ _ h2
    by_cases hx2 : e2 = 0
    · subst hx2
      rw [readC_good h1 h2] at h
      simp only [Prod.mk.injEq] at h
      omega
    · rw [readC_bad2 h1 h2 hx2] at h
      simp only [Prod.mk.injEq] at h
      exact ⟨h.1.symm, h.2.1.symm, by omega⟩
  · rw [readC_bad h1 hx] at h
    simp only [Prod.mk.injEq] at h
    exact ⟨h.1.symm, h.2.1.symm, by omega⟩
theorem head_keys : headP.Pairwise (fun p q => p.key ≠ q.key) := by simp [headP, Pa.key]
theorem rest_keys (kd : Int) : (restP kd).Pairwise (fun p q => p.key ≠ q.key) := by
  refine rest_cases (P := fun l => l.Pairwise (fun p q => p.key ≠ q.key)) ?_ ?_ ?_ ?_ ?_ ?_ ?_ kd <;> simp [Pa.key]
theorem rest_far (kd : Int) : ∀ p ∈ restP kd, p.key ≠ 0 ∧ p.key ≠ 16 ∧ p.key ≠ 17 := by
  refine rest_cases (P := fun l => ∀ p ∈ l, p.key ≠ 0 ∧ p.key ≠ 16 ∧ p.key ≠ 17) ?_ ?_ ?_ ?_ ?_ ?_ ?_ kd <;> simp [Pa.key]
theorem clr_zero (kd : Int) (c : Cm) (hi : ∀ j, plI j → (∀ p ∈ partsP kd, p.key ≠ j) → c.i j = 0) (hf : ∀ j, atF j → (∀ p ∈ partsP kd, p.key ≠ j) → c.f j = zF) : clrL (partsP kd) c = zC := by
  revert hi hf
  obtain ⟨a0, a1, a2, a3, a4, a5, a6, a7, a8, a9, a10, a11, a12, a13, a14, a15, a16⟩ := c
  unfold partsP
  refine rest_cases (P := fun l => (∀ j, plI j → (∀ p ∈ headP ++ l, p.key ≠ j) → Cm.i _ j = 0) → (∀ j, atF j → (∀ p ∈ headP ++ l, p.key ≠ j) → Cm.f _ j = zF) → clrL (headP ++ l) _ = zC) ?_ ?_ ?_ ?_ ?_ ?_ ?_ kd
  all_goals
    intro hi hf
    have i1 := hi 1 (by simp [plI])
    have i2 := hi 2 (by simp [plI])
    have i3 := hi 3 (by simp [plI])
    have i4 := hi 4 (by simp [plI])
    have i5 := hi 5 (by simp [plI])
    have j18 := hi 18 (by simp [plI])
    have j19 := hi 19 (by simp [plI])
    have j20 := hi 20 (by simp [plI])
    have j21 := hi 21 (by simp [plI])
    have g6 := hf 6 (by simp [atF])
    have g8 := hf 8 (by simp [atF])
    have g10 := hf 10 (by simp [atF])
    have g12 := hf 12 (by simp [atF])
    have g14 := hf 14 (by simp [atF])
    clear hi hf
    simp [headP, Pa.key, Cm.i, Cm.f] at i1 i2 i3 i4 i5 j18 j19 j20 j21 g6 g8 g10 g12 g14
    simp_all [headP, clrL, Pa.clr, Cm.setI, Cm.setF, zC]
theorem nums_zC : numsC zC := by
  intro k
  have h : ∀ f : Fl, f = zF → (-9223372036854775808 ≤ f.n ∧ f.n ≤ 9223372036854775807) := fun f h => by rw [h]; decide
  apply h
  unfold Cm.f
  split <;> rfl
theorem read_canon {S : List UInt8} {c : Cm} {n : Nat} (h : readC S = (c, n, 0)) : isCm c = true ∧ S = toldL (partsP c.kd) c ++ S.drop n ∧ n ≤ S.length ∧ numsC c := by
  rcases h1 : readL S headP zC 0 with ⟨c1, z1, e1⟩
  by_cases hx : e1 = 0
  · subst hx
    rcases h2 : readL S (restP c1.kd) c1 z1 with ⟨c2, z2, e2⟩
    by_cases hx2 : e2 = 0
    · subst hx2
      rw [readC_good h1 h2] at h
      simp only [Prod.mk.injEq, and_true] at h
      obtain ⟨rfl, rfl⟩ := h
      obtain ⟨a1, a2, a3, a4, a5, a6⟩ := readL_inv _ _ _ _ _ h1 head_ok head_keys (by omega)
      obtain ⟨b1, b2, b3, b4, b5, b6⟩ := readL_inv _ _ _ _ _ h2 (rest_ok _) (rest_keys _) a1
      have hfar := rest_far c1.kd
      have k0 : c2.i 0 = c1.i 0 := b4 0 (by simp [plI]) (fun p hp => (hfar p hp).1)
      have k1 : c2.i 16 = c1.i 16 := b4 16 (by simp [plI]) (fun p hp => (hfar p hp).2.1)
      have k2 : c2.i 17 = c1.i 17 := b4 17 (by simp [plI]) (fun p hp => (hfar p hp).2.2)
      have hkd : c2.kd = c1.kd := k0
      have ht : toldL headP c2 = toldL headP c1 := by
        show put (zig (c2.i 0)) ++ (put (zig (c2.i 16)) ++ (put (zig (c2.i 17)) ++ [])) = put (zig (c1.i 0)) ++ (put (zig (c1.i 16)) ++ (put (zig (c1.i 17)) ++ []))
        rw [k0, k1, k2]
      have his : ∀ p ∈ headP, p.is c2 = true := by
        intro p hp
        have := a3 p hp
        simp only [headP, List.mem_cons, List.not_mem_nil, or_false] at hp
        rcases hp with rfl | rfl | rfl
        · rw [is_num] at this ⊢; rw [k0]; exact this
        · rw [is_num] at this ⊢; rw [k1]; exact this
        · rw [is_num] at this ⊢; rw [k2]; exact this
      refine ⟨?_, ?_, b1, b6 (a6 nums_zC)⟩
      · rw [isC_iff, hkd]
        refine ⟨?_, ?_⟩
        · intro p hp
          unfold partsP at hp
          rcases List.mem_append.1 hp with hp | hp
          · exact his p hp
          · exact b3 p hp
        · refine clr_zero _ _ ?_ ?_
          · intro j hj hne
            rw [b4 j hj (fun p hp => hne p (by unfold partsP; simp [hp])), a4 j hj (fun p hp => hne p (by unfold partsP; simp [hp]))]
            rcases hj with rfl | rfl | rfl | rfl | rfl | rfl | rfl | rfl | rfl | rfl | rfl | rfl <;> rfl
          · intro j hj hne
            rw [b5 j hj (fun p hp => hne p (by unfold partsP; simp [hp])), a5 j hj (fun p hp => hne p (by unfold partsP; simp [hp]))]
            rcases hj with rfl | rfl | rfl | rfl | rfl <;> rfl
      · have e : toldL (partsP c2.kd) c2 = toldL headP c2 ++ toldL (restP c2.kd) c2 := by unfold toldL partsP; rw [List.flatMap_append]
        rw [e, hkd, ht, List.append_assoc, ← b2]
        exact a2
    · rw [readC_bad2 h1 h2 hx2] at h
      simp only [Prod.mk.injEq] at h
      omega
  · rw [readC_bad h1 hx] at h
    simp only [Prod.mk.injEq] at h
    omega
theorem told_inj {c d : Cm} (hc : isCm c = true) (hd : isCm d = true) (nc : numsC c) (nd : numsC d) (h : toldL (partsP c.kd) c = toldL (partsP d.kd) d) : c = d := by
  have h1 := read_backC hc nc []
  have h2 := read_backC hd nd []
  rw [h, h2] at h1
  exact (congrArg Prod.fst h1).symm
theorem told_cut {c : Cm} (hc : isCm c = true) (nc : numsC c) {k : Nat} (hk : k < (toldL (partsP c.kd) c).length) {x : Cm} {n e : Nat} (h : readC ((toldL (partsP c.kd) c).take k) = (x, n, e)) : ¬ e = 0 := by
  rintro rfl
  obtain ⟨h1, h2, h3, h4⟩ := read_canon h
  rw [List.length_take] at h3
  have e1 : toldL (partsP c.kd) c = toldL (partsP x.kd) x ++ (((toldL (partsP c.kd) c).take k).drop n ++ (toldL (partsP c.kd) c).drop k) := by
    rw [← List.append_assoc, ← h2, List.take_append_drop]
  have h5 := read_backC hc nc []
  rw [List.append_nil] at h5
  have h6 := read_backC h1 h4 (((toldL (partsP c.kd) c).take k).drop n ++ (toldL (partsP c.kd) c).drop k)
  rw [← e1, h5] at h6
  have e2 := congrArg (fun r => r.2.1) h6
  simp only at e2
  have e3 := congrArg List.length h2
  rw [List.length_append, List.length_take, List.length_drop, List.length_take] at e3
  omega
theorem told_pos (c : Cm) : 0 < (toldL (partsP c.kd) c).length := by
  have e : toldL (partsP c.kd) c = put (zig c.kd) ++ ((put (zig c.cl) ++ (put (zig c.se) ++ [])) ++ toldL (restP c.kd) c) := by
    unfold toldL partsP
    rw [List.flatMap_append]
    show (put (zig c.kd) ++ (put (zig c.cl) ++ (put (zig c.se) ++ []))) ++ _ = _
    rw [List.append_assoc]
  rw [e, List.length_append]
  have := (put_length (zig c.kd)).1
  omega
end
end Go.Proofs.YtpedngbjpbeanaaGreatDoor
