/- Plain facts, of no program: a row of spots and a row of marks that say the same: what is put, moved, dropped, found, how deep it is. -/
import Derived.Test.YtildhbkcpehobaaGreatDoorQdW
import Derived.Test.YtildhbkcpehobaaGreatDoorQdU
import Derived.Test.YtildhbkcpehobaaGreatDoorQdV
namespace Go.Proofs.YtildhbkcpehobaaGreatDoor
open Go.RowKit
set_option linter.unusedVariables false
/-- a spot as a mark -/
def Sp.m (s : Sp) : Mk := ⟨s.id, plX s.c, plY s.c⟩
/-- the spots S, by their codes, and the marks L, by their numbers, say the same -/
structure Sim (S : List Sp) (L : List Mk) : Prop where
  perm : (S.map Sp.m).Perm L
  rise : Rising S
  code : ∀ p ∈ S, p.c < 4096
  ids : L.Pairwise (fun a b => a.id < b.id)
theorem Sim.len {S : List Sp} {L : List Mk} (h : Sim S L) : S.length = L.length := by
  have := h.perm.length_eq
  rwa [List.length_map] at this
theorem Sim.nil : Sim [] [] := ⟨.refl _, fun i j a b _ h => by simp at h, fun p h => by simp at h, .nil⟩
theorem plain_xy {x y : Nat} (hx : x < 64) (hy : y < 64) : plX (weave x y) = x ∧ plY (weave x y) = y ∧ weave x y < 4096 := by
  refine ⟨by unfold plX; rw [weave_gat x y (by omega) (by omega)], by unfold plY; rw [weave_gat1 x y (by omega) (by omega)], ?_⟩
  refine Nat.lt_pow_two_of_testBit (n := 12) _ fun j hj => ?_
  rw [weave_bit x y j (by omega) (by omega)]
  split
  · exact lt_bit (n := 6) (v := x) (by omega) (by omega)
  · exact lt_bit (n := 6) (v := y) (by omega) (by omega)
theorem find_mem {id : Int} {S : List Sp} : 0 ≤ findI id S ↔ ∃ a ∈ S, a.id = id := by
  unfold findI
  cases hf : S.findIdx? (fun s => s.id == id) with
  | none =>
    rw [List.findIdx?_eq_none_iff] at hf
    constructor
    · intro h; simp at h
    · rintro ⟨a, ha, e⟩
      have := hf a ha
      simp [e] at this
  | some i =>
    obtain ⟨hi, h1, _⟩ := List.findIdx?_eq_some_iff_getElem.1 hf
    constructor
    · intro _
      exact ⟨S[i], List.getElem_mem hi, by simpa using h1⟩
    · intro _
      simp
theorem rf_mem {id : Int} {S : List Mk} : 0 ≤ rfI id S ↔ ∃ a ∈ S, a.id = id := by
  unfold rfI
  cases hf : S.findIdx? (fun s => s.id == id) with
  | none =>
    rw [List.findIdx?_eq_none_iff] at hf
    constructor
    · intro h; simp at h
    · rintro ⟨a, ha, e⟩
      have := hf a ha
      simp [e] at this
  | some i =>
    obtain ⟨hi, h1, _⟩ := List.findIdx?_eq_some_iff_getElem.1 hf
    constructor
    · intro _
      exact ⟨S[i], List.getElem_mem hi, by simpa using h1⟩
    · intro _
      simp
theorem find_get {id : Int} {S : List Sp} (h : 0 ≤ findI id S) : ∃ a, S[(findI id S).toNat]? = some a ∧ a.id = id := by
  unfold findI at h ⊢
  cases hf : S.findIdx? (fun s => s.id == id) with
  | none => rw [hf] at h; simp at h
  | some i =>
    obtain ⟨hi, h1, _⟩ := List.findIdx?_eq_some_iff_getElem.1 hf
    exact ⟨S[i], by simp only [Int.toNat_natCast]; exact List.getElem?_eq_getElem hi, by simpa using h1⟩
theorem rf_get {id : Int} {S : List Mk} (h : 0 ≤ rfI id S) : ∃ a, S[(rfI id S).toNat]? = some a ∧ a.id = id := by
  unfold rfI at h ⊢
  cases hf : S.findIdx? (fun s => s.id == id) with
  | none => rw [hf] at h; simp at h
  | some i =>
    obtain ⟨hi, h1, _⟩ := List.findIdx?_eq_some_iff_getElem.1 hf
    exact ⟨S[i], by simp only [Int.toNat_natCast]; exact List.getElem?_eq_getElem hi, by simpa using h1⟩
theorem Sim.find {S : List Sp} {L : List Mk} (h : Sim S L) (id : Int) : 0 ≤ findI id S ↔ 0 ≤ rfI id L := by
  rw [find_mem, rf_mem]
  constructor
  · rintro ⟨a, ha, e⟩
    exact ⟨a.m, h.perm.mem_iff.1 (List.mem_map_of_mem ha), e⟩
  · rintro ⟨a, ha, e⟩
    obtain ⟨b, hb, rfl⟩ := List.mem_map.1 (h.perm.mem_iff.2 ha)
    exact ⟨b, hb, e⟩
theorem uniq {L : List Mk} (h : L.Pairwise (fun a b => a.id < b.id)) {a b : Mk} (ha : a ∈ L) (hb : b ∈ L) (e : a.id = b.id) : a = b := by
  obtain ⟨i, hi, rfl⟩ := List.getElem_of_mem ha
  obtain ⟨j, hj, rfl⟩ := List.getElem_of_mem hb
  have hp := List.pairwise_iff_getElem.1 h
  by_cases hij : i = j
  · subst hij; rfl
  · exfalso
    rcases Nat.lt_or_gt_of_ne hij with hlt | hgt
    · have := hp i j hi hj hlt; omega
    · have := hp j i hj hi hgt; omega
theorem insS_perm {α : Type} (S : List α) (k : Nat) (a : α) : (insS S k a).Perm (a :: S) := by
  unfold insS
  refine List.perm_middle.trans (.cons a ?_)
  rw [List.take_append_drop]
theorem delS_perm {α : Type} {S : List α} {k : Nat} {a : α} (h : S[k]? = some a) : S.Perm (a :: delS S k) := by
  obtain ⟨hk, e⟩ := List.getElem?_eq_some_iff.1 h
  have : S = S.take k ++ a :: S.drop (k + 1) := by
    rw [← e, ← List.drop_eq_getElem_cons hk, List.take_append_drop]
  unfold delS
  conv => lhs; rw [this]
  exact List.perm_middle
theorem firstN_split {c : Nat} : ∀ {S : List Sp}, S.Pairwise (fun a b => a.c ≤ b.c) → (∀ a ∈ S.take (firstN c S), a.c < c) ∧ (∀ a ∈ S.drop (firstN c S), c ≤ a.c)
  | [], _ => ⟨by simp, by simp⟩
  | a :: l, h => by
    obtain ⟨ha, hl⟩ := List.pairwise_cons.1 h
    have ih := firstN_split (c := c) hl
    have c1 : firstN c (a :: l) = firstN c l + if a.c < c then 1 else 0 := by
      unfold firstN
      rw [List.countP_cons]
      simp
    by_cases hq : a.c < c
    · rw [c1, if_pos hq, List.take_succ_cons, List.drop_succ_cons]
      exact ⟨fun b hb => by rcases List.mem_cons.1 hb with rfl | hb; exact hq; exact ih.1 b hb, ih.2⟩
    · have z : firstN c l = 0 := by
        unfold firstN
        rw [List.countP_eq_zero]
        intro b hb
        have := ha b hb
        simp only [decide_eq_true_eq]; omega
      rw [c1, if_neg hq, z]
      refine ⟨by simp, fun b hb => ?_⟩
      rcases List.mem_cons.1 hb with rfl | hb
      · omega
      · have := ha b hb; omega
theorem delS_sub {α : Type} (S : List α) (k : Nat) : (delS S k).Sublist S := by
  unfold delS
  have h1 : (S.drop (k + 1)).Sublist (S.drop k) := by rw [← List.drop_drop]; exact List.drop_sublist 1 _
  have h2 := List.Sublist.append (List.Sublist.refl (S.take k)) h1
  rwa [List.take_append_drop] at h2
theorem setM_map (x y : Int) : ∀ (L : List Mk) (k : Nat), (setM L k x y).map Mk.id = L.map Mk.id
  | [], k => by simp [setM]
  | a :: l, 0 => by simp [setM]
  | a :: l, k + 1 => by
    have := setM_map x y l k
    simp [setM] at this ⊢
    exact this
theorem setM_perm {t : Mk} {x y : Int} : ∀ {L : List Mk} {k : Nat}, L[k]? = some t → (setM L k x y).Perm (⟨t.id, x, y⟩ :: delS L k)
  | [], k, h => by simp at h
  | a :: l, 0, h => by
    simp at h
    subst h
    simp [setM, delS]
  | a :: l, k + 1, h => by
    have ih := setM_perm (x := x) (y := y) (L := l) (k := k) (by simpa using h)
    have e1 : setM (a :: l) (k + 1) x y = a :: setM l k x y := by simp [setM]
    have e2 : delS (a :: l) (k + 1) = a :: delS l k := by simp [delS]
    rw [e1, e2]
    exact (ih.cons a).trans (.swap _ _ _)
theorem ins_rise {S : List Sp} (h : Rising S) (c : Nat) (id : Int) : Rising (insS S (firstN c S) ⟨id, c⟩) := by
  apply pair_rising
  have hp := rising_pair h
  unfold insS
  rw [List.pairwise_append]
  have h1 : ∀ a ∈ S.take (firstN c S), a.c < c := by
    intro a ha
    have := firstN_split (c := c) hp
    exact this.1 a ha
  have h2 : ∀ a ∈ S.drop (firstN c S), c ≤ a.c := by
    intro a ha
    exact (firstN_split (c := c) hp).2 a ha
  refine ⟨hp.sublist (List.take_sublist _ _), List.pairwise_cons.2 ⟨fun a ha => h2 a ha, hp.sublist (List.drop_sublist _ _)⟩, ?_⟩
  intro a ha b hb
  have := h1 a ha
  rcases List.mem_cons.1 hb with rfl | hb
  · exact Nat.le_of_lt this
  · have := h2 b hb; omega
theorem ahead_split {id : Int} : ∀ {L : List Mk}, L.Pairwise (fun a b => a.id < b.id) → (∀ a ∈ L.take (ahead id L), a.id < id) ∧ (∀ a ∈ L.drop (ahead id L), id ≤ a.id)
  | [], _ => ⟨by simp, by simp⟩
  | a :: l, h => by
    obtain ⟨ha, hl⟩ := List.pairwise_cons.1 h
    have ih := ahead_split (id := id) hl
    by_cases hq : a.id < id
    · have e : ahead id (a :: l) = ahead id l + 1 := by simp [ahead, hq]
      rw [e, List.take_succ_cons, List.drop_succ_cons]
      exact ⟨fun b hb => by rcases List.mem_cons.1 hb with rfl | hb; exact hq; exact ih.1 b hb, ih.2⟩
    · have e : ahead id (a :: l) = 0 := by simp [ahead, hq]
      rw [e]
      refine ⟨by simp, fun b hb => ?_⟩
      rcases List.mem_cons.1 hb with rfl | hb
      · omega
      · have := ha b hb; omega
theorem ins_ids {L : List Mk} (h : L.Pairwise (fun a b => a.id < b.id)) {id x y : Int} (hn : ¬ 0 ≤ rfI id L) : (insS L (ahead id L) ⟨id, x, y⟩).Pairwise (fun a b => a.id < b.id) := by
  obtain ⟨h1, h2⟩ := ahead_split (id := id) h
  unfold insS
  rw [List.pairwise_append]
  have h3 : ∀ a ∈ L.drop (ahead id L), id < a.id := fun a ha => by
    have := h2 a ha
    have hne : a.id ≠ id := fun e => hn (rf_mem.2 ⟨a, List.mem_of_mem_drop ha, e⟩)
    omega
  refine ⟨h.sublist (List.take_sublist _ _), List.pairwise_cons.2 ⟨fun a ha => h3 a ha, h.sublist (List.drop_sublist _ _)⟩, ?_⟩
  intro a ha b hb
  have := h1 a ha
  rcases List.mem_cons.1 hb with rfl | hb
  · exact this
  · have := h3 b hb; omega
theorem Sim.add {S : List Sp} {L : List Mk} (h : Sim S L) {id : Int} {x y : Nat} (hx : x < 64) (hy : y < 64) (hn : ¬ 0 ≤ rfI id L) : Sim (addS id x y S) (insS L (ahead id L) ⟨id, x, y⟩) := by
  obtain ⟨e1, e2, e3⟩ := plain_xy hx hy
  refine ⟨?_, ins_rise h.rise _ _, fun p hp => ?_, ins_ids h.ids hn⟩
  · refine ((insS_perm S _ _).map Sp.m).trans (List.Perm.trans ?_ (insS_perm L _ _).symm)
    show (Sp.m ⟨id, weave x y⟩ :: S.map Sp.m).Perm _
    unfold Sp.m
    simp only
    rw [e1, e2]
    exact h.perm.cons _
  · rcases List.mem_cons.1 ((insS_perm S _ _).mem_iff.1 hp) with rfl | hp
    · exact e3
    · exact h.code p hp
theorem Sim.putE {S : List Sp} {L : List Mk} (h : Sim S L) (id x y : Int) : putE id x y S = rptE id x y L := by
  unfold Go.Proofs.YtildhbkcpehobaaGreatDoor.putE rptE
  simp only [h.find, h.len]
theorem Sim.put {S : List Sp} {L : List Mk} (h : Sim S L) (id x y : Int) : Sim (putS id x y S) (rptS id x y L) := by
  unfold putS rptS
  rw [h.putE]
  by_cases he : rptE id x y L = 0
  · rw [if_pos he, if_pos he]
    have hn : ¬ 0 ≤ rfI id L := fun hh => by
      unfold rptE at he
      rw [if_pos hh] at he
      split at he
      · cases he
      · split at he <;> cases he
    have ho : onB x y = true := by
      cases hq : onB x y
      · unfold rptE at he
        rw [if_pos hq] at he
        split at he <;> cases he
      · rfl
    obtain ⟨a, b, rfl, rfl, ha, hb⟩ := on_nat ho
    exact h.add ha hb hn
  · rw [if_neg he, if_neg he]
    exact h
/-- what is taken away of both -/
theorem Sim.del {S : List Sp} {L : List Mk} (h : Sim S L) {id : Int} (hf : 0 ≤ rfI id L) : Sim (delS S (findI id S).toNat) (delS L (rfI id L).toNat) := by
  have hf' := (h.find id).2 hf
  obtain ⟨a, ha, ea⟩ := find_get hf'
  obtain ⟨b, hb, eb⟩ := rf_get hf
  have pa := delS_perm ha
  have pb := delS_perm hb
  have hab : a.m = b := uniq h.ids (h.perm.mem_iff.1 (List.mem_map_of_mem (List.mem_of_getElem? ha))) (List.mem_of_getElem? hb) (by show a.id = b.id; rw [ea, eb])
  refine ⟨?_, delS_rising h.rise _, fun p hp => h.code p (pa.mem_iff.2 (List.mem_cons_of_mem _ hp)), ?_⟩
  · have := ((pa.map Sp.m).symm.trans h.perm).trans pb
    rw [List.map_cons, hab] at this
    exact this.cons_inv
  · exact h.ids.sublist (delS_sub L _)
theorem Sim.drpE {S : List Sp} {L : List Mk} (h : Sim S L) (id : Int) : drpE id S = rdrE id L := by
  unfold Go.Proofs.YtildhbkcpehobaaGreatDoor.drpE rdrE
  have := h.find id
  by_cases hq : rfI id L < 0
  · rw [if_pos hq, if_pos (by omega)]
  · rw [if_neg hq, if_neg (by omega)]
theorem Sim.drop {S : List Sp} {L : List Mk} (h : Sim S L) (id : Int) : Sim (drpS id S) (rdrS id L) := by
  unfold drpS rdrS
  have := h.find id
  by_cases hq : rfI id L < 0
  · rw [if_pos hq, if_pos (by omega)]; exact h
  · rw [if_neg hq, if_neg (by omega)]; exact h.del (by omega)
theorem Sim.movE {S : List Sp} {L : List Mk} (h : Sim S L) (id x y : Int) : movE id x y S = rmvE id x y L := by
  unfold Go.Proofs.YtildhbkcpehobaaGreatDoor.movE rmvE
  have := h.find id
  by_cases hq : rfI id L < 0
  · rw [if_pos hq, if_pos (by omega)]
  · rw [if_neg hq, if_neg (by omega)]
theorem setM_ids {L : List Mk} (h : L.Pairwise (fun a b => a.id < b.id)) (k : Nat) (x y : Int) : (setM L k x y).Pairwise (fun a b => a.id < b.id) := by
  have e : (setM L k x y).map Mk.id = L.map Mk.id := setM_map x y L k
  have h1 : (L.map Mk.id).Pairwise (· < ·) := List.pairwise_map.2 h
  rw [← e] at h1
  exact List.pairwise_map.1 h1
theorem Sim.move {S : List Sp} {L : List Mk} (h : Sim S L) (id x y : Int) : Sim (movS id x y S) (rmvS id x y L) := by
  unfold movS rmvS
  rw [h.movE]
  by_cases he : rmvE id x y L = 0
  · rw [if_pos he, if_pos he]
    have hf : 0 ≤ rfI id L := by
      unfold rmvE at he
      by_cases hq : rfI id L < 0
      · rw [if_pos hq] at he; cases he
      · omega
    have ho : onB x y = true := by
      cases hq : onB x y
      · unfold rmvE at he
        rw [if_pos hq] at he
        split at he <;> cases he
      · rfl
    obtain ⟨a, b, rfl, rfl, ha, hb⟩ := on_nat ho
    obtain ⟨t, ht, et⟩ := rf_get hf
    have hd := h.del hf
    have hn : ¬ 0 ≤ rfI id (delS L (rfI id L).toNat) := by
      rw [rf_mem]
      rintro ⟨u, hu, eu⟩
      have pb := delS_perm ht
      have hnd : (t :: delS L (rfI id L).toNat).Pairwise (fun a b => a.id ≠ b.id) := (pb.pairwise_iff (fun h => h.symm)).1 (h.ids.imp (fun h => by omega))
      exact (List.pairwise_cons.1 hnd).1 u hu (by rw [et, eu])
    have hs := hd.add (id := id) ha hb hn
    refine ⟨hs.perm.trans ?_, hs.rise, hs.code, setM_ids h.ids _ _ _⟩
    refine (insS_perm _ _ _).trans ?_
    have := setM_perm ht (x := a) (y := b)
    rw [et] at this
    exact this.symm
  · rw [if_neg he, if_neg he]
    exact h
theorem Sim.at {S : List Sp} {L : List Mk} (h : Sim S L) (id : Int) : atX id S = ratX id L ∧ atY id S = ratY id L ∧ atB id S = ratB id L := by
  unfold atX atY atB ratX ratY ratB
  have hf := h.find id
  by_cases hq : rfI id L < 0
  · rw [if_pos hq, if_pos (by omega), if_pos (by omega), if_pos hq]
    refine ⟨rfl, rfl, ?_⟩
    rw [Bool.eq_iff_iff, decide_eq_true_iff, decide_eq_true_iff]; exact hf
  · obtain ⟨a, ha, ea⟩ := find_get (hf.2 (by omega))
    obtain ⟨b, hb, eb⟩ := rf_get (show 0 ≤ rfI id L by omega)
    have hab : a.m = b := uniq h.ids (h.perm.mem_iff.1 (List.mem_map_of_mem (List.mem_of_getElem? ha))) (List.mem_of_getElem? hb) (by show a.id = b.id; rw [ea, eb])
    rw [if_neg hq, if_neg (by omega), if_neg (by omega), if_neg hq, ha, hb, ← hab]
    refine ⟨rfl, rfl, ?_⟩
    rw [Bool.eq_iff_iff, decide_eq_true_iff, decide_eq_true_iff]; exact hf
theorem rin_sorted {L : List Mk} (h : L.Pairwise (fun a b => a.id < b.id)) (r : Rc) : (rinL L r).Pairwise (· < ·) := by
  unfold rinL
  rw [List.pairwise_map]
  exact h.filter _
theorem Sim.in {S : List Sp} {L : List Mk} (h : Sim S L) (r : Rc) : inL S r = rinL L r := by
  refine inL_perm h.rise h.code r ?_ ((rin_sorted h.ids r).imp (fun h => Int.le_of_lt h))
  unfold idsOf rinL
  have := (h.perm.filter fun m => inB r m.x m.y).map Mk.id
  rw [List.filter_map, List.map_map] at this
  exact this
theorem rdp_ge (L : List Mk) : ∀ k r d, d ≤ rdp L k r d
  | 0, r, d => Nat.le_refl _
  | k + 1, r, d => by
    unfold rdp
    split
    · omega
    · omega
/-- how deep it is from a square on, k levels being left -/
def dpS (S : List Sp) : Nat → Sq → Nat
  | 0, s => s.d
  | k + 1, s => if splB S s then max (max (max (dpS S k (partQ s 3)) (dpS S k (partQ s 2))) (dpS S k (partQ s 1))) (dpS S k (partQ s 0)) else s.d
theorem maxD_from (T : List Sq) (a : Nat) : T.foldl (fun a s => max a s.d) a = max a (maxD T) := by
  unfold maxD
  induction T generalizing a with
  | nil => simp
  | cons s T ih =>
    rw [List.foldl_cons, List.foldl_cons, ih, ih (max 0 s.d)]
    omega
theorem maxD_append (T U : List Sq) : maxD (T ++ U) = max (maxD T) (maxD U) := by
  conv => lhs; unfold maxD
  rw [List.foldl_append, maxD_from]
  rfl
theorem maxD_one (s : Sq) : maxD [s] = s.d := by simp [maxD]
theorem gat_small {c : Nat} (hc : c < 4096) : gat c < 64 := by
  refine Nat.lt_pow_two_of_testBit (n := 6) _ fun j hj => ?_
  rw [gat_bit]
  have : c.testBit (2 * j) = false := lt_bit (n := 12) hc (by omega)
  rw [this]; simp
theorem okA_b {s : Sq} (h : okA s) : s.b < 4096 ∧ s.d ≤ 4 := by
  obtain ⟨hd, q, hq, hl⟩ := h
  have := sq_small hd hl
  have := Nat.two_pow_pos (2 * (6 - s.d))
  rw [hq]
  exact ⟨by omega, hd⟩
theorem rectS_on {s : Sq} (h : okA s) : 0 ≤ (rectS s).x0 ∧ (rectS s).x0 < 64 ∧ 0 ≤ (rectS s).y0 ∧ (rectS s).y0 < 64 ∧ (rectS s).x1 = (rectS s).x0 + (sideN s.d : Nat) ∧ (rectS s).y1 = (rectS s).y0 + (sideN s.d : Nat) := by
  obtain ⟨hb, hd⟩ := okA_b h
  have h1 := gat_small hb
  have h2 := gat_small (show s.b / 2 < 4096 by omega)
  refine ⟨?_, ?_, ?_, ?_, rfl, rfl⟩
  all_goals
    unfold rectS plX plY
    simp only
    omega
theorem side_pos {d : Nat} (h : d ≤ 4) : 4 ≤ sideN d ∧ sideN d ≤ 64 := by
  rcases five h with rfl | rfl | rfl | rfl | rfl <;> decide
theorem miss_whole {s : Sq} (h : okA s) : missB ⟨0, 0, 64, 64⟩ s = false := by
  obtain ⟨h1, h2, h3, h4, h5, h6⟩ := rectS_on h
  have hs := side_pos (okA_b h).2
  have : emptyB ⟨max (rectS s).x0 0, max (rectS s).y0 0, min (rectS s).x1 64, min (rectS s).y1 64⟩ = false := by
    rw [h5, h6]
    simp [emptyB]
    omega
  unfold missB meetR
  simp only
  rw [this]
  simpa using this
theorem depth_lvs {S : List Sp} : ∀ (k : Nat) (s : Sq), okA s → s.d + k = 4 → maxD (lvs S ⟨0, 0, 64, 64⟩ k s) = dpS S k s
  | 0, s, ho, hk => by
    unfold lvs dpS
    rw [miss_whole ho]
    exact maxD_one s
  | k + 1, s, ho, hk => by
    unfold lvs dpS
    rw [miss_whole ho]
    have ih := fun i (hi : i < 4) => depth_lvs (S := S) k (partQ s i) (okA_part ho (by omega) hi) (by show s.d + 1 + k = 4; omega)
    by_cases hs : splB S s = true
    · rw [if_pos hs, if_neg (by simp), if_pos hs, maxD_append, maxD_append, maxD_append, ih 0 (by decide), ih 1 (by decide), ih 2 (by decide), ih 3 (by decide)]
      omega
    · rw [if_neg hs, if_neg (by simp), if_neg hs]
      exact maxD_one s
theorem side_half {d : Nat} (h : d ≤ 3) : sideN d = 2 * sideN (d + 1) := by
  rcases (show d = 0 ∨ d = 1 ∨ d = 2 ∨ d = 3 by omega) with rfl | rfl | rfl | rfl <;> rfl
theorem part_gat : ∀ d, d < 4 → ∀ q, q < 64 → ∀ i, i < 4 → (gat (q * 2 ^ (2 * (6 - d)) + i * (sideN (d + 1) * sideN (d + 1))) = gat (q * 2 ^ (2 * (6 - d))) + i % 2 * sideN (d + 1) ∧ gat ((q * 2 ^ (2 * (6 - d)) + i * (sideN (d + 1) * sideN (d + 1))) / 2) = gat (q * 2 ^ (2 * (6 - d)) / 2) + i / 2 * sideN (d + 1)) := by decide +kernel
/-- the quarters' rectangles -/
theorem part_rect {s : Sq} (h : okA s) (hd : s.d ≤ 3) {i : Nat} (hi : i < 4) : rectS (partQ s i) = qR (rectS s) i := by
  obtain ⟨_, q, hq, hl⟩ := h
  have hq64 : q < 64 := by
    have : (4 : Nat) ^ s.d ≤ 4 ^ 3 := Nat.pow_le_pow_right (by decide) hd
    have e : (4 : Nat) ^ 3 = 64 := rfl
    omega
  obtain ⟨g1, g2⟩ := part_gat s.d (by omega) q hq64 i hi
  have hs := side_half hd
  have e0 : (partQ s i).b = q * 2 ^ (2 * (6 - s.d)) + i * (sideN (s.d + 1) * sideN (s.d + 1)) := by unfold partQ qN; simp only; rw [hq]
  have ex : gat (partQ s i).b = gat s.b + i % 2 * sideN (s.d + 1) := by rw [e0, hq]; exact g1
  have ey : gat ((partQ s i).b / 2) = gat (s.b / 2) + i / 2 * sideN (s.d + 1) := by rw [e0, hq]; exact g2
  have hh : (((gat s.b : Nat) : Int) + (sideN s.d : Nat) - (gat s.b : Nat)) / 2 = (sideN (s.d + 1) : Nat) := by rw [hs]; omega
  have ed : (partQ s i).d = s.d + 1 := rfl
  unfold rectS qR plX plY
  simp only
  rw [ex, ey, ed, hh]
  simp only [Int.natCast_add, Int.natCast_mul]
theorem count_wth {S : List Sp} (hR : Rising S) (s : Sq) : (wth S s).length = S.countP fun a => inQ s a.c := by
  rw [wth_filter s S (rising_pair hR), List.countP_eq_length_filter]
theorem Sim.count {S : List Sp} {L : List Mk} (h : Sim S L) {s : Sq} (ho : okA s) : (wth S s).length = (rinL L (rectS s)).length := by
  rw [count_wth h.rise, rinL, List.length_map, ← List.countP_eq_length_filter, ← h.perm.countP_eq, List.countP_map]
  apply List.countP_congr
  intro a ha
  rw [in_square ho (h.code a ha)]
  rfl
theorem Sim.deep {S : List Sp} {L : List Mk} (h : Sim S L) : ∀ (k : Nat) (s : Sq), okA s → s.d + k = 4 → dpS S k s = rdp L k (rectS s) s.d
  | 0, s, ho, hk => rfl
  | k + 1, s, ho, hk => by
    have hc := h.count ho
    unfold dpS rdp
    have ih := fun i (hi : i < 4) => h.deep k (partQ s i) (okA_part ho (by omega) hi) (by show s.d + 1 + k = 4; omega)
    by_cases hq : (rinL L (rectS s)).length ≤ 4
    · have hs : splB S s = false := by
        unfold splB
        rw [hc]
        simp; omega
      rw [hs, if_pos hq]
      rfl
    · have hs : splB S s = true := by
        unfold splB
        rw [hc]
        simp; omega
      rw [hs, if_neg hq, if_pos rfl, ih 0 (by decide), ih 1 (by decide), ih 2 (by decide), ih 3 (by decide)]
      rw [part_rect ho (by omega) (by decide), part_rect ho (by omega) (by decide), part_rect ho (by omega) (by decide), part_rect ho (by omega) (by decide)]
      have ge : s.d ≤ rdp L k (qR (rectS s) 0) (s.d + 1) := by
        have := rdp_ge L k (qR (rectS s) 0) (s.d + 1); omega
      have e : ∀ i, (partQ s i).d = s.d + 1 := fun i => rfl
      rw [e, e, e, e]
      omega
theorem Sim.depth {S : List Sp} {L : List Mk} (h : Sim S L) : depN S = rdp L 4 ⟨0, 0, 64, 64⟩ 0 := by
  unfold depN lv
  rw [show (4 - (⟨0, 0⟩ : Sq).d) = 4 from rfl, depth_lvs 4 ⟨0, 0⟩ okA_root rfl, h.deep 4 ⟨0, 0⟩ okA_root rfl, root_rect]
end Go.Proofs.YtildhbkcpehobaaGreatDoor
