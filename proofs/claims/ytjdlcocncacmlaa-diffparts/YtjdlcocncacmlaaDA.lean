/- Plain facts on what changed between two rows that rise, of no program: who is seen, which events; folded upon what was seen ahead they make what is seen now; parts of the rows, taken apart; a rectangle that moves; all and nothing seen. Plain facts on what changed between two rows that rise: folded upon what was seen ahead it is what is seen now; each event is one, rising; parts of the rows, taken apart; a rectangle that moves; all and nothing seen. -/
import Derived.Test.YtjdlcocncacmlaaEA
namespace Go.Proofs.Ytjdlcocncacmlaa
section
open Go.RowKit
set_option linter.unusedVariables false
def seenL (r : Rc) (L : List Th) : List Th := L.filter (fun t => inB r t.x t.y)
theorem seen_take {r : Rc} {L : List Th} {k : Nat} {t : Th} (h : L[k]? = some t) : seenL r (L.take (k + 1)) = if inB r t.x t.y = true then seenL r (L.take k) ++ [t] else seenL r (L.take k) := by
  unfold seenL
  rw [List.take_add_one, h, Option.toList_some, List.filter_append]
  by_cases e : inB r t.x t.y = true
  · rw [if_pos e]; simp [e]
  · rw [if_neg e]; simp [e]
theorem seen_len (r : Rc) (L : List Th) : (seenL r L).length ≤ L.length := List.length_filter_le _ _
theorem seen_rise {r : Rc} {L : List Th} (h : Rise L) : Rise (seenL r L) := h.filter _
theorem seen_mem {r : Rc} {L : List Th} {t : Th} (h : t ∈ seenL r L) : t ∈ L := (List.mem_filter.1 h).1
theorem seen_good {r : Rc} {L : List Th} (h : GoodR L) : GoodR (seenL r L) := ⟨seen_rise h.rise, fun t ht => h.is t (seen_mem ht), fun t ht => h.fit t (seen_mem ht)⟩
theorem seen_append (r : Rc) (L M : List Th) : seenL r (L ++ M) = seenL r L ++ seenL r M := List.filter_append _ _
def enE (b : Th) : Ev := ⟨1, b.id, b, zD⟩
def leE (a : Th) : Ev := ⟨3, a.id, zT, zD⟩
def upE (a b : Th) : List Ev := if (diff a b).2 = true then [⟨2, (diff a b).1.id, zT, (diff a b).1⟩] else []
def mrg (a : Th) (f : List Th → List Ev) : List Th → List Ev
  | [] => leE a :: f []
  | b :: B => if a.id < b.id then leE a :: f (b :: B) else if b.id < a.id then enE b :: mrg a f B else upE a b ++ f B
/-- what changed -/
def doO : List Th → List Th → List Ev
  | [], B => B.map enE
  | a :: A, B => mrg a (doO A) B
theorem doO_n : doO [] [] = [] := rfl
theorem doO_e0 (b : Th) (B : List Th) : doO [] (b :: B) = enE b :: doO [] B := rfl
theorem doO_l0 (a : Th) (A : List Th) : doO (a :: A) [] = leE a :: doO A [] := rfl
theorem doO_l {a b : Th} (A B : List Th) (h : a.id < b.id) : doO (a :: A) (b :: B) = leE a :: doO A (b :: B) := by
  show mrg a (doO A) (b :: B) = _
  unfold mrg; rw [if_pos h]
theorem doO_e {a b : Th} (A B : List Th) (h : b.id < a.id) : doO (a :: A) (b :: B) = enE b :: doO (a :: A) B := by
  show mrg a (doO A) (b :: B) = enE b :: mrg a (doO A) B
  rw [mrg, if_neg (by omega), if_pos h]
theorem doO_u {a b : Th} (A B : List Th) (h : a.id = b.id) : doO (a :: A) (b :: B) = upE a b ++ doO A B := by
  show mrg a (doO A) (b :: B) = _
  rw [mrg, if_neg (by omega), if_neg (by omega)]
theorem upE_yes {a b : Th} {d : Dl} (h : diff a b = (d, true)) : upE a b = [⟨2, d.id, zT, d⟩] := by unfold upE; rw [h]; rfl
theorem upE_no {a b : Th} {d : Dl} (h : diff a b = (d, false)) : upE a b = [] := by unfold upE; rw [h]; rfl
theorem two_ind {P : List Th → List Th → Prop} (h0 : P [] []) (he0 : ∀ b B, P [] B → P [] (b :: B)) (hl0 : ∀ a A, P A [] → P (a :: A) [])
    (hl : ∀ a A b B, a.id < b.id → P A (b :: B) → P (a :: A) (b :: B)) (he : ∀ a A b B, b.id < a.id → P (a :: A) B → P (a :: A) (b :: B)) (hu : ∀ a A b B, a.id = b.id → P A B → P (a :: A) (b :: B)) : ∀ A B, P A B := by
  intro A
  induction A with
  | nil =>
    intro B
    induction B with
    | nil => exact h0
    | cons b B ih => exact he0 b B ih
  | cons a A ihA =>
    intro B
    induction B with
    | nil => exact hl0 a A (ihA [])
    | cons b B ihB =>
      by_cases h1 : a.id < b.id
      · exact hl a A b B h1 (ihA _)
      · by_cases h2 : b.id < a.id
        · exact he a A b B h2 ihB
        · exact hu a A b B (by omega) (ihA _)
theorem upE_len (a b : Th) : (upE a b).length ≤ 1 := by
  unfold upE; split <;> simp
theorem doO_len (A B : List Th) : (doO A B).length ≤ A.length + B.length := by
  refine two_ind (P := fun A B => (doO A B).length ≤ A.length + B.length) ?_ ?_ ?_ ?_ ?_ ?_ A B
  · simp [doO_n]
  · intro b B h; rw [doO_e0]; simp only [List.length_cons, List.length_nil] at h ⊢; omega
  · intro a A h; rw [doO_l0]; simp only [List.length_cons, List.length_nil] at h ⊢; omega
  · intro a A b B e h; rw [doO_l _ _ e]; simp only [List.length_cons] at h ⊢; omega
  · intro a A b B e h; rw [doO_e _ _ e]; simp only [List.length_cons] at h ⊢; omega
  · intro a A b B e h; rw [doO_u _ _ e, List.length_append]; have := upE_len a b; simp only [List.length_cons] at h ⊢; omega
theorem diff_self (a : Th) : diff a a = (zD, false) := by
  have : (dK a a 4).m = 0 := by
    rw [dK4]
    simp [ne0, neF, pEq, eqF_self, msk]
  unfold diff
  rw [if_pos this]
theorem upE_self (a : Th) : upE a a = [] := upE_no (diff_self a)
theorem doO_self : ∀ A : List Th, doO A A = []
  | [] => rfl
  | a :: A => by rw [doO_u _ _ rfl, upE_self, List.nil_append]; exact doO_self A
theorem diff_id {a b : Th} {d : Dl} (h : diff a b = (d, true)) : d.id = b.id := by
  rw [(diff_yes h).1, dK4]
theorem upE_mem {a b : Th} {e : Ev} (h : e ∈ upE a b) : ∃ d, diff a b = (d, true) ∧ e = ⟨2, d.id, zT, d⟩ ∧ d.id = b.id := by
  obtain ⟨d, q, hd⟩ : ∃ d q, diff a b = (d, q) := ⟨_, _, rfl⟩
  cases q
  · rw [upE_no hd] at h; simp at h
  · rw [upE_yes hd] at h
    exact ⟨d, hd, by simpa using h, diff_id hd⟩
theorem isE_en {b : Th} (h : isT b = true) : isE (enE b) = true := by
  rw [isE_1 rfl, Bool.and_eq_true]
  exact ⟨h, eqE_self _⟩
theorem isE_le {a : Th} (h : isT a = true) : isE (leE a) = true := by
  obtain ⟨h0, h1, -⟩ := isT_small h
  rw [isE_3 rfl, Bool.and_eq_true, Bool.and_eq_true, decide_eq_true_eq, decide_eq_true_eq]
  exact ⟨h0, h1, eqE_self _⟩
theorem isF_z : isF zF = true := by decide +kernel
theorem diff_isD {a b : Th} {d : Dl} (hb : isT b = true) (h : diff a b = (d, true)) : isD d = true := by
  have h' := hb
  rw [isT_eq] at h'
  simp only [Bool.and_eq_true, decide_eq_true_eq] at h'
  obtain ⟨⟨⟨⟨⟨⟨i0, i1⟩, o⟩, g0⟩, g1⟩, g2⟩, g3⟩ := h'
  obtain ⟨e, hm⟩ := diff_yes h
  have hm31 := diff_m h
  rw [dK4] at e
  have b0 := msk_bits (ne0 a b) (neF a.f0 b.f0) (neF a.f1 b.f1) (neF a.f2 b.f2) (neF a.f3 b.f3)
  have hz : onB 0 0 = true := by decide
  have hmm : d.m = msk (ne0 a b) (neF a.f0 b.f0) (neF a.f1 b.f1) (neF a.f2 b.f2) (neF a.f3 b.f3) := by rw [e]
  rw [← hmm] at b0
  clear h hmm
  have e' := e
  clear hb
  unfold isD
  have k4 : (List.range 4).all (fun k => isF (d.f k) && (d.m.testBit (k + 1) || eqF (d.f k) zF)) = (isF d.f0 && (d.m.testBit 1 || eqF d.f0 zF) && (isF d.f1 && (d.m.testBit 2 || eqF d.f1 zF)) && (isF d.f2 && (d.m.testBit 3 || eqF d.f2 zF)) && (isF d.f3 && (d.m.testBit 4 || eqF d.f3 zF))) := by
    simp [List.range, List.range.loop, Dl.f, Bool.and_assoc]
  rw [k4, b0.1, b0.2.1, b0.2.2.1, b0.2.2.2.1, b0.2.2.2.2]
  have hid : d.id = b.id := by rw [e]
  have hx : d.x = bif ne0 a b then b.x else 0 := by rw [e]
  have hy : d.y = bif ne0 a b then b.y else 0 := by rw [e]
  have h0 : d.f0 = bif neF a.f0 b.f0 then b.f0 else zF := by rw [e]
  have h1 : d.f1 = bif neF a.f1 b.f1 then b.f1 else zF := by rw [e]
  have h2 : d.f2 = bif neF a.f2 b.f2 then b.f2 else zF := by rw [e]
  have h3 : d.f3 = bif neF a.f3 b.f3 then b.f3 else zF := by rw [e]
  clear e e' b0 k4
  rw [hid, hx, hy, h0, h1, h2, h3]
  generalize ne0 a b = n0
  generalize neF a.f0 b.f0 = n1
  generalize neF a.f1 b.f1 = n2
  generalize neF a.f2 b.f2 = n3
  generalize neF a.f3 b.f3 = n4
  have t1 : (decide (1 ≤ d.m)) = true := by simp; omega
  have t2 : (decide (d.m ≤ 31)) = true := by simp; omega
  have t0 : (decide (0 ≤ b.id)) = true := by simp; omega
  have t3 : (decide (b.id ≤ 1000000)) = true := by simp; omega
  have tz : isF zF = true := isF_z
  have te : eqF zF zF = true := eqF_self _
  have tp : pEq 0 0 0 0 = true := by decide
  have A : ∀ (n : Bool) (f : Fl), isF f = true → (isF (bif n then f else zF) && (n || eqF (bif n then f else zF) zF)) = true := fun n f hf => by cases n <;> simp [hf, tz, te]
  have B : (onB (bif n0 then b.x else 0) (bif n0 then b.y else 0) && (n0 || pEq (bif n0 then b.x else 0) (bif n0 then b.y else 0) 0 0)) = true := by cases n0 <;> simp [o, hz, tp]
  rw [t0, t1, t2, t3, A n1 _ g0, A n2 _ g1, A n3 _ g2, A n4 _ g3]
  simp only [Bool.true_and, Bool.and_true]
  rw [Bool.and_eq_true] at B
  rw [B.1, B.2]; rfl
theorem isE_up {d : Dl} (h : isD d = true) : isE ⟨2, d.id, zT, d⟩ = true := by
  rw [isE_2 rfl, Bool.and_eq_true]
  exact ⟨h, eqE_self _⟩
end
section
open Go.RowKit
set_option linter.unusedVariables false
theorem mid_out {D A : List Th} {a : Th} (h : Rise (D ++ a :: A)) : outT a.id (D ++ a :: A) = D ++ A := by
  have hp := (out_perm h (List.mem_append_right D List.mem_cons_self)).symm.trans List.perm_middle
  exact th_eq hp.cons_inv (out_rise h) (h.sublist (List.Sublist.append (List.Sublist.refl _) (List.sublist_cons_self a A)))
theorem mid_wit {D A : List Th} {b : Th} (h : Rise (D ++ b :: A)) (hn : outT b.id (D ++ A) = D ++ A) : witT b (D ++ A) = D ++ b :: A := by
  have hr : Rise (D ++ A) := h.sublist (List.Sublist.append (List.Sublist.refl _) (List.sublist_cons_self b A))
  unfold witT
  rw [hn]
  refine th_eq ((ins_perm b (D ++ A)).trans List.perm_middle.symm) (ins_rising hr ?_) h
  intro x hx
  rw [← hn] at hx
  exact (out_mem.1 hx).2
theorem mid_wit2 {D A : List Th} {a b : Th} (h : Rise (D ++ a :: A)) (e : a.id = b.id) : witT b (D ++ a :: A) = D ++ b :: A := by
  have h2 : Rise (D ++ b :: A) := by
    obtain ⟨h0, h1, h3⟩ := List.pairwise_append.1 h
    obtain ⟨h4, h5⟩ := List.pairwise_cons.1 h1
    refine List.pairwise_append.2 ⟨h0, List.pairwise_cons.2 ⟨fun x hx => by rw [← e]; exact h4 x hx, h5⟩, fun x hx y hy => ?_⟩
    rcases List.mem_cons.1 hy with rfl | hy
    · rw [← e]; exact h3 x hx a List.mem_cons_self
    · exact h3 x hx y (List.mem_cons_of_mem _ hy)
  have ho := mid_out h
  unfold witT
  rw [← e, ho]
  refine th_eq ((ins_perm b (D ++ A)).trans List.perm_middle.symm) (ins_rising (h.sublist (List.Sublist.append (List.Sublist.refl _) (List.sublist_cons_self a A))) ?_) h2
  intro x hx
  rw [← ho] at hx
  rw [← e]
  exact (out_mem.1 hx).2
theorem rise_more {D A B : List Th} {b : Th} (hA : Rise (D ++ A)) (hB : Rise (D ++ b :: B)) (h : ∀ a ∈ A, b.id < a.id) : Rise (D ++ b :: A) := by
  obtain ⟨h0, h1, h3⟩ := List.pairwise_append.1 hA
  obtain ⟨k0, k1, k3⟩ := List.pairwise_append.1 hB
  refine List.pairwise_append.2 ⟨h0, List.pairwise_cons.2 ⟨h, h1⟩, fun x hx y hy => ?_⟩
  rcases List.mem_cons.1 hy with rfl | hy
  · exact k3 x hx _ List.mem_cons_self
  · exact h3 x hx y hy
theorem has_mid {D A : List Th} {a : Th} : hasT a.id (D ++ a :: A) = true := has_iff.2 ⟨a, List.mem_append_right D List.mem_cons_self, rfl⟩
theorem has_new {D A : List Th} {b : Th} (h : Rise (D ++ b :: A)) : hasT b.id (D ++ A) = false := by
  by_cases e : hasT b.id (D ++ A) = true
  · obtain ⟨x, hx, hxe⟩ := has_iff.1 e
    obtain ⟨h0, h1, h3⟩ := List.pairwise_append.1 h
    obtain ⟨h4, h5⟩ := List.pairwise_cons.1 h1
    rcases List.mem_append.1 hx with hx | hx
    · have := h3 x hx b List.mem_cons_self; omega
    · have := h4 x hx; omega
  · simpa using e
theorem fold_cons {L A M : List Th} {e : Ev} {es : List Ev} (h : doE A e = (M, true)) : foS L A (e :: es) = foS L M es := by
  have := foS_step (L := L) (A := A) (M := M) (es := e :: es) (k := 0) (e := e) rfl h
  simpa using this
/-- folded upon what was, it is what is now -/
theorem fold_doO (L : List Th) : ∀ A B D : List Th, Rise (D ++ A) → Rise (D ++ B) → (∀ t ∈ A, isT t = true) → (∀ t ∈ B, isT t = true) → foS L (D ++ A) (doO A B) = (D ++ B, true) := by
  have step : ∀ D X Y b B, Rise (D ++ X) → Rise (D ++ b :: B) → (∀ a ∈ X, b.id < a.id) → isT b = true → Y = doO X B → foS L (D ++ X) (enE b :: Y) = foS L ((D ++ [b]) ++ X) Y := by
    intro D X Y b B hX hB hlt hb hY
    have hr := rise_more hX hB hlt
    have hn := has_new hr
    have hd : doE (D ++ X) (enE b) = (witT b (D ++ X), true) := doE_1 (isE_en hb) rfl hn
    rw [mid_wit hr (out_no hn)] at hd
    rw [fold_cons hd]
    simp
  have leave : ∀ D a X Y, Rise (D ++ a :: X) → isT a = true → foS L (D ++ a :: X) (leE a :: Y) = foS L (D ++ X) Y := by
    intro D a X Y h ha
    have hd : doE (D ++ a :: X) (leE a) = (outT a.id (D ++ a :: X), true) := doE_3 (isE_le ha) rfl has_mid
    rw [mid_out h] at hd
    exact fold_cons hd
  have lessR : ∀ {D X : List Th} {a : Th}, Rise (D ++ a :: X) → Rise (D ++ X) := fun h => h.sublist (List.Sublist.append (List.Sublist.refl _) (List.sublist_cons_self _ _))
  have toR : ∀ {D X : List Th} {a : Th}, Rise (D ++ a :: X) → Rise ((D ++ [a]) ++ X) := fun h => by simpa using h
  intro A B
  refine two_ind (P := fun A B => ∀ D : List Th, Rise (D ++ A) → Rise (D ++ B) → (∀ t ∈ A, isT t = true) → (∀ t ∈ B, isT t = true) → foS L (D ++ A) (doO A B) = (D ++ B, true)) ?_ ?_ ?_ ?_ ?_ ?_ A B
  · intro D _ _ _ _; rfl
  · intro b B ih D hA hB tA tB
    rw [doO_e0, step D [] _ b B hA hB (by simp) (tB b List.mem_cons_self) rfl, ih (D ++ [b]) (by simpa using hB.sublist (List.Sublist.append (List.Sublist.refl D) (List.singleton_sublist.2 List.mem_cons_self))) (toR hB) (by simp) (fun t ht => tB t (List.mem_cons_of_mem _ ht))]
    simp
  · intro a A ih D hA hB tA tB
    rw [doO_l0, leave D a A _ hA (tA a List.mem_cons_self)]
    exact ih D (lessR hA) hB (fun t ht => tA t (List.mem_cons_of_mem _ ht)) tB
  · intro a A b B e ih D hA hB tA tB
    rw [doO_l _ _ e, leave D a A _ hA (tA a List.mem_cons_self)]
    exact ih D (lessR hA) hB (fun t ht => tA t (List.mem_cons_of_mem _ ht)) tB
  · intro a A b B e ih D hA hB tA tB
    have hlt : ∀ x ∈ a :: A, b.id < x.id := by
      intro x hx
      obtain ⟨-, h1, -⟩ := List.pairwise_append.1 hA
      rcases List.mem_cons.1 hx with rfl | hx
      · exact e
      · have := (List.pairwise_cons.1 h1).1 x hx; omega
    rw [doO_e _ _ e, step D (a :: A) _ b B hA hB hlt (tB b List.mem_cons_self) rfl]
    have := ih (D ++ [b]) (toR (rise_more hA hB hlt)) (toR hB) tA (fun t ht => tB t (List.mem_cons_of_mem _ ht))
    rw [this]
    simp
  · intro a A b B e ih D hA hB tA tB
    have hs : foS L (D ++ a :: A) (upE a b ++ doO A B) = foS L (D ++ b :: A) (doO A B) := by
      obtain ⟨d, q, hd⟩ : ∃ d q, diff a b = (d, q) := ⟨_, _, rfl⟩
      cases q
      · rw [upE_no hd, List.nil_append, diff_no e hd]
      · rw [upE_yes hd]
        have hi := diff_id hd
        have hh : hasT d.id (D ++ a :: A) = true := by rw [hi, ← e]; exact has_mid
        have hx := doE_2 (e := ⟨2, d.id, zT, d⟩) (isE_up (diff_isD (tB b List.mem_cons_self) hd)) rfl hh
        have ha : atT d.id (D ++ a :: A) = a := by
          have h2 := (atT_at hA hh).2
          exact rise_uniq hA h2.2 (List.mem_append_right D List.mem_cons_self) (by rw [h2.1, hi, e])
        simp only [ha] at hx
        rw [diff_apply e hd, mid_wit2 hA e] at hx
        exact fold_cons hx
    have h2 : Rise (D ++ b :: A) := by
      have := wit_rise (t := b) hA
      rwa [mid_wit2 hA e] at this
    rw [doO_u _ _ e, hs]
    have := ih (D ++ [b]) (toR h2) (toR hB) (fun t ht => tA t (List.mem_cons_of_mem _ ht)) (fun t ht => tB t (List.mem_cons_of_mem _ ht))
    simp only [List.append_assoc, List.cons_append, List.nil_append] at this
    exact this
theorem foE_doO {A B : List Th} (hA : GoodR A) (hB : GoodR B) : foE A (doO A B) = (B, true) := by
  have := fold_doO A A B [] (by simpa using hA.rise) (by simpa using hB.rise) hA.is hB.is
  simpa [foE] using this
/- each is one -/
theorem doO_isE {A B : List Th} : (∀ t ∈ A, isT t = true) → (∀ t ∈ B, isT t = true) → ∀ e ∈ doO A B, isE e = true := by
  refine two_ind (P := fun A B => (∀ t ∈ A, isT t = true) → (∀ t ∈ B, isT t = true) → ∀ e ∈ doO A B, isE e = true) ?_ ?_ ?_ ?_ ?_ ?_ A B
  · intro _ _ e he; simp [doO_n] at he
  · intro b B ih hA hB e he
    rw [doO_e0] at he
    rcases List.mem_cons.1 he with rfl | he
    · exact isE_en (hB b List.mem_cons_self)
    · exact ih hA (fun t ht => hB t (List.mem_cons_of_mem _ ht)) e he
  · intro a A ih hA hB e he
    rw [doO_l0] at he
    rcases List.mem_cons.1 he with rfl | he
    · exact isE_le (hA a List.mem_cons_self)
    · exact ih (fun t ht => hA t (List.mem_cons_of_mem _ ht)) hB e he
  · intro a A b B h ih hA hB e he
    rw [doO_l _ _ h] at he
    rcases List.mem_cons.1 he with rfl | he
    · exact isE_le (hA a List.mem_cons_self)
    · exact ih (fun t ht => hA t (List.mem_cons_of_mem _ ht)) hB e he
  · intro a A b B h ih hA hB e he
    rw [doO_e _ _ h] at he
    rcases List.mem_cons.1 he with rfl | he
    · exact isE_en (hB b List.mem_cons_self)
    · exact ih hA (fun t ht => hB t (List.mem_cons_of_mem _ ht)) e he
  · intro a A b B h ih hA hB e he
    rw [doO_u _ _ h] at he
    rcases List.mem_append.1 he with he | he
    · obtain ⟨d, hd, rfl, -⟩ := upE_mem he
      exact isE_up (diff_isD (hB b List.mem_cons_self) hd)
    · exact ih (fun t ht => hA t (List.mem_cons_of_mem _ ht)) (fun t ht => hB t (List.mem_cons_of_mem _ ht)) e he
theorem doO_inE {A B : List Th} : (∀ t ∈ A, inT t) → (∀ t ∈ B, inT t) → ∀ e ∈ doO A B, inE e := by
  have hup : ∀ a b : Th, inT b → ∀ e ∈ upE a b, inE e := by
    intro a b hb e he
    obtain ⟨d, hd, rfl, -⟩ := upE_mem he
    refine ⟨inT_z, ?_⟩
    have hm := diff_m hd
    obtain ⟨e, -⟩ := diff_yes hd
    rw [dK4] at e
    have z0 : inF zF := ⟨by decide, by decide, by decide⟩
    have hc : ∀ (n : Bool) (f : Fl), inF f → inF (bif n then f else zF) := fun n f hf => by cases n; exact z0; exact hf
    refine ⟨by show d.m < 256; omega, ?_, ?_, ?_, ?_⟩ <;> rw [e]
    · exact hc _ _ hb.1
    · exact hc _ _ hb.2.1
    · exact hc _ _ hb.2.2.1
    · exact hc _ _ hb.2.2.2
  refine two_ind (P := fun A B => (∀ t ∈ A, inT t) → (∀ t ∈ B, inT t) → ∀ e ∈ doO A B, inE e) ?_ ?_ ?_ ?_ ?_ ?_ A B
  · intro _ _ e he; simp [doO_n] at he
  · intro b B ih hA hB e he
    rw [doO_e0] at he
    rcases List.mem_cons.1 he with rfl | he
    · exact ⟨hB b List.mem_cons_self, inD_z⟩
    · exact ih hA (fun t ht => hB t (List.mem_cons_of_mem _ ht)) e he
  · intro a A ih hA hB e he
    rw [doO_l0] at he
    rcases List.mem_cons.1 he with rfl | he
    · exact ⟨inT_z, inD_z⟩
    · exact ih (fun t ht => hA t (List.mem_cons_of_mem _ ht)) hB e he
  · intro a A b B h ih hA hB e he
    rw [doO_l _ _ h] at he
    rcases List.mem_cons.1 he with rfl | he
    · exact ⟨inT_z, inD_z⟩
    · exact ih (fun t ht => hA t (List.mem_cons_of_mem _ ht)) hB e he
  · intro a A b B h ih hA hB e he
    rw [doO_e _ _ h] at he
    rcases List.mem_cons.1 he with rfl | he
    · exact ⟨hB b List.mem_cons_self, inD_z⟩
    · exact ih hA (fun t ht => hB t (List.mem_cons_of_mem _ ht)) e he
  · intro a A b B h ih hA hB e he
    rw [doO_u _ _ h] at he
    rcases List.mem_append.1 he with he | he
    · exact hup a b (hB b List.mem_cons_self) e he
    · exact ih (fun t ht => hA t (List.mem_cons_of_mem _ ht)) (fun t ht => hB t (List.mem_cons_of_mem _ ht)) e he
/- they rise -/
theorem doO_above {A B : List Th} {m : Int} : (∀ t ∈ A, m < t.id) → (∀ t ∈ B, m < t.id) → ∀ e ∈ doO A B, m < e.i := by
  refine two_ind (P := fun A B => (∀ t ∈ A, m < t.id) → (∀ t ∈ B, m < t.id) → ∀ e ∈ doO A B, m < e.i) ?_ ?_ ?_ ?_ ?_ ?_ A B
  · intro _ _ e he; simp [doO_n] at he
  · intro b B ih hA hB e he
    rw [doO_e0] at he
    rcases List.mem_cons.1 he with rfl | he
    · exact hB b List.mem_cons_self
    · exact ih hA (fun t ht => hB t (List.mem_cons_of_mem _ ht)) e he
  · intro a A ih hA hB e he
    rw [doO_l0] at he
    rcases List.mem_cons.1 he with rfl | he
    · exact hA a List.mem_cons_self
    · exact ih (fun t ht => hA t (List.mem_cons_of_mem _ ht)) hB e he
  · intro a A b B h ih hA hB e he
    rw [doO_l _ _ h] at he
    rcases List.mem_cons.1 he with rfl | he
    · exact hA a List.mem_cons_self
    · exact ih (fun t ht => hA t (List.mem_cons_of_mem _ ht)) hB e he
  · intro a A b B h ih hA hB e he
    rw [doO_e _ _ h] at he
    rcases List.mem_cons.1 he with rfl | he
    · exact hB b List.mem_cons_self
    · exact ih hA (fun t ht => hB t (List.mem_cons_of_mem _ ht)) e he
  · intro a A b B h ih hA hB e he
    rw [doO_u _ _ h] at he
    rcases List.mem_append.1 he with he | he
    · obtain ⟨d, hd, rfl, hi⟩ := upE_mem he
      show m < d.id
      rw [hi]; exact hB b List.mem_cons_self
    · exact ih (fun t ht => hA t (List.mem_cons_of_mem _ ht)) (fun t ht => hB t (List.mem_cons_of_mem _ ht)) e he
theorem doO_rise {A B : List Th} : Rise A → Rise B → (doO A B).Pairwise (fun x y => x.i < y.i) := by
  refine two_ind (P := fun A B => Rise A → Rise B → (doO A B).Pairwise (fun x y => x.i < y.i)) ?_ ?_ ?_ ?_ ?_ ?_ A B
  · intro _ _; rw [doO_n]; exact List.Pairwise.nil
  · intro b B ih hA hB
    obtain ⟨h0, h1⟩ := List.pairwise_cons.1 hB
    rw [doO_e0]
    exact List.pairwise_cons.2 ⟨doO_above (by simp) h0, ih hA h1⟩
  · intro a A ih hA hB
    obtain ⟨h0, h1⟩ := List.pairwise_cons.1 hA
    rw [doO_l0]
    exact List.pairwise_cons.2 ⟨doO_above h0 (by simp), ih h1 hB⟩
  · intro a A b B h ih hA hB
    obtain ⟨h0, h1⟩ := List.pairwise_cons.1 hA
    have h2 := (List.pairwise_cons.1 hB).1
    rw [doO_l _ _ h]
    refine List.pairwise_cons.2 ⟨doO_above h0 (fun x hx => ?_), ih h1 hB⟩
    rcases List.mem_cons.1 hx with rfl | hx
    · exact h
    · have := h2 x hx; show a.id < _; omega
  · intro a A b B h ih hA hB
    obtain ⟨h0, h1⟩ := List.pairwise_cons.1 hB
    have h2 := (List.pairwise_cons.1 hA).1
    rw [doO_e _ _ h]
    refine List.pairwise_cons.2 ⟨doO_above (fun x hx => ?_) h0, ih hA h1⟩
    rcases List.mem_cons.1 hx with rfl | hx
    · exact h
    · have := h2 x hx; show b.id < _; omega
  · intro a A b B h ih hA hB
    obtain ⟨h0, h1⟩ := List.pairwise_cons.1 hA
    obtain ⟨h2, h3⟩ := List.pairwise_cons.1 hB
    rw [doO_u _ _ h]
    refine List.pairwise_append.2 ⟨?_, ih h1 h3, fun x hx y hy => ?_⟩
    · unfold upE; split <;> simp
    · obtain ⟨d, hd, rfl, hi⟩ := upE_mem hx
      show d.id < y.i
      rw [hi]
      exact doO_above (fun t ht => by rw [← h]; exact h0 t ht) h2 y hy
/- taken apart -/
theorem doO_parts {A B A2 B2 : List Th} {k : Int} : (∀ t ∈ A, t.id < k) → (∀ t ∈ B, t.id < k) → (∀ t ∈ A2, k ≤ t.id) → (∀ t ∈ B2, k ≤ t.id) → doO (A ++ A2) (B ++ B2) = doO A B ++ doO A2 B2 := by
  refine two_ind (P := fun A B => (∀ t ∈ A, t.id < k) → (∀ t ∈ B, t.id < k) → (∀ t ∈ A2, k ≤ t.id) → (∀ t ∈ B2, k ≤ t.id) → doO (A ++ A2) (B ++ B2) = doO A B ++ doO A2 B2) ?_ ?_ ?_ ?_ ?_ ?_ A B
  · intro _ _ _ _; simp [doO_n]
  · intro b B ih hA hB h2 h3
    have := ih hA (fun t ht => hB t (List.mem_cons_of_mem _ ht)) h2 h3
    rw [List.nil_append] at this ⊢
    have hb := hB b List.mem_cons_self
    rw [doO_e0, List.cons_append, List.cons_append, ← this]
    cases A2 with
    | nil => exact doO_e0 _ _
    | cons a A2 => exact doO_e _ _ (by have := h2 a List.mem_cons_self; omega)
  · intro a A ih hA hB h2 h3
    have := ih (fun t ht => hA t (List.mem_cons_of_mem _ ht)) hB h2 h3
    rw [List.nil_append] at this ⊢
    have ha := hA a List.mem_cons_self
    rw [doO_l0, List.cons_append, List.cons_append, ← this]
    cases B2 with
    | nil => exact doO_l0 _ _
    | cons b B2 => exact doO_l _ _ (by have := h3 b List.mem_cons_self; omega)
  · intro a A b B h ih hA hB h2 h3
    have := ih (fun t ht => hA t (List.mem_cons_of_mem _ ht)) hB h2 h3
    rw [doO_l _ _ h]
    show doO (a :: (A ++ A2)) (b :: (B ++ B2)) = leE a :: (doO A (b :: B) ++ doO A2 B2)
    rw [← this, doO_l _ _ h]; rfl
  · intro a A b B h ih hA hB h2 h3
    have := ih hA (fun t ht => hB t (List.mem_cons_of_mem _ ht)) h2 h3
    rw [doO_e _ _ h]
    show doO (a :: (A ++ A2)) (b :: (B ++ B2)) = enE b :: (doO (a :: A) B ++ doO A2 B2)
    rw [← this, doO_e _ _ h]; rfl
  · intro a A b B h ih hA hB h2 h3
    have := ih (fun t ht => hA t (List.mem_cons_of_mem _ ht)) (fun t ht => hB t (List.mem_cons_of_mem _ ht)) h2 h3
    rw [doO_u _ _ h, List.append_assoc, ← this, List.cons_append, List.cons_append, doO_u _ _ h]
/- a rectangle that moves -/
theorem doO_lx {a : Th} {A B : List Th} (h : ∀ b ∈ B, a.id < b.id) : doO (a :: A) B = leE a :: doO A B := by
  cases B with
  | nil => exact doO_l0 _ _
  | cons b B => exact doO_l _ _ (h b List.mem_cons_self)
theorem doO_ex {b : Th} {A B : List Th} (h : ∀ a ∈ A, b.id < a.id) : doO A (b :: B) = enE b :: doO A B := by
  cases A with
  | nil => exact doO_e0 _ _
  | cons a A => exact doO_e _ _ (h a List.mem_cons_self)
def flip1 (p q : Rc) (t : Th) : List Ev := if inB p t.x t.y = inB q t.x t.y then [] else if inB p t.x t.y = true then [leE t] else [enE t]
theorem doO_flips {p q : Rc} : ∀ {L : List Th}, Rise L → doO (seenL p L) (seenL q L) = L.flatMap (flip1 p q)
  | [], _ => rfl
  | t :: L, h => by
    obtain ⟨h0, h1⟩ := List.pairwise_cons.1 h
    have ih := doO_flips (p := p) (q := q) h1
    have hs : ∀ r, ∀ b ∈ seenL r L, t.id < b.id := fun r b hb => h0 b (seen_mem hb)
    rw [List.flatMap_cons, ← ih]
    unfold flip1
    have e1 : ∀ r, inB r t.x t.y = true → seenL r (t :: L) = t :: seenL r L := fun r e => by unfold seenL; simp [e]
    have e2 : ∀ r, inB r t.x t.y = false → seenL r (t :: L) = seenL r L := fun r e => by unfold seenL; simp [e]
    cases hp : inB p t.x t.y <;> cases hq : inB q t.x t.y
    · rw [e2 _ hp, e2 _ hq]; simp
    · rw [e2 _ hp, e1 _ hq, doO_ex (hs p)]; simp
    · rw [e1 _ hp, e2 _ hq, doO_lx (hs q)]; simp
    · rw [e1 _ hp, e1 _ hq, doO_u _ _ rfl, upE_self]; simp
theorem flips_take {p q : Rc} {L : List Th} {k : Nat} {t : Th} (h : L[k]? = some t) : L.flatMap (flip1 p q) = (L.take k).flatMap (flip1 p q) ++ (flip1 p q t ++ (L.drop (k + 1)).flatMap (flip1 p q)) := by
  have hk : k < L.length := (List.getElem?_eq_some_iff.1 h).1
  have e : L = L.take k ++ (t :: L.drop (k + 1)) := by
    have := List.drop_eq_getElem_cons hk
    rw [(List.getElem?_eq_some_iff.1 h).2] at this
    rw [← this, List.take_append_drop]
  conv => lhs; rw [e]
  rw [List.flatMap_append, List.flatMap_cons]
theorem flips_step {p q : Rc} {L : List Th} {k : Nat} {t : Th} (h : L[k]? = some t) : (L.take (k + 1)).flatMap (flip1 p q) = (L.take k).flatMap (flip1 p q) ++ flip1 p q t := by
  rw [List.take_add_one, h, Option.toList_some, List.flatMap_append]
  simp
/- nothing seen, all seen -/
theorem seen_none (L : List Th) : seenL ⟨0, 0, 0, 0⟩ L = [] := by
  unfold seenL
  rw [List.filter_eq_nil_iff]
  intro t _
  simp [inB]
  try omega
theorem seen_all {L : List Th} (h : ∀ t ∈ L, isT t = true) : seenL ⟨0, 0, 64, 64⟩ L = L := by
  unfold seenL
  rw [List.filter_eq_self]
  intro t ht
  obtain ⟨-, -, h1, h2, h3, h4, -⟩ := isT_small (h t ht)
  simp [inB]
  omega
theorem doO_nil_l (B : List Th) : doO [] B = B.map enE := rfl
theorem doO_nil_r : ∀ A : List Th, doO A [] = A.map leE
  | [] => rfl
  | a :: A => by rw [doO_l0, doO_nil_r A]; rfl
end
end Go.Proofs.Ytjdlcocncacmlaa
