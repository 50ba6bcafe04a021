/- Plain: what makes a note none; rows that are copied and lengthened, as laws. -/
import Derived.Test.YtpedngbjpbeanaaDoorNtC
import Derived.Test.YtpedngbjpbeanaaDoorNtB
import Derived.Test.YtpedngbjpbeanaaDoorNtD
import Derived.Test.YtpedngbjpbeanaaDoorNtQ
import Derived.Deep.RegionLaw
import Derived.Maps.AppendAt
import Derived.Lib.AppendZeros
import Derived.Deep.AppendLies
namespace Go.Proofs.YtpedngbjpbeanaaDoor
open Go.RowKit
set_option linter.unusedVariables false
theorem handsR_mono {fr : Int} : ∀ (l : List Hd) (last : Int), handsR fr 3 last l = true → handsR fr 4 last l = true
  | [], _, _ => rfl
  | a :: l, last, h => by
    rw [handsR, Bool.and_eq_true] at h ⊢
    refine ⟨?_, handsR_mono l a.c h.2⟩
    have h1 := h.1
    unfold handG belB at h1 ⊢
    simp only [Bool.and_eq_true, decide_eq_true_eq] at h1 ⊢
    exact ⟨⟨h1.1.1, h1.1.2.1, by omega⟩, h1.2⟩
theorem isN_three {n : Nt} (h : isN n 3 = true) : isN n 4 = true ∧ n.fr < 3 ∧ 0 ≤ n.be := by
  unfold isN at h ⊢
  rw [show min (3 : Int) 4 = 3 from rfl] at h
  rw [show min (4 : Int) 4 = 4 from rfl]
  simp only [Bool.and_eq_true] at h ⊢
  obtain ⟨h1, h2, h3, h4⟩ := h
  unfold belB at h2 h3 ⊢
  simp only [Bool.and_eq_true, decide_eq_true_eq] at h2 h3 ⊢
  exact ⟨⟨handsR_mono _ _ h1, ⟨h2.1, by omega⟩, h3, h4⟩, h2.2, h3.1⟩
theorem isN_parts {n : Nt} {k : Int} (h : isN n k = true) : handsR n.fr (min k 4) (-1) n.ha = true ∧ belB n.fr (min k 4) = true ∧ belB n.be 1073741825 = true ∧ (∀ t ∈ n.mo, isT t = true) ∧ (∀ t ∈ n.gi, isT t = true) ∧ (∀ c ∈ n.wa, goodC c = true) := by
  unfold isN at h
  simp only [Bool.and_eq_true] at h
  obtain ⟨h1, h2, h3, h4, h5, h6⟩ := h
  unfold standB at h4 h5
  unfold watB at h6
  simp only [Bool.and_eq_true, List.all_eq_true] at h4 h5 h6
  exact ⟨h1, h2, h3, fun t ht => (standR_mem _ _ h4.2 t ht).1, fun t ht => (standR_mem _ _ h5.2 t ht).1, h6.2⟩
theorem not_isN {n : Nt} {k : Int} (h : isN n k = true → False) : isN n k = false := by
  cases e : isN n k with
  | false => rfl
  | true => exact (h e).elim
def sp0 (n : Nt) : Nt := ⟨3, n.be, n.mo, n.ha, n.gi, n.wa⟩
def sp1 (n : Nt) : Nt := ⟨n.fr, -1, n.mo, n.ha, n.gi, n.wa⟩
def sp2 (n : Nt) (u : Int) : Nt := ⟨n.fr, n.be, n.mo, n.ha ++ [⟨16, u⟩], n.gi, n.wa⟩
def sp3 (n : Nt) : Nt := ⟨n.fr, n.be, n.mo, n.ha ++ [⟨15, n.fr⟩], n.gi, n.wa⟩
def spC : Cm := ⟨1, 0, 0, 0, 0, 0, zF, zF, zF, zF, zF, 0, 0, 0, 0, 0, 0⟩
def sp4 (n : Nt) : Nt := ⟨n.fr, n.be, n.mo, n.ha, n.gi, n.wa ++ [spC]⟩
def spA : Th := ⟨-1, 0, 0, zF, zF, zF, zF⟩
def spB : Th := ⟨1000000, 64, 0, zF, zF, zF, zF⟩
def sp5 (n : Nt) : Nt := ⟨n.fr, n.be, n.mo ++ [spA], n.ha, n.gi, n.wa⟩
def sp6 (n : Nt) : Nt := ⟨n.fr, n.be, n.mo, n.ha, n.gi ++ [spB], n.wa⟩
theorem spA_no : isT spA = false := by kernel_rfl
theorem spB_no : isT spB = false := by kernel_rfl
theorem spC_no : goodC spC = false := by kernel_rfl
theorem sp0_no (n : Nt) : isN (sp0 n) 3 = false := not_isN fun h => by
  have := (isN_parts h).2.1
  have e : belB 3 (min 3 4) = false := by decide
  exact absurd (this.symm.trans e) (by simp)
theorem sp1_no (n : Nt) : isN (sp1 n) 3 = false := not_isN fun h => by
  have := (isN_parts h).2.2.1
  have e : belB (-1) 1073741825 = false := by decide
  exact absurd (this.symm.trans e) (by simp)
theorem sp2_no (n : Nt) (u : Int) : isN (sp2 n u) 3 = false := not_isN fun h => by
  have := (handsR_mem _ _ (isN_parts h).1 ⟨16, u⟩ (by simp [sp2])).1
  revert this
  unfold isC
  simp
theorem sp3_no (n : Nt) : isN (sp3 n) 3 = false := not_isN fun h => (handsR_mem _ _ (isN_parts h).1 ⟨15, n.fr⟩ (by simp [sp3])).2.2.1 rfl
theorem sp4_no (n : Nt) : isN (sp4 n) 3 = false := not_isN fun h => by
  have := (isN_parts h).2.2.2.2.2 spC (by simp [sp4])
  rw [spC_no] at this
  cases this
theorem sp5_no (n : Nt) : isN (sp5 n) 3 = false := not_isN fun h => by
  have := (isN_parts h).2.2.2.1 spA (by simp [sp5])
  rw [spA_no] at this
  cases this
theorem sp6_no (n : Nt) : isN (sp6 n) 3 = false := not_isN fun h => by
  have := (isN_parts h).2.2.2.2.1 spB (by simp [sp6])
  rw [spB_no] at this
  cases this
theorem ne_of_isN {n m : Nt} (h : isN n 3 = true) (h2 : isN m 3 = false) : ¬ n = m := fun e => by
  rw [e, h2] at h
  cases h
section
variable {P : Program} {w : World}
theorem run_copy (base : Nat) (t ty e : TypeId) (i : TypeInfo) (z : Value) (size bytes : Nat) (ht : P.underlying t = some (.slice e)) (hi : P.info? e = some i) (hz : i.zero = some z)
    (hsize : i.size = size) (hby : i.bytes = bytes) (hzs : z.cells.size = size) (hsz : 0 < size)
    (p : Option Addr) (m c : Nat) (news : List Value) (hl : news.length = m * size) (hnews : ∀ ad, p = some ad → ∀ j u, news[j]? = some u → w.cell? (ad.add j) = some u) (h1 : ∀ u ∈ news, u.oneCell' = true) (hnil : p = none → m = 0 ∧ c = 0)
    (h63 : m ≤ maxLen) (hbytes : m * bytes ≤ 140737488355328) (hbase : base ≤ w.heap.size) :
    ∃ p' c' w', (Builtin.append_ #[t, t] ty #[.slice none 0 0, .slice p m c]).run P w = .ok (.slice p' m c') w' ∧ w'.ownsRow base e size (.slice p' m c') m news ∧ w.grownBy w' none ∧ (∀ g, (Value.slice p' m c').ownBlock = some g → w.heap.size ≤ g) := by
  cases p with
  | none =>
    obtain ⟨rfl, rfl⟩ := hnil rfl
    rw [Nat.zero_mul] at hl
    obtain rfl := List.eq_nil_of_length_eq_zero hl
    exact ⟨none, 0, w, run_append_owned_none w base t ty e i size ht hi _ 0 [] (World.ownsRow_nil _ _ _ _), World.ownsRow_nil _ _ _ _, ⟨rfl, rfl, rfl, Nat.le_refl _, fun _ _ _ => rfl⟩, fun g h => by simp [Value.ownBlock] at h⟩
  | some ad =>
    obtain ⟨v', w', hr, h2, h3, _, h5⟩ := run_append_own_at (P := P) w base t ty e i z size bytes ht hi hz hsize hby hzs hsz (.slice none 0 0) 0 [] (World.ownsRow_nil _ _ _ _) ad m c news hl (hnews ad rfl) h1 (by omega) (by rw [Nat.zero_add]; exact hbytes) hbase
    rw [Nat.zero_add, List.nil_append] at h2
    obtain ⟨p2, c2, rfl⟩ := owns_slice h2
    refine ⟨p2, c2, w', hr, h2, h3, fun g hg => ?_⟩
    rcases h5 with h5 | h5
    · rw [h5] at hg; simp [Value.ownBlock] at hg
    · rw [h5] at hg
      have := Option.some.inj hg
      omega
theorem step_copy {ops : Array Oper} {o : Oper} {a : Act} {K : Act → World → Prop} {Q : Exit → Act → World → Prop} {E : Prop} (hgd : o.guard = none) (s x : Operand) (t : TypeId)
    (ho : o.op = .call { callee := .builtin .append, args := #[s, x], argTypes := #[t, t] })
    (base : Nat) (e : TypeId) (i : TypeInfo) (z : Value) (size bytes : Nat) (ht : P.underlying t = some (.slice e)) (hi : P.info? e = some i) (hz : i.zero = some z)
    (hsize : i.size = size) (hby : i.bytes = bytes) (hzs : z.cells.size = size) (hsz : 0 < size) (hs : a.eval s = .slice none 0 0)
    (p : Option Addr) (m c : Nat) (news : List Value) (hx : a.eval x = .slice p m c) (hl : news.length = m * size) (hnews : ∀ ad, p = some ad → ∀ j u, news[j]? = some u → w.cell? (ad.add j) = some u) (h1 : ∀ u ∈ news, u.oneCell' = true) (hnil : p = none → m = 0 ∧ c = 0)
    (h63 : m ≤ maxLen) (hbytes : m * bytes ≤ 140737488355328) (hbase : base ≤ w.heap.size)
    (h : ∀ p' c' w', w'.ownsRow base e size (.slice p' m c') m news → w.grownBy w' none → (∀ g, (Value.slice p' m c').ownBlock = some g → w.heap.size ≤ g) → K (a.put o.dst (.slice p' m c')) w') :
    if Region.wanted o (yielded ops a.tmps) = true then Oper.wp P o a w K Q else E := by
  rw [if_pos (by simp [Region.wanted, hgd])]
  obtain ⟨p', c', w', hr, h2, h3, h4⟩ := run_copy (P := P) base t o.type e i z size bytes ht hi hz hsize hby hzs hsz p m c news hl hnews h1 hnil h63 hbytes hbase
  exact Lib.wp_append_run w s x t t ho _ _ hs hx _ _ hr (h p' c' w' h2 h3 h4)
theorem wpList_copy {ops : Array Oper} {rest : List Oper} {o : Oper} {a : Act} {Q : Exit → Act → World → Prop} (hgd : o.guard = none) (s x : Operand) (t : TypeId)
    (ho : o.op = .call { callee := .builtin .append, args := #[s, x], argTypes := #[t, t] })
    (base : Nat) (e : TypeId) (i : TypeInfo) (z : Value) (size bytes : Nat) (ht : P.underlying t = some (.slice e)) (hi : P.info? e = some i) (hz : i.zero = some z)
    (hsize : i.size = size) (hby : i.bytes = bytes) (hzs : z.cells.size = size) (hsz : 0 < size) (hs : a.eval s = .slice none 0 0)
    (p : Option Addr) (m c : Nat) (news : List Value) (hx : a.eval x = .slice p m c) (hl : news.length = m * size) (hnews : ∀ ad, p = some ad → ∀ j u, news[j]? = some u → w.cell? (ad.add j) = some u) (h1 : ∀ u ∈ news, u.oneCell' = true) (hnil : p = none → m = 0 ∧ c = 0)
    (h63 : m ≤ maxLen) (hbytes : m * bytes ≤ 140737488355328) (hbase : base ≤ w.heap.size)
    (h : ∀ p' c' w', w'.ownsRow base e size (.slice p' m c') m news → w.grownBy w' none → (∀ g, (Value.slice p' m c').ownBlock = some g → w.heap.size ≤ g) → wpList P ops Q rest (a.put o.dst (.slice p' m c')) w') : wpList P ops Q (o :: rest) a w := by
  obtain ⟨p', c', w', hr, h2, h3, h4⟩ := run_copy (P := P) base t o.type e i z size bytes ht hi hz hsize hby hzs hsz p m c news hl hnews h1 hnil h63 hbytes hbase
  exact Lib.wpList_append_run w hgd s x t t ho _ _ hs hx _ _ hr (h p' c' w' h2 h3 h4)
end
theorem news_row {α : Type} {cs : α → List Value} {z : Nat} (hz : ∀ a, (cs a).length = z) {w : World} {p : Option Addr} {L : List α} (h : RowG cs z w p L) (ad : Addr) (hp : p = some ad) : ∀ j u, (flatG cs L)[j]? = some u → w.cell? (ad.add j) = some u := by
  intro j u hu
  rcases h with h | ⟨b, off, h, hc⟩
  · subst h
    simp [flatG] at hu
  · obtain rfl := Option.some.inj (hp.symm.trans h)
    have hlt := (List.getElem?_eq_some_iff.1 hu).1
    rw [flatG_length hz] at hlt
    have z0 : 0 < z := by
      rcases Nat.eq_zero_or_pos z with e | e
      · subst e; omega
      · exact e
    have hk : j / z < L.length := Nat.div_lt_of_lt_mul (by rw [Nat.mul_comm]; exact hlt)
    obtain ⟨a, ha⟩ := get_some L (j / z) hk
    have hr : j % z < z := Nat.mod_lt _ z0
    have hj : j / z * z + j % z = j := by rw [Nat.mul_comm]; exact Nat.div_add_mod j z
    have e1 := flatG_get hz L (j / z) a ha (j % z) hr
    rw [hj, hu] at e1
    have := hc _ a ha _ u e1.symm
    rw [Nat.add_assoc, hj] at this
    have hadd : (⟨b, off, none⟩ : Addr).add j = ⟨b, off + j, none⟩ := by unfold Addr.add; split <;> simp_all
    rw [hadd]
    exact this
theorem rowG_T {w : World} {p : Option Addr} {L : List Th} (h : RowT w p L) : RowG Th.cs 11 w p L := by
  rcases h with h | ⟨b, off, h, hc⟩
  · exact .inl h
  · refine .inr ⟨b, off, h, fun k t hk j u hu => ?_⟩
    have := hc k t hk
    obtain ⟨h0, h1, h2, h3, h4, h5, h6, h7, h8, h9, h10⟩ := this
    match j, hu with
    | 0, hu => cases hu; exact h0
    | 1, hu => cases hu; exact h1
    | 2, hu => cases hu; exact h2
    | 3, hu => cases hu; exact h3
    | 4, hu => cases hu; exact h4
    | 5, hu => cases hu; exact h5
    | 6, hu => cases hu; exact h6
    | 7, hu => cases hu; exact h7
    | 8, hu => cases hu; exact h8
    | 9, hu => cases hu; exact h9
    | 10, hu => cases hu; exact h10
    | j + 11, hu => simp [Th.cs] at hu
theorem all_one {α : Type} {cs : α → List Value} (h : ∀ a, ∀ u ∈ cs a, u.oneCell' = true) (L : List α) : ∀ u ∈ flatG cs L, u.oneCell' = true := by
  intro u hu
  obtain ⟨a, _, hu⟩ := List.mem_flatMap.1 hu
  exact h a u hu
theorem news_hd {w : World} {p : Option Addr} {L : List Hd} (h : RowG Hd.cs 2 w p L) : ∀ w', Below w.heap.size w w' → ∀ ad, p = some ad → ∀ j u, (flatG Hd.cs L)[j]? = some u → w'.cell? (ad.add j) = some u := fun w' hb ad hp => news_row Hd.z (h.later hb) ad hp
theorem news_th {w : World} {p : Option Addr} {L : List Th} (h : RowT w p L) : ∀ w', Below w.heap.size w w' → ∀ ad, p = some ad → ∀ j u, (flatT L)[j]? = some u → w'.cell? (ad.add j) = some u := fun w' hb ad hp => news_row (cs := Th.cs) (z := 11) (fun _ => rfl) (rowG_T (h.later hb)) ad hp
theorem news_cm {w : World} {p : Option Addr} {L : List Cm} (h : RowM w p L) : ∀ w', Below w.heap.size w w' → ∀ ad, p = some ad → ∀ j u, (flatM L)[j]? = some u → w'.cell? (ad.add j) = some u := fun w' hb ad hp => news_row (cs := Cm.cs) (z := 22) cs_len (show RowG Cm.cs 22 w' p L from h.later hb) ad hp
end Go.Proofs.YtpedngbjpbeanaaDoor
