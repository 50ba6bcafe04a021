/- Notes, plain: hands, notes, who is one, their bytes, what is read. -/
import Derived.Test.YtpedngbjpbeanaaGreatDoorHB
import Derived.Test.YtpedngbjpbeanaaGreatDoorCH
import Derived.Test.YtpedngbjpbeanaaGreatDoorCG
import Derived.Test.YtpedngbjpbeanaaGreatDoorSA
namespace Go.Proofs.YtpedngbjpbeanaaGreatDoor
open Go.RowKit
set_option linter.unusedVariables false
/-- a hand: a cell, to whom -/
structure Hd where
  c : Int
  u : Int
def Hd.cs (h : Hd) : List Value := [.int .i64 h.c, .int .i64 h.u]
theorem Hd.z (h : Hd) : h.cs.length = 2 := rfl
abbrev Hd.v (h : Hd) : Value := .agg #[.int .i64 h.c, .int .i64 h.u]
abbrev Hd.o (h : Hd) : Obj := .cells #[.int .i64 h.c, .int .i64 h.u] 43 (0, 0)
def zH : Hd := ⟨0, 0⟩
/-- a note -/
structure Nt where
  fr : Int
  be : Int
  mo : List Th
  ha : List Hd
  gi : List Th
  wa : List Cm
def zN : Nt := ⟨0, 0, [], [], [], []⟩
/- who is one -/
def belB (n k : Int) : Bool := decide (0 ≤ n) && decide (n < k)
def handG (fr k last : Int) (h : Hd) : Bool := isC h.c && decide (last < h.c) && belB h.u k && !(h.u == fr)
def handsR (fr k : Int) : Int → List Hd → Bool
  | _, [] => true
  | last, h :: l => handG fr k last h && handsR fr k h.c l
def leftB (l : List Hd) (c : Nat) : Bool := l.any fun h => h.c == (c : Int)
def standG (f : Nat → Bool) (all : Bool) (last : Int) (t : Th) : Bool := (f (ofN t.x t.y) == all) && isT t && decide (last < t.id)
def standR (f : Nat → Bool) (all : Bool) : Int → List Th → Bool
  | _, [] => true
  | last, t :: l => standG f all last t && standR f all t.id l
def standB (f : Nat → Bool) (all : Bool) (L : List Th) : Bool := decide (L.length ≤ 200) && standR f all (-1) L
def goodC (c : Cm) : Bool := isCm c && watchB c.kd
def watB (L : List Cm) : Bool := decide (L.length ≤ 20) && L.all goodC
def isN (n : Nt) (k : Int) : Bool :=
  handsR n.fr (min k 4) (-1) n.ha && (belB n.fr (min k 4) && (belB n.be 1073741825 && (standB (leftB n.ha) false n.mo && (standB (leftB n.ha) true n.gi && watB n.wa))))
/- bytes -/
def handB (h : Hd) : List UInt8 := put h.c.toNat ++ put h.u.toNat
def cmB (c : Cm) : List UInt8 := toldL (partsP c.kd) c
def lstB {α : Type} (f : α → List UInt8) (L : List α) : List UInt8 := put L.length ++ L.flatMap f
def noteB (n : Nt) : List UInt8 := put n.fr.toNat ++ (put n.be.toNat ++ (lstB thB n.mo ++ (lstB handB n.ha ++ (lstB thB n.gi ++ lstB cmB n.wa))))
def bytesN (n : Nt) : List UInt8 × Nat := if isN n 4 = true then (if 40000 < (noteB n).length then ([], 13) else (wrap (noteB n), 0)) else ([], 11)
/- what is read -/
def rdI (l : List UInt8) : Int × Nat × Nat := (wrap64 (get l).1, (get l).2.1, (get l).2.2)
def rdF {α : Type} (rd : List UInt8 → α × Nat × Nat) (l : List UInt8) : Nat → Nat → List α → List α × Nat × Nat
  | 0, z, A => (A, z, 0)
  | k + 1, z, A => if (rd (l.drop z)).2.2 ≠ 0 then (A, 0, (rd (l.drop z)).2.2) else rdF rd l k (z + (rd (l.drop z)).2.1) (A ++ [(rd (l.drop z)).1])
def rdL {α : Type} (rd : List UInt8 → α × Nat × Nat) (l : List UInt8) : List α × Nat × Nat :=
  if (get l).2.2 ≠ 0 then ([], 0, (get l).2.2) else rdF rd l (get l).1 (get l).2.1 []
/-- part by part: what step i makes of what was read so far -/
def runP {σ : Type} (step : Nat → σ → List UInt8 → σ × Nat × Nat) (s : List UInt8) : List Nat → σ → Nat → σ × Nat × Nat
  | [], n, z => (n, z, 0)
  | i :: l, n, z => if (step i n (s.drop z)).2.2 ≠ 0 then ((step i n (s.drop z)).1, 0, (step i n (s.drop z)).2.2) else runP step s l (step i n (s.drop z)).1 (z + (step i n (s.drop z)).2.1)
def stepH (i : Nat) (h : Hd) (l : List UInt8) : Hd × Nat × Nat :=
  match i with
  | 0 => (⟨(rdI l).1, h.u⟩, (rdI l).2)
  | _ => (⟨h.c, (rdI l).1⟩, (rdI l).2)
def readH (s : List UInt8) : Hd × Nat × Nat := runP stepH s [0, 1] zH 0
def stepN (i : Nat) (n : Nt) (l : List UInt8) : Nt × Nat × Nat :=
  match i with
  | 0 => (⟨(rdI l).1, n.be, n.mo, n.ha, n.gi, n.wa⟩, (rdI l).2)
  | 1 => (⟨n.fr, (rdI l).1, n.mo, n.ha, n.gi, n.wa⟩, (rdI l).2)
  | 2 => (⟨n.fr, n.be, (rdL readT l).1, n.ha, n.gi, n.wa⟩, (rdL readT l).2)
  | 3 => (⟨n.fr, n.be, n.mo, (rdL readH l).1, n.gi, n.wa⟩, (rdL readH l).2)
  | 4 => (⟨n.fr, n.be, n.mo, n.ha, (rdL readT l).1, n.wa⟩, (rdL readT l).2)
  | _ => (⟨n.fr, n.be, n.mo, n.ha, n.gi, (rdL readC l).1⟩, (rdL readC l).2)
def readN (s : List UInt8) : Nt × Nat × Nat := runP stepN s [0, 1, 2, 3, 4, 5] zN 0
def readNt (s : List UInt8) : Nt × Nat × Nat :=
  if (unwrap s).2.2 ≠ 0 then (zN, 0, (unwrap s).2.2)
  else if (readN (unwrap s).1).2.2 ≠ 0 ∨ (bytesN (readN (unwrap s).1).1).1 ≠ s.take (unwrap s).2.1 then (zN, 0, 11)
  else ((readN (unwrap s).1).1, (unwrap s).2.1, 0)
/- what was told is read -/
theorem wrap64_of {x : Int} (h0 : 0 ≤ x) (h1 : x ≤ 9223372036854775807) : wrap64 x = x := by unfold wrap64; omega
theorem rdI_back {x : Int} (h0 : 0 ≤ x) (h1 : x ≤ 9223372036854775807) (R : List UInt8) : rdI (put x.toNat ++ R) = (x, (put x.toNat).length, 0) := by
  have hg := get_put x.toNat (by omega) R
  unfold rdI
  rw [hg]
  simp only
  rw [show ((x.toNat : Nat) : Int) = x by omega, wrap64_of h0 h1]
theorem rdF_back {α : Type} {rd : List UInt8 → α × Nat × Nat} {f : α → List UInt8} {l : List UInt8} : ∀ (L A : List α) (z : Nat) (R : List UInt8), (∀ a ∈ L, ∀ R, rd (f a ++ R) = (a, (f a).length, 0)) → l.drop z = L.flatMap f ++ R → rdF rd l L.length z A = (A ++ L, z + (L.flatMap f).length, 0)
  | [], A, z, R, h, hz => by simp [rdF]
  | a :: L, A, z, R, h, hz => by
    rw [List.flatMap_cons, List.append_assoc] at hz
    have h1 := h a (by simp) (L.flatMap f ++ R)
    have ih := rdF_back (l := l) L (A ++ [a]) (z + (f a).length) R (fun b hb => h b (by simp [hb])) (by rw [← List.drop_drop, hz, List.drop_left])
    rw [List.length_cons, rdF, hz, h1]
    simp only
    rw [if_neg (by simp), ih, List.flatMap_cons, List.length_append, Nat.add_assoc, List.append_assoc]
    rfl
theorem rdL_back {α : Type} {rd : List UInt8 → α × Nat × Nat} {f : α → List UInt8} {L : List α} (hl : L.length ≤ 18446744073709551615) (h : ∀ a ∈ L, ∀ R, rd (f a ++ R) = (a, (f a).length, 0)) (R : List UInt8) : rdL rd (lstB f L ++ R) = (L, (lstB f L).length, 0) := by
  have hg := get_put L.length hl (L.flatMap f ++ R)
  have e : lstB f L ++ R = put L.length ++ (L.flatMap f ++ R) := by unfold lstB; rw [List.append_assoc]
  unfold rdL
  rw [e, hg]
  simp only
  rw [if_neg (by simp), rdF_back L [] _ R h (by rw [List.drop_left])]
  unfold lstB
  rw [List.length_append]
  rfl
theorem runP_cons {σ : Type} {step : Nat → σ → List UInt8 → σ × Nat × Nat} {s : List UInt8} {i z k : Nat} {l : List Nat} {n m : σ} (h : step i n (s.drop z) = (m, k, 0)) : runP step s (i :: l) n z = runP step s l m (z + k) := by
  rw [runP, h]; rfl
theorem runP_bad {σ : Type} {step : Nat → σ → List UInt8 → σ × Nat × Nat} {s : List UInt8} {i z k e : Nat} {l : List Nat} {n m : σ} (h : step i n (s.drop z) = (m, k, e)) (he : ¬ e = 0) : runP step s (i :: l) n z = (m, 0, e) := by
  rw [runP, h]; simp only; rw [if_pos he]
def inH (h : Hd) : Prop := (0 ≤ h.c ∧ h.c ≤ 9223372036854775807) ∧ 0 ≤ h.u ∧ h.u ≤ 9223372036854775807
theorem readH_back {h : Hd} (hi : inH h) (R : List UInt8) : readH (handB h ++ R) = (h, (handB h).length, 0) := by
  obtain ⟨⟨c0, c1⟩, u0, u1⟩ := hi
  have e1 := rdI_back c0 c1 (put h.u.toNat ++ R)
  have e2 := rdI_back u0 u1 R
  unfold readH handB
  rw [List.append_assoc, runP_cons (i := 0) (m := ⟨h.c, 0⟩) (k := (put h.c.toNat).length) (by rw [List.drop_zero]; show (_, _) = _; rw [e1]; rfl)]
  rw [runP_cons (i := 1) (m := h) (k := (put h.u.toNat).length) (by rw [Nat.zero_add, List.drop_left]; show (_, _) = _; rw [e2])]
  simp [runP]
/- what comes in -/
/-- what lies in memory of a note fits -/
structure FitN (n : Nt) : Prop where
  mo : ∀ t ∈ n.mo, inT t
  gi : ∀ t ∈ n.gi, inT t
  wa : ∀ c ∈ n.wa, fitC c
theorem handsR_mem {fr k : Int} : ∀ (l : List Hd) (last : Int), handsR fr k last l = true → ∀ h ∈ l, isC h.c = true ∧ belB h.u k = true ∧ ¬ h.u = fr ∧ last < h.c
  | [], _, _, h, hm => by simp at hm
  | a :: l, last, h, b, hm => by
    rw [handsR, Bool.and_eq_true] at h
    obtain ⟨h1, h2⟩ := h
    unfold handG at h1
    simp only [Bool.and_eq_true, decide_eq_true_eq, Bool.not_eq_true', beq_eq_false_iff_ne] at h1
    rcases List.mem_cons.1 hm with rfl | hm
    · exact ⟨h1.1.1.1, h1.1.2, h1.2, h1.1.1.2⟩
    · obtain ⟨i1, i2, i3, i4⟩ := handsR_mem l a.c h2 b hm
      exact ⟨i1, i2, i3, by have := h1.1.1.2; omega⟩
theorem standR_mem {f : Nat → Bool} {all : Bool} : ∀ (l : List Th) (last : Int), standR f all last l = true → ∀ t ∈ l, isT t = true ∧ f (ofN t.x t.y) = all ∧ last < t.id
  | [], _, _, t, hm => by simp at hm
  | a :: l, last, h, t, hm => by
    rw [standR, Bool.and_eq_true] at h
    obtain ⟨h1, h2⟩ := h
    unfold standG at h1
    simp only [Bool.and_eq_true, decide_eq_true_eq, beq_iff_eq] at h1
    rcases List.mem_cons.1 hm with rfl | hm
    · exact ⟨h1.1.2, h1.1.1, h1.2⟩
    · obtain ⟨i1, i2, i3⟩ := standR_mem l a.id h2 t hm
      exact ⟨i1, i2, by have := h1.2; omega⟩
/-- what a note is that is one of four servers -/
structure GoodN (n : Nt) : Prop where
  fr : 0 ≤ n.fr ∧ n.fr < 4
  be : 0 ≤ n.be ∧ n.be ≤ 1073741824
  mo : n.mo.length ≤ 200 ∧ ∀ t ∈ n.mo, isT t = true
  ha : ∀ h ∈ n.ha, (0 ≤ h.c ∧ h.c < 16) ∧ 0 ≤ h.u ∧ h.u < 4
  gi : n.gi.length ≤ 200 ∧ ∀ t ∈ n.gi, isT t = true
  wa : n.wa.length ≤ 20 ∧ ∀ c ∈ n.wa, isCm c = true ∧ watchB c.kd = true
  hn : n.ha.length ≤ 16
theorem handsR_len {fr k : Int} : ∀ (l : List Hd) (last : Int), handsR fr k last l = true → -1 ≤ last → last ≤ 15 → (l.length : Int) ≤ 15 - last
  | [], last, _, h1, h2 => by simp; omega
  | a :: l, last, h, h1, h2 => by
    rw [handsR, Bool.and_eq_true] at h
    obtain ⟨g1, g2⟩ := h
    unfold handG isC at g1
    simp only [Bool.and_eq_true, decide_eq_true_eq] at g1
    have := handsR_len l a.c g2 (by omega) (by omega)
    rw [List.length_cons]
    omega
theorem good_of {n : Nt} (h : isN n 4 = true) : GoodN n := by
  unfold isN at h
  rw [show min (4 : Int) 4 = 4 from rfl] at h
  simp only [Bool.and_eq_true] at h
  obtain ⟨h1, h2, h3, h4, h5, h6⟩ := h
  unfold belB at h2 h3
  unfold standB at h4 h5
  unfold watB goodC at h6
  simp only [Bool.and_eq_true, decide_eq_true_eq, List.all_eq_true] at h2 h3 h4 h5 h6
  have hl := handsR_len n.ha (-1) h1 (by omega) (by omega)
  refine ⟨h2, by omega, ⟨h4.1, fun t ht => (standR_mem _ _ h4.2 t ht).1⟩, ?_, ⟨h5.1, fun t ht => (standR_mem _ _ h5.2 t ht).1⟩, h6, by omega⟩
  intro x hx
  obtain ⟨i1, i2, -, -⟩ := handsR_mem _ _ h1 x hx
  unfold isC at i1
  unfold belB at i2
  simp only [Bool.and_eq_true, decide_eq_true_eq] at i1 i2
  exact ⟨i1, i2⟩

theorem readN_back {n : Nt} (h : isN n 4 = true) (hf : FitN n) (R : List UInt8) : readN (noteB n ++ R) = (n, (noteB n).length, 0) := by
  obtain ⟨g1, g2, g3, g4, g5, g6, g7⟩ := good_of h
  obtain ⟨fr, be, mo, ha, gi, wa⟩ := n
  simp only at g1 g2 g3 g4 g5 g6 g7
  obtain ⟨f1, f2, f3⟩ := hf
  simp only at f1 f2 f3
  have e0 := fun R => rdI_back g1.1 (by omega) R
  have e1 := fun R => rdI_back g2.1 (by omega) R
  have e2 := fun R => rdL_back (rd := readT) (f := thB) (L := mo) (by omega) (fun t ht R => readT_back (g3.2 t ht) (f1 t ht) R) R
  have e3 := fun R => rdL_back (rd := readH) (f := handB) (L := ha) (by omega) (fun x hx R => readH_back (by obtain ⟨a, b⟩ := g4 x hx; exact ⟨⟨a.1, by omega⟩, b.1, by omega⟩) R) R
  have e4 := fun R => rdL_back (rd := readT) (f := thB) (L := gi) (by omega) (fun t ht R => readT_back (g5.2 t ht) (f2 t ht) R) R
  have e5 := fun R => rdL_back (rd := readC) (f := cmB) (L := wa) (by omega) (fun c hc R => read_backC (g6.2 c hc).1 (fit_nums (f3 c hc)) R) R
  unfold readN noteB
  simp only [List.append_assoc]
  generalize lstB cmB wa = E5 at e5 ⊢
  generalize lstB thB gi = E4 at e4 ⊢
  generalize lstB handB ha = E3 at e3 ⊢
  generalize lstB thB mo = E2 at e2 ⊢
  generalize put be.toNat = E1 at e1 ⊢
  generalize put fr.toNat = E0 at e0 ⊢
  rw [runP_cons (i := 0) (m := ⟨fr, 0, [], [], [], []⟩) (k := E0.length) (by rw [List.drop_zero]; show (_, _) = _; rw [e0]; rfl)]
  rw [runP_cons (i := 1) (m := ⟨fr, be, [], [], [], []⟩) (k := E1.length) (by rw [Nat.zero_add, List.drop_left]; show (_, _) = _; rw [e1])]
  rw [runP_cons (i := 2) (m := ⟨fr, be, mo, [], [], []⟩) (k := E2.length) (by rw [Nat.zero_add, ← List.drop_drop, List.drop_left, List.drop_left]; show (_, _) = _; rw [e2])]
  rw [runP_cons (i := 3) (m := ⟨fr, be, mo, ha, [], []⟩) (k := E3.length) (by rw [Nat.zero_add, ← List.drop_drop, ← List.drop_drop, List.drop_left, List.drop_left, List.drop_left]; show (_, _) = _; rw [e3])]
  rw [runP_cons (i := 4) (m := ⟨fr, be, mo, ha, gi, []⟩) (k := E4.length) (by rw [Nat.zero_add, ← List.drop_drop, ← List.drop_drop, ← List.drop_drop, List.drop_left, List.drop_left, List.drop_left, List.drop_left]; show (_, _) = _; rw [e4])]
  rw [runP_cons (i := 5) (m := ⟨fr, be, mo, ha, gi, wa⟩) (k := E5.length) (by rw [Nat.zero_add, ← List.drop_drop, ← List.drop_drop, ← List.drop_drop, ← List.drop_drop, List.drop_left, List.drop_left, List.drop_left, List.drop_left, List.drop_left]; show (_, _) = _; rw [e5])]
  simp [runP, Nat.add_assoc]
theorem noteB_inj {n m : Nt} (hn : isN n 4 = true) (hm : isN m 4 = true) (fn : FitN n) (fm : FitN m) (h : noteB n = noteB m) : n = m := by
  have h1 := readN_back hn fn []
  have h2 := readN_back hm fm []
  rw [h, h2] at h1
  exact (congrArg Prod.fst h1).symm
theorem wrap_inj {a b : List UInt8} (ha : a.length ≤ 40000) (hb : b.length ≤ 40000) (h : wrap a = wrap b) : a = b := by
  have h1 := unwrap_wrap a [] ha
  have h2 := unwrap_wrap b [] hb
  rw [h, h2] at h1
  exact (congrArg Prod.fst h1).symm
/- of notes that are few -/
theorem flatN_len {α : Type} (f : α → List UInt8) (m : Nat) : ∀ (L : List α), (∀ a ∈ L, (f a).length ≤ m) → (L.flatMap f).length ≤ m * L.length
  | [], _ => by simp
  | a :: l, h => by
    rw [List.flatMap_cons, List.length_append, List.length_cons, Nat.mul_add]
    have := flatN_len f m l (fun b hb => h b (by simp [hb]))
    have := h a (by simp)
    omega
theorem handB_len (h : Hd) : (handB h).length ≤ 20 := by
  unfold handB
  rw [List.length_append]
  have := (put_length h.c.toNat).2
  have := (put_length h.u.toNat).2
  omega
theorem cmB_len {c : Cm} (h : isCm c = true) : (cmB c).length ≤ 288 := by
  have h1 := toldL_len c (partsP c.kd) (isC_iff.1 h).1
  have h2 := parts_len c.kd
  unfold cmB
  omega
theorem lstB_len {α : Type} {f : α → List UInt8} {m : Nat} {L : List α} (h : ∀ a ∈ L, (f a).length ≤ m) : (lstB f L).length ≤ 10 + m * L.length := by
  unfold lstB
  rw [List.length_append]
  have := (put_length L.length).2
  have := flatN_len f m L h
  omega
theorem noteB_len {n : Nt} (h : GoodN n) : (noteB n).length ≤ 60 + 168 * n.mo.length + 168 * n.gi.length + 20 * n.ha.length + 288 * n.wa.length := by
  have h1 := (put_length n.fr.toNat).2
  have h2 := (put_length n.be.toNat).2
  have h3 := lstB_len (f := thB) (m := 168) (L := n.mo) (fun t ht => thB_len (h.mo.2 t ht))
  have h4 := lstB_len (f := thB) (m := 168) (L := n.gi) (fun t ht => thB_len (h.gi.2 t ht))
  have h5 := lstB_len (f := handB) (m := 20) (L := n.ha) (fun t ht => handB_len t)
  have h6 := lstB_len (f := cmB) (m := 288) (L := n.wa) (fun t ht => cmB_len (h.wa.2 t ht).1)
  unfold noteB
  simp only [List.length_append]
  omega
theorem bytes_few {n : Nt} (h : isN n 4 = true) (h1 : n.mo.length ≤ 30) (h2 : n.gi.length ≤ 30) : bytesN n = (wrap (noteB n), 0) ∧ (noteB n).length ≤ 40000 := by
  have g := good_of h
  have := noteB_len g
  have := g.hn
  have := g.wa.1
  unfold bytesN
  rw [if_pos h, if_neg (by omega)]
  exact ⟨rfl, by omega⟩
theorem readNt_back {n : Nt} (h : isN n 4 = true) (hf : FitN n) (hl : (noteB n).length ≤ 40000) (R : List UInt8) : readNt (wrap (noteB n) ++ R) = (n, (wrap (noteB n)).length, 0) := by
  have h1 := unwrap_wrap (noteB n) R hl
  have h2 := readN_back h hf []
  rw [List.append_nil] at h2
  have h3 : bytesN n = (wrap (noteB n), 0) := by unfold bytesN; rw [if_pos h, if_neg (by omega)]
  unfold readNt
  rw [h1]
  simp only
  rw [if_neg (by simp), h2]
  simp only
  rw [h3, if_neg (by simp)]
theorem readNt_err {s : List UInt8} {n : Nt} {k e : Nat} (h : readNt s = (n, k, e)) (he : ¬ e = 0) : n = zN ∧ k = 0 ∧ e = if (unwrap s).2.2 = 0 then 11 else (unwrap s).2.2 := by
  unfold readNt at h
  by_cases h1 : (unwrap s).2.2 = 0
  · rw [if_neg (by simpa using h1)] at h
    rw [if_pos h1]
    split at h
    · simp only [Prod.mk.injEq] at h; exact ⟨h.1.symm, h.2.1.symm, h.2.2.symm⟩
    · simp only [Prod.mk.injEq] at h; exact absurd h.2.2.symm he
  · rw [if_pos h1] at h
    rw [if_neg h1]
    simp only [Prod.mk.injEq] at h; exact ⟨h.1.symm, h.2.1.symm, h.2.2.symm⟩
theorem readNt_ok {s : List UInt8} {n : Nt} {k : Nat} (h : readNt s = (n, k, 0)) : (unwrap s).2.2 = 0 ∧ k = (unwrap s).2.1 ∧ (bytesN n).1 = s.take k ∧ (readN (unwrap s).1).1 = n := by
  unfold readNt at h
  by_cases h1 : (unwrap s).2.2 = 0
  · rw [if_neg (by simpa using h1)] at h
    split at h
    · simp at h
    · rename_i h2
      simp only [Prod.mk.injEq, and_true] at h
      obtain ⟨rfl, rfl⟩ := h
      rw [not_or, Decidable.not_not, Decidable.not_not] at h2
      exact ⟨h1, rfl, h2.2, rfl⟩
  · rw [if_pos h1] at h
    simp only [Prod.mk.injEq] at h
    exact absurd h.2.2 h1
end Go.Proofs.YtpedngbjpbeanaaGreatDoor
