/- Plain facts on what a command does: the reasons against it, in their order; what is told of it; what a table holds behind it. Of no program but for the functions' numbers. -/
import Derived.Test.YtfoncphdbaaedaaGreatDoorTC
import Derived.Test.YtfoncphdbaaedaaGreatDoorCF
namespace Go.Proofs.YtfoncphdbaaedaaGreatDoor
open Go.RowKit
set_option linter.unusedVariables false
/-- a reason: its error, which one (lacks, beyond, fieldless, full, crowded, intoCrowd) -/
structure Rs where
  e : Int
  r : Nat
/-- a kind: its number, what may stand against it -/
structure Kn where
  of : Int
  rs : List Rs
def kinL : List Kn := [⟨1, [⟨14, 1⟩, ⟨16, 3⟩, ⟨16, 4⟩]⟩, ⟨2, [⟨15, 0⟩, ⟨14, 1⟩, ⟨16, 5⟩]⟩, ⟨3, [⟨15, 0⟩, ⟨18, 2⟩]⟩, ⟨4, [⟨15, 0⟩]⟩]
def rsF : Nat → Nat
  | 0 => 83
  | 1 => 84
  | 2 => 85
  | 3 => 86
  | 4 => 87
  | _ => 88
def thOf (L : List Th) (id : Int) : Th := (findT id L).getD zT
def inCell (L : List Th) (c : Int) : List Th := inT_r (cellR c) L
def ofI (x y : Int) : Int := (ofN x y : Nat)
def crowdB (L : List Th) (c : Cm) : Bool := decide (8 ≤ (inCell L (ofI c.x c.y)).length)
def intoB (L : List Th) (c : Cm) : Bool := (ofI (thOf L c.id).x (thOf L c.id).y != ofI c.x c.y) && crowdB L c
def rsB (L : List Th) (c : Cm) : Nat → Bool
  | 0 => !hasT c.id L
  | 1 => !onB c.x c.y
  | 2 => decide (c.wh < 0) || decide (4 ≤ c.wh)
  | 3 => decide (200 ≤ L.length)
  | 4 => crowdB L c
  | _ => intoB L c
def firstR (L : List Th) (c : Cm) : List Rs → Option Int
  | [] => none
  | s :: l => if rsB L c s.r then some s.e else firstR L c l
def chkK (L : List Th) (c : Cm) : List Kn → Int → Int
  | [], e => e
  | d :: l, e => if d.of = c.kd then (match firstR L c d.rs with | some x => x | none => chkK L c l 0) else chkK L c l e
def chk (L : List Th) (c : Cm) : Int := if isCm c then chkK L c kinL 11 else 11
theorem firstR_no {L : List Th} {c : Cm} {R : List Rs} {j : Nat} {s : Rs} (h : R[j]? = some s) (hs : rsB L c s.r = false) : firstR L c (R.drop j) = firstR L c (R.drop (j + 1)) := by
  have hlt : j < R.length := (List.getElem?_eq_some_iff.1 h).1
  have e : R[j] = s := (List.getElem?_eq_some_iff.1 h).2
  rw [List.drop_eq_getElem_cons hlt, e]
  show (if rsB L c s.r then some s.e else firstR L c (R.drop (j + 1))) = _
  rw [hs]; rfl
theorem firstR_yes {L : List Th} {c : Cm} {R : List Rs} {j : Nat} {s : Rs} (h : R[j]? = some s) (hs : rsB L c s.r = true) : firstR L c (R.drop j) = some s.e := by
  have hlt : j < R.length := (List.getElem?_eq_some_iff.1 h).1
  have e : R[j] = s := (List.getElem?_eq_some_iff.1 h).2
  rw [List.drop_eq_getElem_cons hlt, e]
  show (if rsB L c s.r then some s.e else firstR L c (R.drop (j + 1))) = _
  rw [hs]; rfl
theorem chkK_cons {L : List Th} {c : Cm} {D : List Kn} {k : Nat} {d : Kn} (h : D[k]? = some d) (e : Int) : chkK L c (D.drop k) e = if d.of = c.kd then (match firstR L c d.rs with | some x => x | none => chkK L c (D.drop (k + 1)) 0) else chkK L c (D.drop (k + 1)) e := by
  have hlt : k < D.length := (List.getElem?_eq_some_iff.1 h).1
  have e1 : D[k] = d := (List.getElem?_eq_some_iff.1 h).2
  rw [List.drop_eq_getElem_cons hlt, e1]; rfl
theorem chkK_skip {L : List Th} {c : Cm} {D : List Kn} {k : Nat} {d : Kn} (h : D[k]? = some d) {e : Int} (hd : d.of ≠ c.kd) : chkK L c (D.drop k) e = chkK L c (D.drop (k + 1)) e := by rw [chkK_cons h, if_neg hd]
theorem chkK_hit {L : List Th} {c : Cm} {D : List Kn} {k : Nat} {d : Kn} (h : D[k]? = some d) {e x : Int} (hd : d.of = c.kd) (hf : firstR L c d.rs = some x) : chkK L c (D.drop k) e = x := by rw [chkK_cons h, if_pos hd, hf]
theorem chkK_miss {L : List Th} {c : Cm} {D : List Kn} {k : Nat} {d : Kn} (h : D[k]? = some d) {e : Int} (hd : d.of = c.kd) (hf : firstR L c d.rs = none) : chkK L c (D.drop k) e = chkK L c (D.drop (k + 1)) 0 := by rw [chkK_cons h, if_pos hd, hf]
theorem kin_len {d : Kn} {k : Nat} (h : kinL[k]? = some d) : d.rs.length ≤ 3 := by
  have hk : k < 4 := (List.getElem?_eq_some_iff.1 h).1
  obtain rfl | rfl | rfl | rfl : k = 0 ∨ k = 1 ∨ k = 2 ∨ k = 3 := by omega
  all_goals
    simp [kinL] at h
    subst h
    decide
/- who is a command, as far as it is about things -/
theorem isC_bounds {c : Cm} (h : isCm c = true) : 1 ≤ c.kd ∧ c.kd ≤ 8 := by
  have := is_num.1 ((isC_iff.1 h).1 (.num 0 1 8) (by unfold partsP; simp [headP]))
  exact this
theorem isC_put {c : Cm} (h : isCm c = true) (hk : c.kd = 1) : c.id = 0 ∧ isF c.f0 = true ∧ isF c.f1 = true ∧ isF c.f2 = true ∧ isF c.f3 = true := by
  obtain ⟨h1, h2⟩ := isC_iff.1 h
  obtain ⟨a0, a1, a2, a3, a4, a5, a6, a7, a8, a9, a10, a11, a12, a13, a14, a15, a16⟩ := c
  simp only at hk
  subst hk
  simp [partsP, headP, restP, clrL, Pa.clr, Cm.setI, Cm.setF, zC] at h2
  simp [partsP, headP, restP, Pa.is, Cm.i, Cm.f] at h1
  simp_all
theorem isC_id {c : Cm} (h : isCm c = true) : 0 ≤ c.id ∧ c.id ≤ 1000000 := by
  obtain ⟨h1, h2⟩ := isC_iff.1 h
  obtain ⟨k1, k2⟩ := isC_bounds h
  obtain ⟨a0, a1, a2, a3, a4, a5, a6, a7, a8, a9, a10, a11, a12, a13, a14, a15, a16⟩ := c
  simp only at k1 k2
  have : a0 = 1 ∨ a0 = 2 ∨ a0 = 3 ∨ a0 = 4 ∨ a0 = 5 ∨ a0 = 6 ∨ a0 = 7 ∨ a0 = 8 := by omega
  rcases this with rfl | rfl | rfl | rfl | rfl | rfl | rfl | rfl
  all_goals
    simp [partsP, headP, restP, clrL, Pa.clr, Cm.setI, Cm.setF, zC] at h2
    simp [partsP, headP, restP, Pa.is, Cm.i, Cm.f] at h1
    simp_all
theorem isC_set {c : Cm} (h : isCm c = true) (hk : c.kd = 3) : isF c.va = true := by
  obtain ⟨h1, h2⟩ := isC_iff.1 h
  obtain ⟨a0, a1, a2, a3, a4, a5, a6, a7, a8, a9, a10, a11, a12, a13, a14, a15, a16⟩ := c
  simp only at hk
  subst hk
  simp [partsP, headP, restP, Pa.is, Cm.i, Cm.f] at h1
  simp_all
/- Check, kind by kind -/
theorem chk_no {L : List Th} {c : Cm} (h : isCm c = false) : chk L c = 11 := by unfold chk; rw [h]; rfl
theorem chk_put {L : List Th} {c : Cm} (h : isCm c = true) (hk : c.kd = 1) : chk L c = if onB c.x c.y = false then 14 else if 200 ≤ L.length then 16 else if crowdB L c = true then 16 else 0 := by
  unfold chk kinL
  rw [if_pos h]
  simp only [chkK, firstR, rsB, hk]
  cases onB c.x c.y <;> by_cases h2 : 200 ≤ L.length <;> cases crowdB L c <;> simp [h2]
theorem chk_move {L : List Th} {c : Cm} (h : isCm c = true) (hk : c.kd = 2) : chk L c = if hasT c.id L = false then 15 else if onB c.x c.y = false then 14 else if intoB L c = true then 16 else 0 := by
  unfold chk kinL
  rw [if_pos h]
  simp only [chkK, firstR, rsB, hk]
  cases hasT c.id L <;> cases onB c.x c.y <;> cases intoB L c <;> simp
theorem chk_set {L : List Th} {c : Cm} (h : isCm c = true) (hk : c.kd = 3) : chk L c = if hasT c.id L = false then 15 else if c.wh < 0 ∨ 4 ≤ c.wh then 18 else 0 := by
  unfold chk kinL
  rw [if_pos h]
  simp only [chkK, firstR, rsB, hk]
  cases hasT c.id L <;> by_cases h2 : c.wh < 0 <;> by_cases h3 : 4 ≤ c.wh <;> simp [h2, h3]
theorem chk_drop {L : List Th} {c : Cm} (h : isCm c = true) (hk : c.kd = 4) : chk L c = if hasT c.id L = false then 15 else 0 := by
  unfold chk kinL
  rw [if_pos h]
  simp only [chkK, firstR, rsB, hk]
  cases hasT c.id L <;> simp
theorem chk_else {L : List Th} {c : Cm} (h : isCm c = true) (hk : 4 < c.kd) : chk L c = 11 := by
  unfold chk kinL
  rw [if_pos h]
  have h1 : ¬ (1 : Int) = c.kd := by omega
  have h2 : ¬ (2 : Int) = c.kd := by omega
  have h3 : ¬ (3 : Int) = c.kd := by omega
  have h4 : ¬ (4 : Int) = c.kd := by omega
  simp [chkK, h1, h2, h3, h4]
theorem chk_kinds {L : List Th} {c : Cm} (h : chk L c = 0) : isCm c = true ∧ (c.kd = 1 ∨ c.kd = 2 ∨ c.kd = 3 ∨ c.kd = 4) := by
  cases hc : isCm c
  · rw [chk_no hc] at h; cases h
  · refine ⟨rfl, ?_⟩
    have := isC_bounds hc
    by_cases h5 : 4 < c.kd
    · rw [chk_else hc h5] at h; cases h
    · omega
/- what is done -/
def putT (c : Cm) (id : Int) : Th := ⟨id, c.x, c.y, c.f0, c.f1, c.f2, c.f3⟩
def movT (t : Th) (c : Cm) : Th := ⟨t.id, c.x, c.y, t.f0, t.f1, t.f2, t.f3⟩
def setT (t : Th) (wh : Int) (f : Fl) : Th :=
  if wh = 0 then ⟨t.id, t.x, t.y, f, t.f1, t.f2, t.f3⟩ else if wh = 1 then ⟨t.id, t.x, t.y, t.f0, f, t.f2, t.f3⟩ else if wh = 2 then ⟨t.id, t.x, t.y, t.f0, t.f1, f, t.f3⟩ else ⟨t.id, t.x, t.y, t.f0, t.f1, t.f2, f⟩
/-- whose thing it is -/
def whoI (c : Cm) (id : Int) : Int := if c.kd = 1 then id else c.id
def dnE (L : List Th) (c : Cm) (id : Int) : Int :=
  if c.kd = 1 then tpE (putT c id) L else if c.kd = 2 then tsE (movT (thOf L id) c) L else if c.kd = 3 then tsE (setT (thOf L id) c.wh c.va) L else tdE id L
def dnL (L : List Th) (c : Cm) (id : Int) : List Th :=
  if c.kd = 1 then tpL (putT c id) L else if c.kd = 2 then tsL (movT (thOf L id) c) L else if c.kd = 3 then tsL (setT (thOf L id) c.wh c.va) L else tdL id L
def doE (L : List Th) (c : Cm) (id : Int) : Int := if chk L c = 0 then dnE L c (whoI c id) else chk L c
def doN (L : List Th) (c : Cm) (id : Int) : Int := if doE L c id = 0 then whoI c id else 0
def doL (L : List Th) (c : Cm) (id : Int) : List Th := if chk L c = 0 then dnL L c (whoI c id) else L
end Go.Proofs.YtfoncphdbaaedaaGreatDoor
