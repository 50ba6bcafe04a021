/- Plain facts on events, of no program: who is one, their bytes, what is read, what they make of a row of things that rises; what was written is read. Plain facts on what events make of a row of things that rises, of no program: where a thing stands, or would have to; one event, many. -/
import Derived.Test.YtjdlcocncacmlaaTR
import Derived.Test.YtjdlcocncacmlaaShD
namespace Go.Proofs.Ytjdlcocncacmlaa
section
open Go.RowKit
set_option linter.unusedVariables false
structure Ev where
  k : Int
  i : Int
  t : Th
  d : Dl
def zE : Ev := ⟨0, 0, zT, zD⟩
def eqE (a b : Ev) : Bool := a.k == b.k && (a.i == b.i && (eqT a.t b.t && eqD a.d b.d))
theorem eqE_iff {a b : Ev} : eqE a b = true ↔ a = b := by
  obtain ⟨a0, a1, a2, a3⟩ := a
  obtain ⟨b0, b1, b2, b3⟩ := b
  simp [eqE, eqT_iff, eqD_iff]
theorem eqE_no {a b : Ev} : eqE a b = false ↔ ¬ a = b := by rw [← eqE_iff]; simp
theorem eqE_self (a : Ev) : eqE a a = true := eqE_iff.2 rfl
def Ev.cs (e : Ev) : List Value := [.int .i64 e.k, .int .i64 e.i, .int .i64 e.t.id, .int .i64 e.t.x, .int .i64 e.t.y, .int .i64 e.t.f0.n, .string e.t.f0.s, .int .i64 e.t.f1.n, .string e.t.f1.s, .int .i64 e.t.f2.n, .string e.t.f2.s, .int .i64 e.t.f3.n, .string e.t.f3.s, .int .i64 e.d.id, .int .u8 e.d.m, .int .i64 e.d.x, .int .i64 e.d.y, .int .i64 e.d.f0.n, .string e.d.f0.s, .int .i64 e.d.f1.n, .string e.d.f1.s, .int .i64 e.d.f2.n, .string e.d.f2.s, .int .i64 e.d.f3.n, .string e.d.f3.s]
abbrev Ev.v (e : Ev) : Value := .agg #[.int .i64 e.k, .int .i64 e.i, .int .i64 e.t.id, .int .i64 e.t.x, .int .i64 e.t.y, .int .i64 e.t.f0.n, .string e.t.f0.s, .int .i64 e.t.f1.n, .string e.t.f1.s, .int .i64 e.t.f2.n, .string e.t.f2.s, .int .i64 e.t.f3.n, .string e.t.f3.s, .int .i64 e.d.id, .int .u8 e.d.m, .int .i64 e.d.x, .int .i64 e.d.y, .int .i64 e.d.f0.n, .string e.d.f0.s, .int .i64 e.d.f1.n, .string e.d.f1.s, .int .i64 e.d.f2.n, .string e.d.f2.s, .int .i64 e.d.f3.n, .string e.d.f3.s]
abbrev Ev.o (e : Ev) : Obj := .cells #[.int .i64 e.k, .int .i64 e.i, .int .i64 e.t.id, .int .i64 e.t.x, .int .i64 e.t.y, .int .i64 e.t.f0.n, .string e.t.f0.s, .int .i64 e.t.f1.n, .string e.t.f1.s, .int .i64 e.t.f2.n, .string e.t.f2.s, .int .i64 e.t.f3.n, .string e.t.f3.s, .int .i64 e.d.id, .int .u8 e.d.m, .int .i64 e.d.x, .int .i64 e.d.y, .int .i64 e.d.f0.n, .string e.d.f0.s, .int .i64 e.d.f1.n, .string e.d.f1.s, .int .i64 e.d.f2.n, .string e.d.f2.s, .int .i64 e.d.f3.n, .string e.d.f3.s] 44 (0, 0)
theorem Ev.z (e : Ev) : e.cs.length = 25 := rfl
def inE (e : Ev) : Prop := inT e.t ∧ inD e.d
/-- who is one -/
def isE (e : Ev) : Bool :=
  if e.k = 1 then isT e.t && eqE e ⟨1, e.t.id, e.t, zD⟩
  else if e.k = 2 then isD e.d && eqE e ⟨2, e.d.id, zT, e.d⟩
  else if e.k = 3 then decide (0 ≤ e.i) && (decide (e.i ≤ 1000000) && eqE e ⟨3, e.i, zT, zD⟩)
  else false
theorem isE_1 {e : Ev} (h : e.k = 1) : isE e = (isT e.t && eqE e ⟨1, e.t.id, e.t, zD⟩) := by unfold isE; rw [if_pos h]
theorem isE_2 {e : Ev} (h : e.k = 2) : isE e = (isD e.d && eqE e ⟨2, e.d.id, zT, e.d⟩) := by unfold isE; rw [if_neg (by omega), if_pos h]
theorem isE_3 {e : Ev} (h : e.k = 3) : isE e = (decide (0 ≤ e.i) && (decide (e.i ≤ 1000000) && eqE e ⟨3, e.i, zT, zD⟩)) := by unfold isE; rw [if_neg (by omega), if_neg (by omega), if_pos h]
theorem isE_4 {e : Ev} (h1 : ¬ e.k = 1) (h2 : ¬ e.k = 2) (h3 : ¬ e.k = 3) : isE e = false := by unfold isE; rw [if_neg h1, if_neg h2, if_neg h3]
theorem eqE_1 {e : Ev} (h : e.k = 1) : eqE e ⟨1, e.t.id, e.t, zD⟩ = (e.i == e.t.id && eqD e.d zD) := by unfold eqE; simp [h, eqT_self]
theorem eqE_2 {e : Ev} (h : e.k = 2) : eqE e ⟨2, e.d.id, zT, e.d⟩ = (e.i == e.d.id && eqT e.t zT) := by unfold eqE; simp [h, eqD_self]
theorem eqE_3 {e : Ev} (h : e.k = 3) : eqE e ⟨3, e.i, zT, zD⟩ = (eqT e.t zT && eqD e.d zD) := by unfold eqE; simp [h]
theorem isE_kind {e : Ev} (h : isE e = true) : e.k = 1 ∨ e.k = 2 ∨ e.k = 3 := by
  by_cases h1 : e.k = 1
  · exact .inl h1
  · by_cases h2 : e.k = 2
    · exact .inr (.inl h2)
    · by_cases h3 : e.k = 3
      · exact .inr (.inr h3)
      · rw [isE_4 h1 h2 h3] at h; cases h
theorem is_enter {e : Ev} (h : isE e = true) (hk : e.k = 1) : isT e.t = true ∧ e = ⟨1, e.t.id, e.t, zD⟩ := by
  rw [isE_1 hk, Bool.and_eq_true] at h
  exact ⟨h.1, eqE_iff.1 h.2⟩
theorem is_update {e : Ev} (h : isE e = true) (hk : e.k = 2) : isD e.d = true ∧ e = ⟨2, e.d.id, zT, e.d⟩ := by
  rw [isE_2 hk, Bool.and_eq_true] at h
  exact ⟨h.1, eqE_iff.1 h.2⟩
theorem is_leave {e : Ev} (h : isE e = true) (hk : e.k = 3) : 0 ≤ e.i ∧ e.i ≤ 1000000 ∧ e = ⟨3, e.i, zT, zD⟩ := by
  rw [isE_3 hk, Bool.and_eq_true, Bool.and_eq_true, decide_eq_true_eq, decide_eq_true_eq] at h
  exact ⟨h.1, h.2.1, eqE_iff.1 h.2.2⟩
/-- as bytes -/
def toldE (e : Ev) : List UInt8 := if e.k = 1 then thB e.t else if e.k = 2 then bytesK e.d 4 else put e.i.toNat
def evB (e : Ev) : List UInt8 := put e.k.toNat ++ toldE e
def esB (L : List Ev) : List UInt8 × Nat := if L.all isE = true then if 400 < L.length then ([], 13) else (put L.length ++ L.flatMap evB, 0) else ([], 11)
theorem toldE_1 {e : Ev} (h : e.k = 1) : toldE e = thB e.t := by unfold toldE; rw [if_pos h]
theorem toldE_2 {e : Ev} (h : e.k = 2) : toldE e = bytesK e.d 4 := by unfold toldE; rw [if_neg (by omega), if_pos h]
theorem toldE_3 {e : Ev} (h : e.k = 3) : toldE e = put e.i.toNat := by unfold toldE; rw [if_neg (by omega), if_neg (by omega)]
theorem toldE_len {e : Ev} (h : isE e = true) : (toldE e).length ≤ 168 := by
  rcases isE_kind h with k | k | k
  · rw [toldE_1 k]; exact thB_len (is_enter h k).1
  · rw [toldE_2 k]
    exact bytesK_len (isD_small (is_update h k).1).2.2.2.2.2.2.2.2.1 4
  · rw [toldE_3 k]; have := (put_length e.i.toNat).2; omega
theorem evB_len {e : Ev} (h : isE e = true) : (evB e).length ≤ 178 := by
  unfold evB
  have := toldE_len h
  have := (put_length e.k.toNat).2
  rw [List.length_append]; omega
theorem esB_len {L : List Ev} (h : ∀ e ∈ L, isE e = true) : (L.flatMap evB).length ≤ 178 * L.length := by
  induction L with
  | nil => simp
  | cons a L ih =>
    have h1 := evB_len (h a List.mem_cons_self)
    have h2 := ih (fun e he => h e (List.mem_cons_of_mem _ he))
    rw [List.flatMap_cons, List.length_append, List.length_cons]; omega
/-- a number of at most T -/
def numN (T B : Nat) (g : Nat × Nat × Nat) : Nat × Nat × Nat := if g.2.2 ≠ 0 then (0, 0, g.2.2) else if T < g.1 then (0, 0, B) else (g.1, g.2.1, 0)
def numE (l : List UInt8) (T B : Nat) : Nat × Nat × Nat := numN T B (get l)
theorem numN_1 {T B n z e : Nat} (he : ¬ e = 0) : numN T B (n, z, e) = (0, 0, e) := by unfold numN; rw [if_pos (by simpa using he)]
theorem numN_2 {T B n z : Nat} (hn : T < n) : numN T B (n, z, 0) = (0, 0, B) := by unfold numN; rw [if_neg (by simp), if_pos hn]
theorem numN_3 {T B n z : Nat} (hn : n ≤ T) : numN T B (n, z, 0) = (n, z, 0) := by unfold numN; rw [if_neg (by simp), if_neg (by simpa using hn)]
theorem numE_1 {l : List UInt8} {T B n z e : Nat} (h : get l = (n, z, e)) (he : ¬ e = 0) : numE l T B = (0, 0, e) := by unfold numE; rw [h, numN_1 he]
theorem numE_2 {l : List UInt8} {T B n z : Nat} (h : get l = (n, z, 0)) (hn : T < n) : numE l T B = (0, 0, B) := by unfold numE; rw [h, numN_2 hn]
theorem numE_3 {l : List UInt8} {T B n z : Nat} (h : get l = (n, z, 0)) (hn : n ≤ T) : numE l T B = (n, z, 0) := by unfold numE; rw [h, numN_3 hn]
theorem numE_ok {l : List UInt8} {T B n z e : Nat} (hB : B = 11 ∨ B = 13) (h : numE l T B = (n, z, e)) : n ≤ T ∧ z ≤ l.length ∧ (e = 0 ∨ e = 10 ∨ e = 11 ∨ e = 13) ∧ (¬ e = 0 → n = 0 ∧ z = 0) := by
  rcases hg : get l with ⟨m, y, x⟩
  obtain ⟨a1, a2, a3, a4, a5⟩ := get_ok hg
  by_cases hx : x = 0
  · subst hx
    by_cases hm : T < m
    · rw [numE_2 hg hm] at h
      simp only [Prod.mk.injEq] at h
      omega
    · rw [numE_3 hg (by omega)] at h
      simp only [Prod.mk.injEq] at h
      omega
  · rw [numE_1 hg hx] at h
    simp only [Prod.mk.injEq] at h
    omega
/-- what stands behind the kind -/
def restE (k : Nat) (l : List UInt8) : Ev × Nat × Nat :=
  if k = 1 then (⟨1, (readT l).1.id, (readT l).1, zD⟩, (readT l).2.1, (readT l).2.2)
  else if k = 2 then (⟨2, (read l).1.id, zT, (read l).1⟩, (read l).2.1, (read l).2.2)
  else if k = 3 then (⟨3, (numE l 1000000 11).1, zT, zD⟩, (numE l 1000000 11).2.1, (numE l 1000000 11).2.2)
  else (⟨k, 0, zT, zD⟩, 0, 11)
theorem restE_1 {l : List UInt8} {t : Th} {z e : Nat} (h : readT l = (t, z, e)) : restE 1 l = (⟨1, t.id, t, zD⟩, z, e) := by unfold restE; rw [if_pos rfl, h]
theorem restE_2 {l : List UInt8} {d : Dl} {z e : Nat} (h : read l = (d, z, e)) : restE 2 l = (⟨2, d.id, zT, d⟩, z, e) := by unfold restE; rw [if_neg (by decide), if_pos rfl, h]
theorem restE_3 {l : List UInt8} {n z e : Nat} (h : numE l 1000000 11 = (n, z, e)) : restE 3 l = (⟨3, n, zT, zD⟩, z, e) := by unfold restE; rw [if_neg (by decide), if_neg (by decide), if_pos rfl, h]
theorem restE_4 {k : Nat} {l : List UInt8} (h1 : ¬ k = 1) (h2 : ¬ k = 2) (h3 : ¬ k = 3) : restE k l = (⟨k, 0, zT, zD⟩, 0, 11) := by unfold restE; rw [if_neg h1, if_neg h2, if_neg h3]
theorem inT_z : inT zT := ⟨⟨by decide, by decide, by decide⟩, ⟨by decide, by decide, by decide⟩, ⟨by decide, by decide, by decide⟩, ⟨by decide, by decide, by decide⟩⟩
theorem inD_z : inD zD := ⟨by decide, ⟨by decide, by decide, by decide⟩, ⟨by decide, by decide, by decide⟩, ⟨by decide, by decide, by decide⟩, ⟨by decide, by decide, by decide⟩⟩
theorem inF_fits {f : Fl} (h1 : fitS f) (h2 : wideF f) : inF f := ⟨Nat.le_trans h1.1 (by unfold maxLen; omega), h2.1, h2.2⟩
theorem restE_ok {k : Nat} {l : List UInt8} {x : Ev} {z e : Nat} (hk : k ≤ 3) (h : restE k l = (x, z, e)) : z ≤ l.length ∧ (e = 0 ∨ e = 10 ∨ e = 11 ∨ e = 13) ∧ inE x := by
  by_cases h1 : k = 1
  · subst h1
    rcases hr : readT l with ⟨t, n, f⟩
    obtain ⟨a1, a2, a3, a4, a5, a6, a7, a8, a9⟩ := readT_fits hr
    rw [restE_1 hr] at h
    simp only [Prod.mk.injEq] at h
    obtain ⟨rfl, rfl, rfl⟩ := h
    exact ⟨a1, a8, a3, inD_z⟩
  · by_cases h2 : k = 2
    · subst h2
      have hw := read_wide l
      obtain ⟨b1, b2, b3, b4, b5⟩ := read_fits l
      rcases hr : read l with ⟨t, n, f⟩
      rw [hr] at b1 b2 b3 b4 b5 hw
      rw [restE_2 hr] at h
      simp only [Prod.mk.injEq] at h
      obtain ⟨rfl, rfl, rfl⟩ := h
      exact ⟨b1, b5, inT_z, Nat.lt_of_le_of_lt b4 (by decide), inF_fits (b3 0) (hw 0), inF_fits (b3 1) (hw 1), inF_fits (b3 2) (hw 2), inF_fits (b3 3) (hw 3)⟩
    · by_cases h3 : k = 3
      · subst h3
        rcases hr : numE l 1000000 11 with ⟨n, y, f⟩
        obtain ⟨c1, c2, c3, c4⟩ := numE_ok (.inl rfl) hr
        rw [restE_3 hr] at h
        simp only [Prod.mk.injEq] at h
        obtain ⟨rfl, rfl, rfl⟩ := h
        exact ⟨c2, c3, inT_z, inD_z⟩
      · rw [restE_4 h1 h2 h3] at h
        simp only [Prod.mk.injEq] at h
        obtain ⟨rfl, rfl, rfl⟩ := h
        exact ⟨by omega, by omega, inT_z, inD_z⟩
/-- an event at the beginning of bytes -/
def evN (h : Nat × Nat × Nat) (r : Ev × Nat × Nat) : Ev × Nat × Nat := if h.2.2 ≠ 0 then (zE, 0, h.2.2) else if r.2.2 ≠ 0 then (zE, 0, r.2.2) else (r.1, h.2.1 + r.2.1, 0)
def evR (l : List UInt8) : Ev × Nat × Nat := evN (numE l 3 11) (restE (numE l 3 11).1 (l.drop (numE l 3 11).2.1))
theorem evN_1 {n z e : Nat} (he : ¬ e = 0) (r : Ev × Nat × Nat) : evN (n, z, e) r = (zE, 0, e) := by unfold evN; rw [if_pos (by simpa using he)]
theorem evN_2 {n z m e : Nat} {x : Ev} (he : ¬ e = 0) : evN (n, z, 0) (x, m, e) = (zE, 0, e) := by unfold evN; rw [if_neg (by simp), if_pos (by simpa using he)]
theorem evN_3 {n z m : Nat} {x : Ev} : evN (n, z, 0) (x, m, 0) = (x, z + m, 0) := by unfold evN; rw [if_neg (by simp), if_neg (by simp)]
theorem evR_1 {l : List UInt8} {n z e : Nat} (h : numE l 3 11 = (n, z, e)) (he : ¬ e = 0) : evR l = (zE, 0, e) := by unfold evR; rw [h, evN_1 he]
theorem evR_2 {l : List UInt8} {n z m e : Nat} {x : Ev} (h : numE l 3 11 = (n, z, 0)) (hr : restE n (l.drop z) = (x, m, e)) (he : ¬ e = 0) : evR l = (zE, 0, e) := by unfold evR; rw [h]; simp only; rw [hr, evN_2 he]
theorem evR_3 {l : List UInt8} {n z m : Nat} {x : Ev} (h : numE l 3 11 = (n, z, 0)) (hr : restE n (l.drop z) = (x, m, 0)) : evR l = (x, z + m, 0) := by unfold evR; rw [h]; simp only; rw [hr, evN_3]
theorem evR_ok {l : List UInt8} {x : Ev} {z e : Nat} (h : evR l = (x, z, e)) : z ≤ l.length ∧ (e = 0 ∨ e = 10 ∨ e = 11 ∨ e = 13) ∧ inE x := by
  rcases hn : numE l 3 11 with ⟨n, y, f⟩
  obtain ⟨c1, c2, c3, c4⟩ := numE_ok (.inl rfl) hn
  by_cases hf : f = 0
  · subst hf
    rcases hr : restE n (l.drop y) with ⟨u, m, g⟩
    obtain ⟨d1, d2, d3⟩ := restE_ok c1 hr
    rw [List.length_drop] at d1
    by_cases hg : g = 0
    · subst hg
      rw [evR_3 hn hr] at h
      simp only [Prod.mk.injEq] at h
      obtain ⟨rfl, rfl, rfl⟩ := h
      exact ⟨by omega, d2, d3⟩
    · rw [evR_2 hn hr hg] at h
      simp only [Prod.mk.injEq] at h
      obtain ⟨rfl, rfl, rfl⟩ := h
      exact ⟨by omega, d2, inT_z, inD_z⟩
  · rw [evR_1 hn hf] at h
    simp only [Prod.mk.injEq] at h
    obtain ⟨rfl, rfl, rfl⟩ := h
    exact ⟨by omega, c3, inT_z, inD_z⟩
/-- so many of them -/
def esN (p : List Ev × Nat × Nat) (r : Ev × Nat × Nat) : List Ev × Nat × Nat := if p.2.2 ≠ 0 then p else if r.2.2 ≠ 0 then ([], 0, r.2.2) else (p.1 ++ [r.1], p.2.1 + r.2.1, 0)
def esS (s : List UInt8) (z0 : Nat) : Nat → List Ev × Nat × Nat
  | 0 => ([], z0, 0)
  | k + 1 => esN (esS s z0 k) (evR (s.drop (esS s z0 k).2.1))
def esH (s : List UInt8) (g : Nat × Nat × Nat) : List Ev × Nat × Nat := if g.2.2 ≠ 0 then ([], 0, g.2.2) else esS s g.2.1 g.1
def readE (s : List UInt8) : List Ev × Nat × Nat := esH s (numE s 400 13)
theorem esS_succ {s : List UInt8} {z0 k : Nat} {M : List Ev} {z e : Nat} (h : esS s z0 k = (M, z, e)) : esS s z0 (k + 1) = esN (M, z, e) (evR (s.drop z)) := by rw [esS, h]
theorem esN_err {M : List Ev} {z e : Nat} (he : ¬ e = 0) (r : Ev × Nat × Nat) : esN (M, z, e) r = (M, z, e) := by unfold esN; rw [if_pos (by simpa using he)]
theorem esN_bad {M : List Ev} {z m e : Nat} {x : Ev} (he : ¬ e = 0) : esN (M, z, 0) (x, m, e) = ([], 0, e) := by unfold esN; rw [if_neg (by simp), if_pos (by simpa using he)]
theorem esN_on {M : List Ev} {z m : Nat} {x : Ev} : esN (M, z, 0) (x, m, 0) = (M ++ [x], z + m, 0) := by unfold esN; rw [if_neg (by simp), if_neg (by simp)]
theorem esS_err {s : List UInt8} {z0 k : Nat} {M : List Ev} {z e : Nat} (h : esS s z0 k = (M, z, e)) (he : ¬ e = 0) : ∀ c, k ≤ c → esS s z0 c = (M, z, e) := by
  intro c hc
  induction c with
  | zero => obtain rfl : k = 0 := by omega
            exact h
  | succ c ih =>
    by_cases hbc : k = c + 1
    · rw [← hbc]; exact h
    · rw [esS_succ (ih (by omega)), esN_err he]
theorem esS_bad {s : List UInt8} {z0 k : Nat} {M : List Ev} {z m e : Nat} {x : Ev} (h : esS s z0 k = (M, z, 0)) (hr : evR (s.drop z) = (x, m, e)) (he : ¬ e = 0) : esS s z0 (k + 1) = ([], 0, e) := by rw [esS_succ h, hr, esN_bad he]
theorem esS_next {s : List UInt8} {z0 k : Nat} {M : List Ev} {z m : Nat} {x : Ev} (h : esS s z0 k = (M, z, 0)) (hr : evR (s.drop z) = (x, m, 0)) : esS s z0 (k + 1) = (M ++ [x], z + m, 0) := by rw [esS_succ h, hr, esN_on]
theorem esH_1 (s : List UInt8) {n z e : Nat} (he : ¬ e = 0) : esH s (n, z, e) = ([], 0, e) := by unfold esH; rw [if_pos (by simpa using he)]
theorem esH_2 (s : List UInt8) {n z : Nat} : esH s (n, z, 0) = esS s z n := by unfold esH; rw [if_neg (by simp)]
theorem readE_1 {s : List UInt8} {n z e : Nat} (h : numE s 400 13 = (n, z, e)) (he : ¬ e = 0) : readE s = ([], 0, e) := by unfold readE; rw [h, esH_1 s he]
theorem readE_2 {s : List UInt8} {n z : Nat} (h : numE s 400 13 = (n, z, 0)) : readE s = esS s z n := by unfold readE; rw [h, esH_2]
theorem readE_bad {s : List UInt8} {n z0 k : Nat} {M : List Ev} {z m e : Nat} {x : Ev} (hg : numE s 400 13 = (n, z0, 0)) (hk : k < n) (h : esS s z0 k = (M, z, 0)) (hr : evR (s.drop z) = (x, m, e)) (he : ¬ e = 0) : readE s = ([], 0, e) := by
  rw [readE_2 hg]; exact esS_err (esS_bad h hr he) he n (by omega)
/-- what was written is read -/
theorem restE_back {e : Ev} (h : isE e = true) (hi : inE e) (r : List UInt8) : restE e.k.toNat (toldE e ++ r) = (e, (toldE e).length, 0) := by
  rcases isE_kind h with k | k | k
  · obtain ⟨h1, h2⟩ := is_enter h k
    have := restE_1 (readT_back h1 hi.1 r)
    rw [toldE_1 k, k]
    rw [← h2] at this
    exact this
  · obtain ⟨h1, h2⟩ := is_update h k
    have hn : ∀ j, -9223372036854775808 ≤ (e.d.f j).n ∧ (e.d.f j).n ≤ 9223372036854775807 := by
      intro j
      obtain ⟨_, a0, a1, a2, a3⟩ := hi.2
      match j with
      | 0 => exact a0.2
      | 1 => exact a1.2
      | 2 => exact a2.2
      | j + 3 => exact a3.2
    have := restE_2 (read_back e.d h1 hn r)
    rw [toldE_2 k, k]
    rw [← h2] at this
    exact this
  · obtain ⟨h1, h2, h3⟩ := is_leave h k
    have := restE_3 (numE_3 (T := 1000000) (B := 11) (get_put e.i.toNat (by omega) r) (by omega))
    rw [toldE_3 k, k]
    rw [show ((e.i.toNat : Nat) : Int) = e.i by omega, ← h3] at this
    exact this
theorem evR_back {e : Ev} (h : isE e = true) (hi : inE e) (r : List UInt8) : evR (evB e ++ r) = (e, (evB e).length, 0) := by
  have hk : e.k.toNat ≤ 3 := by rcases isE_kind h with k | k | k <;> rw [k] <;> decide
  have h1 := numE_3 (T := 3) (B := 11) (get_put e.k.toNat (by omega) (toldE e ++ r)) hk
  unfold evB
  rw [List.append_assoc, List.length_append]
  refine evR_3 h1 ?_
  rw [List.drop_left]
  exact restE_back h hi r
theorem drop_es {L : List Ev} {k : Nat} {t : Ev} (h : L[k]? = some t) (P R : List UInt8) : (P ++ L.flatMap evB ++ R).drop (P ++ (L.take k).flatMap evB).length = evB t ++ ((L.drop (k + 1)).flatMap evB ++ R) := by
  have hk : k < L.length := (List.getElem?_eq_some_iff.1 h).1
  have e := flat_drop evB L k hk R
  rw [(List.getElem?_eq_some_iff.1 h).2] at e
  rw [List.length_append, List.append_assoc, List.drop_append, List.drop_eq_nil_of_le (by omega), List.nil_append]
  rw [show P.length + ((L.take k).flatMap evB).length - P.length = ((L.take k).flatMap evB).length by omega]
  exact e
theorem take_es {L : List Ev} {k : Nat} {t : Ev} (h : L[k]? = some t) : L.take (k + 1) = L.take k ++ [t] := by
  rw [List.take_add_one, h]; rfl
theorem es_back {L : List Ev} (hg : ∀ e ∈ L, isE e = true) (hi : ∀ t ∈ L, inE t) (hl : L.length ≤ 400) (R : List UInt8) : readE (put L.length ++ L.flatMap evB ++ R) = (L, (put L.length ++ L.flatMap evB).length, 0) := by
  have h0 := get_put L.length (by omega) (L.flatMap evB ++ R)
  rw [← List.append_assoc] at h0
  rw [readE_2 (numE_3 h0 hl)]
  have step : ∀ k, k ≤ L.length → esS (put L.length ++ L.flatMap evB ++ R) (put L.length).length k = (L.take k, (put L.length ++ (L.take k).flatMap evB).length, 0) := by
    intro k
    induction k with
    | zero => intro _; simp [esS]
    | succ k ih =>
      intro hk
      obtain ⟨t, ht⟩ : ∃ t, L[k]? = some t := ⟨L[k], by simp⟩
      have hm := List.mem_of_getElem? ht
      have hr := evR_back (hg t hm) (hi t hm) ((L.drop (k + 1)).flatMap evB ++ R)
      rw [← drop_es ht (put L.length) R] at hr
      rw [esS_next (ih (by omega)) hr, take_es ht]
      simp [Nat.add_assoc]
  have := step L.length (Nat.le_refl _)
  rw [List.take_length] at this
  exact this
/-- alike in all parts of all -/
def sameE (L M : List Ev) : Bool := decide (L.length = M.length) && (List.range L.length).all (fun k => eqE (L.getD k zE) (M.getD k zE))
theorem getD_ofE {L : List Ev} {k : Nat} {t : Ev} (h : L[k]? = some t) : L.getD k zE = t := by simp [List.getD, h]
theorem sameE_self (L : List Ev) : sameE L L = true := by simp [sameE, eqE_self]
theorem sameE_len {L M : List Ev} (h : ¬ L.length = M.length) : sameE L M = false := by simp [sameE, h]
theorem sameE_no {L M : List Ev} {k : Nat} {t u : Ev} (ht : L[k]? = some t) (hu : M[k]? = some u) (h : eqE t u = false) : sameE L M = false := by
  have hk : k < L.length := (List.getElem?_eq_some_iff.1 ht).1
  have : (List.range L.length).all (fun k => eqE (L.getD k zE) (M.getD k zE)) = false := by
    rw [List.all_eq_false]
    exact ⟨k, List.mem_range.2 hk, by rw [getD_ofE ht, getD_ofE hu, h]; simp⟩
  unfold sameE
  rw [this, Bool.and_false]
theorem sameE_yes {L M : List Ev} (hl : L.length = M.length) (h : ∀ (k : Nat) (t u : Ev), L[k]? = some t → M[k]? = some u → eqE t u = true) : sameE L M = true := by
  unfold sameE
  rw [Bool.and_eq_true, decide_eq_true_eq, List.all_eq_true]
  refine ⟨hl, fun k hk => ?_⟩
  have hk := List.mem_range.1 hk
  obtain ⟨t, ht⟩ := get_some L k hk
  obtain ⟨u, hu⟩ := get_some M k (by omega)
  rw [getD_ofE ht, getD_ofE hu]
  exact h k t u ht hu
end
section
open Go.RowKit
set_option linter.unusedVariables false
/-- where the thing id stands, or would have to -/
def posT (id : Int) : List Th → Nat
  | [] => 0
  | a :: r => if a.id < id then posT id r + 1 else 0
theorem posT_le (id : Int) : ∀ L : List Th, posT id L ≤ L.length
  | [] => Nat.le_refl _
  | a :: r => by
    unfold posT
    split
    · have := posT_le id r; simp only [List.length_cons]; omega
    · omega
theorem posT_at {id : Int} : ∀ {L : List Th} {a : Th}, L[posT id L]? = some a → ¬ a.id < id
  | [], a, h => by simp at h
  | b :: r, a, h => by
    unfold posT at h
    split at h
    · exact posT_at (L := r) (by simpa using h)
    · rename_i hb
      simp only [List.getElem?_cons_zero, Option.some.injEq] at h
      rw [← h]; exact hb
theorem posT_hit {id : Int} : ∀ {L : List Th} {k : Nat} {a : Th}, Rise L → L[k]? = some a → a.id = id → posT id L = k
  | [], k, a, _, h, _ => by simp at h
  | b :: r, 0, a, hr, h, e => by
    simp only [List.getElem?_cons_zero, Option.some.injEq] at h
    unfold posT
    rw [if_neg (by rw [h]; omega)]
  | b :: r, k + 1, a, hr, h, e => by
    obtain ⟨h1, h2⟩ := List.pairwise_cons.1 hr
    have h' : r[k]? = some a := by simpa using h
    have := h1 a (List.mem_of_getElem? h')
    unfold posT
    rw [if_pos (by omega), posT_hit h2 h' e]
theorem posT_has {id : Int} {L : List Th} (hr : Rise L) (h : hasT id L = true) : ∃ t, L[posT id L]? = some t ∧ t.id = id ∧ findT id L = some t := by
  obtain ⟨a, ha, e⟩ := has_iff.1 h
  obtain ⟨k, hk, hk'⟩ := List.getElem_of_mem ha
  have hk2 : L[k]? = some a := by rw [List.getElem?_eq_getElem hk, hk']
  refine ⟨a, by rw [posT_hit hr hk2 e]; exact hk2, e, ?_⟩
  rw [← e]; exact find_mem_th hr ha
theorem insS_pos {t : Th} : ∀ {L : List Th}, Rise L → hasT t.id L = false → insS L (posT t.id L) t = witT t L := by
  intro L hr hn
  unfold witT
  rw [out_no hn]
  have hno := has_no hn
  clear hn
  induction L with
  | nil => rfl
  | cons a r ih =>
    obtain ⟨h1, h2⟩ := List.pairwise_cons.1 hr
    unfold posT insT
    by_cases h : a.id < t.id
    · rw [if_pos h, if_neg (by omega)]
      have := ih h2 (fun b hb => hno b (List.mem_cons_of_mem _ hb))
      unfold insS at this ⊢
      simp only [List.take_succ_cons, List.drop_succ_cons, List.cons_append]
      rw [this]
    · have := hno a List.mem_cons_self
      rw [if_neg h, if_pos (by omega)]
      rfl
theorem out_all {id : Int} {r : List Th} (h : ∀ b ∈ r, id < b.id) : outT id r = r := by
  unfold outT
  rw [List.filter_eq_self]
  intro b hb
  have := h b hb
  simp
  omega
theorem set_pos {u : Th} : ∀ {L : List Th}, Rise L → hasT u.id L = true → L.set (posT u.id L) u = witT u L := by
  intro L hr hh
  induction L with
  | nil => simp [hasT] at hh
  | cons a r ih =>
    obtain ⟨h1, h2⟩ := List.pairwise_cons.1 hr
    unfold posT witT
    by_cases h : a.id < u.id
    · have hh' : hasT u.id r = true := by
        obtain ⟨b, hb, e⟩ := has_iff.1 hh
        rcases List.mem_cons.1 hb with rfl | hb
        · omega
        · exact has_iff.2 ⟨b, hb, e⟩
      have := ih h2 hh'
      rw [if_pos h, List.set_cons_succ, this]
      have e : outT u.id (a :: r) = a :: outT u.id r := by unfold outT; rw [List.filter_cons, if_pos (by simp; omega)]
      rw [e, insT, if_neg (by omega)]
      rfl
    · have he : a.id = u.id := by
        obtain ⟨b, hb, e⟩ := has_iff.1 hh
        rcases List.mem_cons.1 hb with rfl | hb
        · exact e
        · have := h1 b hb; omega
      have hr' : ∀ b ∈ r, u.id < b.id := fun b hb => by have := h1 b hb; omega
      rw [if_neg h, List.set_cons_zero]
      have e : outT u.id (a :: r) = r := by
        have : outT u.id (a :: r) = outT u.id r := by unfold outT; rw [List.filter_cons, if_neg (by simp [he])]
        rw [this, out_all hr']
      rw [e, ins_front hr']
theorem delS_pos {id : Int} : ∀ {L : List Th}, Rise L → hasT id L = true → delS L (posT id L) = outT id L := by
  intro L hr hh
  induction L with
  | nil => simp [hasT] at hh
  | cons a r ih =>
    obtain ⟨h1, h2⟩ := List.pairwise_cons.1 hr
    unfold posT
    by_cases h : a.id < id
    · have hh' : hasT id r = true := by
        obtain ⟨b, hb, e⟩ := has_iff.1 hh
        rcases List.mem_cons.1 hb with rfl | hb
        · omega
        · exact has_iff.2 ⟨b, hb, e⟩
      have := ih h2 hh'
      rw [if_pos h]
      have e : outT id (a :: r) = a :: outT id r := by unfold outT; rw [List.filter_cons, if_pos (by simp; omega)]
      rw [e, ← this]
      rfl
    · have he : a.id = id := by
        obtain ⟨b, hb, e⟩ := has_iff.1 hh
        rcases List.mem_cons.1 hb with rfl | hb
        · exact e
        · have := h1 b hb; omega
      have hr' : ∀ b ∈ r, id < b.id := fun b hb => by have := h1 b hb; omega
      rw [if_neg h]
      have e : outT id (a :: r) = r := by
        have : outT id (a :: r) = outT id r := by unfold outT; rw [List.filter_cons, if_neg (by simp [he])]
        rw [this, out_all hr']
      rw [e]; rfl
/-- what one event makes of a row -/
def atT (id : Int) (L : List Th) : Th := (findT id L).getD zT
def doE (L : List Th) (e : Ev) : List Th × Bool :=
  if isE e = false ∨ hasT e.i L = (e.k == 1) then (L, false)
  else if e.k = 1 then (witT e.t L, true)
  else if e.k = 2 then (witT (apply (atT e.i L) e.d) L, true)
  else (outT e.i L, true)
theorem doE_bad {L : List Th} {e : Ev} (h : isE e = false) : doE L e = (L, false) := by unfold doE; rw [if_pos (.inl h)]
theorem doE_no {L : List Th} {e : Ev} (h : hasT e.i L = (e.k == 1)) : doE L e = (L, false) := by unfold doE; rw [if_pos (.inr h)]
theorem doE_1 {L : List Th} {e : Ev} (h : isE e = true) (hk : e.k = 1) (hh : hasT e.i L = false) : doE L e = (witT e.t L, true) := by
  unfold doE; rw [if_neg (by simp [h, hk, hh]), if_pos hk]
theorem doE_2 {L : List Th} {e : Ev} (h : isE e = true) (hk : e.k = 2) (hh : hasT e.i L = true) : doE L e = (witT (apply (atT e.i L) e.d) L, true) := by
  unfold doE; rw [if_neg (by simp [h, hk, hh]), if_neg (by omega), if_pos hk]
theorem doE_3 {L : List Th} {e : Ev} (h : isE e = true) (hk : e.k = 3) (hh : hasT e.i L = true) : doE L e = (outT e.i L, true) := by
  unfold doE; rw [if_neg (by simp [h, hk, hh]), if_neg (by omega), if_neg (by omega)]
theorem apply_id (t : Th) (d : Dl) : (apply t d).id = t.id := by rw [apply5]
theorem atT_at {id : Int} {L : List Th} (hr : Rise L) (h : hasT id L = true) : L[posT id L]? = some (atT id L) ∧ (atT id L).id = id ∧ atT id L ∈ L := by
  obtain ⟨t, h1, h2, h3⟩ := posT_has hr h
  have : atT id L = t := by unfold atT; rw [h3]; rfl
  rw [this]
  exact ⟨h1, h2, List.mem_of_getElem? h1⟩
/-- rows as a watcher has them -/
structure GoodR (L : List Th) : Prop where
  rise : Rise L
  is : ∀ t ∈ L, isT t = true
  fit : ∀ t ∈ L, inT t
theorem isT_apply {t : Th} {d : Dl} (ht : isT t = true) (hd : isD d = true) : isT (apply t d) = true := by
  obtain ⟨a1, a2, a3, a4, a5, a6, a7, a8, a9, a10⟩ := isD_small hd
  have f0 : isF d.f0 = true := a10 0
  have f1 : isF d.f1 = true := a10 1
  have f2 : isF d.f2 = true := a10 2
  have f3 : isF d.f3 = true := a10 3
  rw [isT_eq] at ht ⊢
  simp only [Bool.and_eq_true, decide_eq_true_eq] at ht ⊢
  obtain ⟨⟨⟨⟨⟨⟨h1, h2⟩, h3⟩, h4⟩, h5⟩, h6⟩, h7⟩ := ht
  have ho : onB d.x d.y = true := by simp [onB, inB]; omega
  rw [apply5]
  simp only
  refine ⟨⟨⟨⟨⟨⟨h1, h2⟩, ?_⟩, ?_⟩, ?_⟩, ?_⟩, ?_⟩
  · cases d.m.testBit 0 <;> assumption
  · cases d.m.testBit 1 <;> assumption
  · cases d.m.testBit 2 <;> assumption
  · cases d.m.testBit 3 <;> assumption
  · cases d.m.testBit 4 <;> assumption
theorem inT_apply {t : Th} {d : Dl} (ht : inT t) (hd : inD d) : inT (apply t d) := by
  obtain ⟨h0, h1, h2, h3⟩ := ht
  obtain ⟨_, d0, d1, d2, d3⟩ := hd
  rw [apply5]
  refine ⟨?_, ?_, ?_, ?_⟩ <;> simp only
  · cases d.m.testBit 1 <;> assumption
  · cases d.m.testBit 2 <;> assumption
  · cases d.m.testBit 3 <;> assumption
  · cases d.m.testBit 4 <;> assumption
theorem doE_ok {L M : List Th} {e : Ev} (h : doE L e = (M, true)) : isE e = true ∧ ((e.k = 1 ∧ hasT e.i L = false ∧ M = witT e.t L) ∨ (e.k = 2 ∧ hasT e.i L = true ∧ M = witT (apply (atT e.i L) e.d) L) ∨ (e.k = 3 ∧ hasT e.i L = true ∧ M = outT e.i L)) := by
  cases hb : isE e with
  | false => rw [doE_bad hb] at h; simp at h
  | true =>
    refine ⟨rfl, ?_⟩
    rcases isE_kind hb with k | k | k
    · cases hh : hasT e.i L with
      | true => rw [doE_no (by rw [hh, k]; rfl)] at h; simp at h
      | false =>
        rw [doE_1 hb k hh] at h
        simp only [Prod.mk.injEq, and_true] at h
        exact .inl ⟨k, rfl, h.symm⟩
    · cases hh : hasT e.i L with
      | false => rw [doE_no (by rw [hh, k]; rfl)] at h; simp at h
      | true =>
        rw [doE_2 hb k hh] at h
        simp only [Prod.mk.injEq, and_true] at h
        exact .inr (.inl ⟨k, rfl, h.symm⟩)
    · cases hh : hasT e.i L with
      | false => rw [doE_no (by rw [hh, k]; rfl)] at h; simp at h
      | true =>
        rw [doE_3 hb k hh] at h
        simp only [Prod.mk.injEq, and_true] at h
        exact .inr (.inr ⟨k, rfl, h.symm⟩)
theorem doE_len {L M : List Th} {e : Ev} (hr : Rise L) (h : doE L e = (M, true)) : M.length ≤ L.length + 1 := by
  obtain ⟨hb, ⟨k, hh, rfl⟩ | ⟨k, hh, rfl⟩ | ⟨k, hh, rfl⟩⟩ := doE_ok h
  · obtain ⟨h1, h2⟩ := is_enter hb k
    have hi : e.i = e.t.id := by rw [h2]
    rw [wit_length0 (by rw [← hi]; exact hh)]
    exact Nat.le_refl _
  · obtain ⟨h1, h2, h3⟩ := atT_at hr hh
    rw [wit_length1 hr (by rw [apply_id, h2]; exact hh)]; omega
  · have := out_length e.i L; omega
theorem doE_rise {L M : List Th} {e : Ev} (hr : Rise L) (h : doE L e = (M, true)) : Rise M := by
  obtain ⟨hb, ⟨k, hh, rfl⟩ | ⟨k, hh, rfl⟩ | ⟨k, hh, rfl⟩⟩ := doE_ok h
  · exact wit_rise hr
  · exact wit_rise hr
  · exact out_rise hr
theorem doE_fit {L M : List Th} {e : Ev} (hr : Rise L) (hL : ∀ t ∈ L, inT t) (he : inE e) (h : doE L e = (M, true)) : ∀ t ∈ M, inT t := by
  intro t ht
  obtain ⟨hb, ⟨k, hh, rfl⟩ | ⟨k, hh, rfl⟩ | ⟨k, hh, rfl⟩⟩ := doE_ok h
  · rcases wit_mem.1 ht with rfl | ⟨ht, _⟩
    · exact he.1
    · exact hL t ht
  · rcases wit_mem.1 ht with rfl | ⟨ht, _⟩
    · exact inT_apply (hL _ (atT_at hr hh).2.2) he.2
    · exact hL t ht
  · exact hL t (out_mem.1 ht).1
theorem doE_good {L M : List Th} {e : Ev} (hL : GoodR L) (he : inE e) (h : doE L e = (M, true)) : GoodR M := by
  refine ⟨doE_rise hL.rise h, fun t ht => ?_, doE_fit hL.rise hL.fit he h⟩
  obtain ⟨hb, ⟨k, hh, rfl⟩ | ⟨k, hh, rfl⟩ | ⟨k, hh, rfl⟩⟩ := doE_ok h
  · rcases wit_mem.1 ht with rfl | ⟨ht, _⟩
    · exact (is_enter hb k).1
    · exact hL.is t ht
  · rcases wit_mem.1 ht with rfl | ⟨ht, _⟩
    · exact isT_apply (hL.is _ (atT_at hL.rise hh).2.2) (is_update hb k).1
    · exact hL.is t ht
  · exact hL.is t (out_mem.1 ht).1
/-- what many make of a row: L, as it is, if one can't be -/
def foS (L : List Th) (A : List Th) : List Ev → List Th × Bool
  | [] => (A, true)
  | e :: es => if (doE A e).2 = true then foS L (doE A e).1 es else (L, false)
def foE (L : List Th) (es : List Ev) : List Th × Bool := foS L L es
theorem foS_step {L A M : List Th} {es : List Ev} {k : Nat} {e : Ev} (h : es[k]? = some e) (hd : doE A e = (M, true)) : foS L A (es.drop k) = foS L M (es.drop (k + 1)) := by
  have hlt : k < es.length := (List.getElem?_eq_some_iff.1 h).1
  have e' : es[k] = e := (List.getElem?_eq_some_iff.1 h).2
  rw [List.drop_eq_getElem_cons hlt, e', foS, hd]
  simp only
  rw [if_pos trivial]
theorem foS_stop {L A M : List Th} {es : List Ev} {k : Nat} {e : Ev} (h : es[k]? = some e) (hd : doE A e = (M, false)) : foS L A (es.drop k) = (L, false) := by
  have hlt : k < es.length := (List.getElem?_eq_some_iff.1 h).1
  have e' : es[k] = e := (List.getElem?_eq_some_iff.1 h).2
  rw [List.drop_eq_getElem_cons hlt, e', foS, hd]
  simp only
  rw [if_neg (by simp)]
theorem foS_end {L A : List Th} {es : List Ev} {n : Nat} (h : es.length ≤ n) : foS L A (es.drop n) = (A, true) := by
  rw [List.drop_of_length_le h, foS]
theorem doE_same {L M : List Th} {e : Ev} (h : doE L e = (M, false)) : M = L := by
  unfold doE at h
  split at h
  · simp only [Prod.mk.injEq, and_true] at h; exact h.symm
  · split at h
    · simp at h
    · split at h <;> simp at h
theorem foE_one (L : List Th) (e : Ev) : foE L [e] = doE L e := by
  unfold foE
  rcases hd : doE L e with ⟨M, b⟩
  cases b
  · rw [doE_same hd]; simp [foS, hd]
  · simp [foS, hd]
theorem foS_len {L : List Th} : ∀ {es : List Ev} {A M : List Th} {b : Bool}, Rise A → foS L A es = (M, b) → M.length ≤ max L.length (A.length + es.length)
  | [], A, M, b, hr, h => by
    simp only [foS, Prod.mk.injEq] at h
    obtain ⟨rfl, _⟩ := h
    simp
    omega
  | e :: es, A, M, b, hr, h => by
    rcases hd : doE A e with ⟨B, c⟩
    rw [foS, hd] at h
    cases c
    · simp at h
      obtain ⟨rfl, _⟩ := h
      omega
    · simp only [if_true] at h
      have h1 := foS_len (doE_rise hr hd) h
      have h2 := doE_len hr hd
      simp only [List.length_cons]
      omega
theorem foS_good {L : List Th} (hL : GoodR L) : ∀ {es : List Ev} {A M : List Th} {b : Bool}, GoodR A → (∀ e ∈ es, inE e) → foS L A es = (M, b) → GoodR M
  | [], A, M, b, hr, hi, h => by
    simp only [foS, Prod.mk.injEq] at h
    obtain ⟨rfl, _⟩ := h
    exact hr
  | e :: es, A, M, b, hr, hi, h => by
    rcases hd : doE A e with ⟨B, c⟩
    rw [foS, hd] at h
    cases c
    · simp at h
      obtain ⟨rfl, _⟩ := h
      exact hL
    · simp only [if_true] at h
      exact foS_good hL (doE_good hr (hi e List.mem_cons_self) hd) (fun x hx => hi x (List.mem_cons_of_mem _ hx)) h
theorem foE_good {L M : List Th} {es : List Ev} {b : Bool} (hL : GoodR L) (hi : ∀ e ∈ es, inE e) (h : foE L es = (M, b)) : GoodR M := foS_good hL hL hi h
theorem foE_len {L M : List Th} {es : List Ev} {b : Bool} (hL : Rise L) (h : foE L es = (M, b)) : M.length ≤ L.length + es.length := by
  have := foS_len hL h
  omega
theorem foS_no {L : List Th} : ∀ {es : List Ev} {A M : List Th}, foS L A es = (M, false) → M = L
  | [], A, M, h => by simp [foS] at h
  | e :: es, A, M, h => by
    rw [foS] at h
    split at h
    · exact foS_no h
    · simp only [Prod.mk.injEq, and_true] at h
      exact h.symm
theorem foE_no {L M : List Th} {es : List Ev} (h : foE L es = (M, false)) : M = L := foS_no h
end
end Go.Proofs.Ytjdlcocncacmlaa
