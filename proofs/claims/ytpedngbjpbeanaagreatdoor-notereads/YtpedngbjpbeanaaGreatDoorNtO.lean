/- What is read of a note, part by part, in memory. -/
import Derived.Test.YtpedngbjpbeanaaGreatDoorNtL
import Derived.Test.YtpedngbjpbeanaaGreatDoorNtM
import Derived.Test.YtpedngbjpbeanaaGreatDoorNtN
namespace Go.Proofs.YtpedngbjpbeanaaGreatDoor
open Go.RowKit
set_option linter.unusedVariables false
set_option maxRecDepth 100000
/-- a note's rows lie in memory of their own -/
structure OwnN (W : World) (base : Nat) (s : Ns) (n : Nt) : Prop where
  mo : W.ownsRow base 50 11 (.slice s.pm n.mo.length s.cm) n.mo.length (flatT n.mo)
  ha : W.ownsRow base 43 2 (.slice s.ph n.ha.length s.ch) n.ha.length (flatG Hd.cs n.ha)
  gi : W.ownsRow base 50 11 (.slice s.pg n.gi.length s.cg) n.gi.length (flatT n.gi)
  wa : W.ownsRow base 57 22 (.slice s.pw n.wa.length s.cw) n.wa.length (flatM n.wa)
theorem OwnN.row {W : World} {base : Nat} {s : Ns} {n : Nt} (h : OwnN W base s n) : RowN W s n := ⟨row_own h.mo rfl, row_ownG Hd.z h.ha rfl, row_own h.gi rfl, rowM_own h.wa rfl⟩
theorem OwnN.but {W W' : World} {base g : Nat} {s : Ns} {n : Nt} (h : OwnN W base s n) (hb : But g W W') (hg : g < base) : OwnN W' base s n := ⟨owns_but h.mo hb hg, owns_but h.ha hb hg, owns_but h.gi hb hg, owns_but h.wa hb hg⟩
theorem OwnN.on {W W' : World} {base : Nat} {s : Ns} {n : Nt} (h : OwnN W base s n) (hb : Below W.heap.size W W') : OwnN W' base s n := ⟨owns_on h.mo hb, owns_on h.ha hb, owns_on h.gi hb, owns_on h.wa hb⟩
theorem OwnN.mono {W : World} {base b : Nat} {s : Ns} {n : Nt} (h : OwnN W base s n) (hb : b ≤ base) : OwnN W b s n := ⟨h.mo.mono hb, h.ha.mono hb, h.gi.mono hb, h.wa.mono hb⟩
theorem own_zero (W : World) (base : Nat) : OwnN W base zS zN := ⟨World.ownsRow_nil _ _ _ _, World.ownsRow_nil _ _ _ _, World.ownsRow_nil _ _ _ _, World.ownsRow_nil _ _ _ _⟩
/-- lengths of what was read -/
structure LowN (n : Nt) : Prop where
  mo : n.mo.length ≤ 1000000
  ha : n.ha.length ≤ 1000000
  gi : n.gi.length ≤ 1000000
  wa : n.wa.length ≤ 1000000
theorem LowN.len {n : Nt} (h : LowN n) : LenN n := by
  obtain ⟨a, b, c, d⟩ := h
  refine ⟨?_, ?_, ?_, ?_⟩ <;> unfold maxLen <;> omega
/-- a note as far as it was read: its parts from the i-th on are empty still -/
structure InvN (g base i : Nat) (n : Nt) (W : World) (s : Ns) : Prop where
  lies : W.heap[g]? = some (n.o s)
  own : OwnN W base s n
  lt : g < base
  le : base ≤ W.heap.size
  fit : FitN n
  low : LowN n
  e2 : i ≤ 2 → n.mo = [] ∧ s.pm = none ∧ s.cm = 0
  e3 : i ≤ 3 → n.ha = [] ∧ s.ph = none ∧ s.ch = 0
  e4 : i ≤ 4 → n.gi = [] ∧ s.pg = none ∧ s.cg = 0
  e5 : i ≤ 5 → n.wa = [] ∧ s.pw = none ∧ s.cw = 0
theorem stepN_le (i : Nat) (m : Nt) (l : List UInt8) : (stepN i m l).2.1 ≤ l.length := by
  unfold stepN
  split
  · exact (rdI_le l).1
  · exact (rdI_le l).1
  · exact (rdL_ok readT_rd (L := (rdL readT l).1) (y := (rdL readT l).2.1) (e := (rdL readT l).2.2) rfl).1
  · exact (rdL_ok readH_rd (L := (rdL readH l).1) (y := (rdL readH l).2.1) (e := (rdL readH l).2.2) rfl).1
  · exact (rdL_ok readT_rd (L := (rdL readT l).1) (y := (rdL readT l).2.1) (e := (rdL readT l).2.2) rfl).1
  · exact (rdL_ok readC_rd (L := (rdL readC l).1) (y := (rdL readC l).2.1) (e := (rdL readC l).2.2) rfl).1
theorem cut_len (s : ByteArray) (z : Nat) : (s.extract z s.size).data.toList.length ≤ s.size := by
  rw [cut_data, List.length_drop]
  show s.size - z ≤ s.size
  omega
theorem nt_takes {s : ByteArray} (hs : s.size ≤ 1000000) (g base i : Nat) (p : Pt) (hp : ntPs[i]? = some p) : TakesP stepN (fun j n W => ∃ q, InvN g base j n W q) s g i p := by
  have hsz : ∀ z, (s.extract z s.size).size ≤ 1000000 := fun z => by rw [ByteArray.size_extract]; omega
  match i, hp with
  | 0, hp =>
    cases hp
    intro n m z k e W ⟨q, hI⟩ hz h
    have h2 : ((⟨(rdI (s.data.toList.drop z)).1, n.be, n.mo, n.ha, n.gi, n.wa⟩ : Nt), (rdI (s.data.toList.drop z)).2) = (m, k, e) := h.out
    simp only [Prod.mk.injEq] at h2
    obtain ⟨rfl, h3⟩ := h2
    have h4 : rdI ((s.extract z s.size).data.toList) = ((rdI (s.data.toList.drop z)).1, k, e) := by rw [cut_data, ← h3]
    refine (nm_take (k := 0) hI.lies rfl (hid h4) (hsz z)).mono ?_
    rintro r W' ⟨rfl, h5, h6⟩
    have o := hI.own.but h6 hI.lt
    exact ⟨rfl, ⟨q, h5, ⟨o.mo, o.ha, o.gi, o.wa⟩, hI.lt, Nat.le_trans hI.le h6.size, ⟨hI.fit.mo, hI.fit.gi, hI.fit.wa⟩, ⟨hI.low.mo, hI.low.ha, hI.low.gi, hI.low.wa⟩, fun h => hI.e2 (by omega), fun h => hI.e3 (by omega), fun h => hI.e4 (by omega), fun h => hI.e5 (by omega)⟩, h6⟩
  | 1, hp =>
    cases hp
    intro n m z k e W ⟨q, hI⟩ hz h
    have h2 : ((⟨n.fr, (rdI (s.data.toList.drop z)).1, n.mo, n.ha, n.gi, n.wa⟩ : Nt), (rdI (s.data.toList.drop z)).2) = (m, k, e) := h.out
    simp only [Prod.mk.injEq] at h2
    obtain ⟨rfl, h3⟩ := h2
    have h4 : rdI ((s.extract z s.size).data.toList) = ((rdI (s.data.toList.drop z)).1, k, e) := by rw [cut_data, ← h3]
    refine (nm_take (k := 1) hI.lies rfl (hid h4) (hsz z)).mono ?_
    rintro r W' ⟨rfl, h5, h6⟩
    have o := hI.own.but h6 hI.lt
    exact ⟨rfl, ⟨q, h5, ⟨o.mo, o.ha, o.gi, o.wa⟩, hI.lt, Nat.le_trans hI.le h6.size, ⟨hI.fit.mo, hI.fit.gi, hI.fit.wa⟩, ⟨hI.low.mo, hI.low.ha, hI.low.gi, hI.low.wa⟩, fun h => hI.e2 (by omega), fun h => hI.e3 (by omega), fun h => hI.e4 (by omega), fun h => hI.e5 (by omega)⟩, h6⟩
  | 2, hp =>
    cases hp
    intro n m z k e W ⟨q, hI⟩ hz h
    have h2 : ((⟨n.fr, n.be, (rdL readT (s.data.toList.drop z)).1, n.ha, n.gi, n.wa⟩ : Nt), (rdL readT (s.data.toList.drop z)).2) = (m, k, e) := h.out
    simp only [Prod.mk.injEq] at h2
    obtain ⟨rfl, h3⟩ := h2
    have h4 : rdL readT ((s.extract z s.size).data.toList) = ((rdL readT (s.data.toList.drop z)).1, k, e) := by rw [cut_data, ← h3]
    have hok := rdL_ok readT_rd h4
    have hcl := cut_len s z
    obtain ⟨x1, x2, x3⟩ := hI.e2 (by omega)
    have hk : (#[.int .i64 n.fr, .int .i64 n.be, .slice q.pm n.mo.length q.cm, .slice q.ph n.ha.length q.ch, .slice q.pg n.gi.length q.cg, .slice q.pw n.wa.length q.cw] : Array Value)[2]? = some (.slice none 0 0) := by rw [x1, x2, x3]; rfl
    refine (th_take (k := 2) hI.lies hk (hid h4) (hsz z)).mono ?_
    rintro r W' ⟨p, cap, rfl, h5, h7, h6⟩
    have o := hI.own.but h6 hI.lt
    exact ⟨rfl, ⟨⟨p, cap, q.ph, q.ch, q.pg, q.cg, q.pw, q.cw⟩, h5, ⟨h7.mono hI.le, o.ha, o.gi, o.wa⟩, hI.lt, Nat.le_trans hI.le h6.size, ⟨fun t ht => (hok.2.2 t ht).2, hI.fit.gi, hI.fit.wa⟩, ⟨by show (rdL readT (s.data.toList.drop z)).1.length ≤ _; omega, hI.low.ha, hI.low.gi, hI.low.wa⟩, fun h => by omega, fun h => hI.e3 (by omega), fun h => hI.e4 (by omega), fun h => hI.e5 (by omega)⟩, h6⟩
  | 3, hp =>
    cases hp
    intro n m z k e W ⟨q, hI⟩ hz h
    have h2 : ((⟨n.fr, n.be, n.mo, (rdL readH (s.data.toList.drop z)).1, n.gi, n.wa⟩ : Nt), (rdL readH (s.data.toList.drop z)).2) = (m, k, e) := h.out
    simp only [Prod.mk.injEq] at h2
    obtain ⟨rfl, h3⟩ := h2
    have h4 : rdL readH ((s.extract z s.size).data.toList) = ((rdL readH (s.data.toList.drop z)).1, k, e) := by rw [cut_data, ← h3]
    have hok := rdL_ok readH_rd h4
    have hcl := cut_len s z
    obtain ⟨x1, x2, x3⟩ := hI.e3 (by omega)
    have hk : (#[.int .i64 n.fr, .int .i64 n.be, .slice q.pm n.mo.length q.cm, .slice q.ph n.ha.length q.ch, .slice q.pg n.gi.length q.cg, .slice q.pw n.wa.length q.cw] : Array Value)[3]? = some (.slice none 0 0) := by rw [x1, x2, x3]; rfl
    refine (hd_take (k := 3) hI.lies hk (hid h4) (hsz z)).mono ?_
    rintro r W' ⟨p, cap, rfl, h5, h7, h6⟩
    have o := hI.own.but h6 hI.lt
    exact ⟨rfl, ⟨⟨q.pm, q.cm, p, cap, q.pg, q.cg, q.pw, q.cw⟩, h5, ⟨o.mo, h7.mono hI.le, o.gi, o.wa⟩, hI.lt, Nat.le_trans hI.le h6.size, ⟨hI.fit.mo, hI.fit.gi, hI.fit.wa⟩, ⟨hI.low.mo, by show (rdL readH (s.data.toList.drop z)).1.length ≤ _; omega, hI.low.gi, hI.low.wa⟩, fun h => by omega, fun h => by omega, fun h => hI.e4 (by omega), fun h => hI.e5 (by omega)⟩, h6⟩
  | 4, hp =>
    cases hp
    intro n m z k e W ⟨q, hI⟩ hz h
    have h2 : ((⟨n.fr, n.be, n.mo, n.ha, (rdL readT (s.data.toList.drop z)).1, n.wa⟩ : Nt), (rdL readT (s.data.toList.drop z)).2) = (m, k, e) := h.out
    simp only [Prod.mk.injEq] at h2
    obtain ⟨rfl, h3⟩ := h2
    have h4 : rdL readT ((s.extract z s.size).data.toList) = ((rdL readT (s.data.toList.drop z)).1, k, e) := by rw [cut_data, ← h3]
    have hok := rdL_ok readT_rd h4
    have hcl := cut_len s z
    obtain ⟨x1, x2, x3⟩ := hI.e4 (by omega)
    have hk : (#[.int .i64 n.fr, .int .i64 n.be, .slice q.pm n.mo.length q.cm, .slice q.ph n.ha.length q.ch, .slice q.pg n.gi.length q.cg, .slice q.pw n.wa.length q.cw] : Array Value)[4]? = some (.slice none 0 0) := by rw [x1, x2, x3]; rfl
    refine (th_take (k := 4) hI.lies hk (hid h4) (hsz z)).mono ?_
    rintro r W' ⟨p, cap, rfl, h5, h7, h6⟩
    have o := hI.own.but h6 hI.lt
    exact ⟨rfl, ⟨⟨q.pm, q.cm, q.ph, q.ch, p, cap, q.pw, q.cw⟩, h5, ⟨o.mo, o.ha, h7.mono hI.le, o.wa⟩, hI.lt, Nat.le_trans hI.le h6.size, ⟨hI.fit.mo, fun t ht => (hok.2.2 t ht).2, hI.fit.wa⟩, ⟨hI.low.mo, hI.low.ha, by show (rdL readT (s.data.toList.drop z)).1.length ≤ _; omega, hI.low.wa⟩, fun h => by omega, fun h => by omega, fun h => by omega, fun h => hI.e5 (by omega)⟩, h6⟩
  | 5, hp =>
    cases hp
    intro n m z k e W ⟨q, hI⟩ hz h
    have h2 : ((⟨n.fr, n.be, n.mo, n.ha, n.gi, (rdL readC (s.data.toList.drop z)).1⟩ : Nt), (rdL readC (s.data.toList.drop z)).2) = (m, k, e) := h.out
    simp only [Prod.mk.injEq] at h2
    obtain ⟨rfl, h3⟩ := h2
    have h4 : rdL readC ((s.extract z s.size).data.toList) = ((rdL readC (s.data.toList.drop z)).1, k, e) := by rw [cut_data, ← h3]
    have hok := rdL_ok readC_rd h4
    have hcl := cut_len s z
    obtain ⟨x1, x2, x3⟩ := hI.e5 (by omega)
    have hk : (#[.int .i64 n.fr, .int .i64 n.be, .slice q.pm n.mo.length q.cm, .slice q.ph n.ha.length q.ch, .slice q.pg n.gi.length q.cg, .slice q.pw n.wa.length q.cw] : Array Value)[5]? = some (.slice none 0 0) := by rw [x1, x2, x3]; rfl
    refine (cm_take (k := 5) hI.lies hk (hid h4) (hsz z)).mono ?_
    rintro r W' ⟨p, cap, rfl, h5, h7, h6⟩
    have o := hI.own.but h6 hI.lt
    exact ⟨rfl, ⟨⟨q.pm, q.cm, q.ph, q.ch, q.pg, q.cg, p, cap⟩, h5, ⟨o.mo, o.ha, o.gi, h7.mono hI.le⟩, hI.lt, Nat.le_trans hI.le h6.size, ⟨hI.fit.mo, hI.fit.gi, fun c hc => (hok.2.2 c hc).2⟩, ⟨hI.low.mo, hI.low.ha, hI.low.gi, by show (rdL readC (s.data.toList.drop z)).1.length ≤ _; omega⟩, fun h => by omega, fun h => by omega, fun h => by omega, fun h => by omega⟩, h6⟩
  | i + 6, hp => simp [ntPs] at hp
end Go.Proofs.YtpedngbjpbeanaaGreatDoor
