/- What a note is that comes in: its things and commands fit, its rows lie cell by cell. -/
import Derived.Test.YtpedngbjpbeanaaGreatDoorNtA
import Derived.Deep.Slices
namespace Go.Proofs.YtpedngbjpbeanaaGreatDoor
open Go.RowKit Go.ChangeShapes Go.WideShapes Go.Deep Go.Joins
set_option linter.unusedVariables false
set_option maxRecDepth 100000
theorem cellsOfHd : Tryz.prog.cellsOf 43 = 2 := by kernel_rfl
theorem cellsOfTh : Tryz.prog.cellsOf 50 = 11 := by kernel_rfl
theorem cellsOfCm : Tryz.prog.cellsOf 57 = 22 := by kernel_rfl
theorem cellsOfI : Tryz.prog.cellsOf 3 = 1 := by kernel_rfl
theorem cellsOfTs : Tryz.prog.cellsOf 22 = 1 := by kernel_rfl
theorem cellsOfHs : Tryz.prog.cellsOf 23 = 1 := by kernel_rfl
theorem cellsOfCs : Tryz.prog.cellsOf 24 = 1 := by kernel_rfl
theorem cellsOfNt : Tryz.prog.cellsOf 26 = 6 := by kernel_rfl
theorem rowT_of {w : World} {p : Option Addr} {L : List Th} (h : RowG Th.cs 11 w p L) : RowT w p L := by
  rcases h with h | ⟨b, off, h, hc⟩
  · exact .inl h
  · refine .inr ⟨b, off, h, fun k t hk => cellsT_of fun j hj => ?_⟩
    have hj' : j < t.cs.length := hj
    rw [List.getElem?_eq_getElem hj']
    exact hc k t hk j _ (List.getElem?_eq_getElem hj')
/-- what is nil is empty -/
structure NilN (s : Ns) (n : Nt) : Prop where
  mo : s.pm = none → n.mo.length = 0 ∧ s.cm = 0
  ha : s.ph = none → n.ha.length = 0 ∧ s.ch = 0
  gi : s.pg = none → n.gi.length = 0 ∧ s.cg = 0
  wa : s.pw = none → n.wa.length = 0 ∧ s.cw = 0
section
variable {H : Type} {enc : TypeId × Value → H} {w : World} {base : Nat} {spare : Nat → Bool} {held : Bool} {r : Reach} {b0 : Nat} {v : Value} {d : DataW H} {p : List MemPlace}
theorem trod_hd {fuel : Nat} {cs : List Value} {x : DataW H × List MemPlace} (hl : cs.length = 2) (h : DataW.trod enc Tryz.prog w base spare held fuel 43 cs = some x) : ∃ s : Hd, cs = s.cs ∧ True := by
  match cs, hl with
  | [c0, c1], _ =>
    obtain ⟨y0, y1, n, _, _, h0, h1⟩ := trod_struct2 Tryz.underlying43 h
    simp only [cellsOfI, List.drop_zero, List.take_succ_cons, List.take_zero, List.drop_succ_cons] at h0 h1
    obtain ⟨a, e0, _, w0⟩ := DataW.trod_int Tryz.underlying3 h0
    obtain ⟨b, e1, _, w1⟩ := DataW.trod_int Tryz.underlying3 h1
    simp only [List.cons.injEq, and_true] at e0 e1
    subst e0
    subst e1
    exact ⟨⟨a, b⟩, rfl, trivial⟩
/-- a row of whatever structs within a struct that comes in -/
theorem open_rowsC {α : Type} (dflt : α) {cs : α → List Value} {z : Nat} (hz : ∀ a, (cs a).length = z) {u : TypeId} (hz0 : 0 < z) {T : TypeId} (hT : Tryz.prog.underlying T = some (.slice u)) (hc : Tryz.prog.cellsOf u = z) {P : α → Prop}
    (ht : ∀ (fuel : Nat) (l : List Value) (x : DataW H × List MemPlace), l.length = z → DataW.trod enc Tryz.prog w base spare held fuel u l = some x → ∃ a, l = cs a ∧ P a)
    {fuel : Nat} {c : Value} {x : DataW H × List MemPlace} (hf : DataW.trod enc Tryz.prog w base spare held fuel T [c] = some x) :
    ∃ (a : Option Addr) (cap : Nat) (L : List α), c = .slice a L.length cap ∧ (∀ t ∈ L, P t) ∧ RowG cs z w a L ∧ L.length ≤ cap ∧ cap ≤ maxLen ∧ (a = none → L.length = 0 ∧ cap = 0) := by
  rcases open_slice hT hf with ⟨hcs, _⟩ | ⟨a', len, cap, m, n, D, Pl, hcs, _, hl, hm, hmm, _, hx⟩
  · simp only [List.cons.injEq, and_true] at hcs
    subst hcs
    exact ⟨none, 0, [], rfl, by simp, .inl rfl, by simp, by unfold maxLen; omega, fun _ => ⟨rfl, rfl⟩⟩
  · simp only [List.cons.injEq, and_true] at hcs
    subst hcs
    have hlm : len ≤ m := by rw [hmm]; split <;> omega
    rw [hc] at hx
    obtain ⟨f, hF⟩ := @choose_lt α ⟨dflt⟩ len (fun i (t : α) => P t ∧ ∀ j, j < z → w.cell? (a'.add (i * z + j)) = (cs t)[j]?) (fun i hi => by
      obtain ⟨cs', h1, h2⟩ := hx i (by omega)
      obtain ⟨_, hlen, hcell⟩ := World.cells?_some h1
      obtain ⟨t, rfl, hp⟩ := ht _ _ _ hlen h2
      exact ⟨t, hp, fun j hj => by rw [← add_add]; exact hcell j hj⟩)
    refine ⟨some a', cap, (List.range len).map f, by simp, ?_, ?_, by simpa using hl, hm, (fun h => by cases h)⟩
    · intro t ht
      simp only [List.mem_map, List.mem_range] at ht
      obtain ⟨i, hi, rfl⟩ := ht
      exact (hF i hi).1
    · by_cases h0 : len = 0
      · left; subst h0; rfl
      · right
        obtain ⟨b, off, spot⟩ := a'
        have hcz := (hF 0 (by omega)).2 0 hz0
        have hspot : spot = none := by
          rw [List.getElem?_eq_getElem (by rw [hz]; exact hz0)] at hcz
          have := World.cell?_spot hcz
          simpa [Addr.add] using this
        subst hspot
        refine ⟨b, off, rfl, fun k t hk j u' hu => ?_⟩
        have hk' : k < len := by
          rcases Nat.lt_or_ge k len with h | h
          · exact h
          · rw [List.getElem?_eq_none (by simpa using h)] at hk; cases hk
        rw [List.getElem?_map, List.getElem?_range hk'] at hk
        simp only [Option.map_some, Option.some.injEq] at hk
        subst hk
        have hj : j < z := by rw [← hz (f k)]; exact (List.getElem?_eq_some_iff.1 hu).1
        have e : (⟨b, off, none⟩ : Addr).add (k * z + j) = ⟨b, off + k * z + j, none⟩ := by unfold Addr.add; split <;> simp_all [Nat.add_assoc]
        rw [← e, (hF k hk').2 j hj]
        exact hu
theorem open_ntN (hv : Value.okWide Tryz.prog w r b0 26 v) (h : DataW.Trod enc Tryz.prog w base spare held 26 v d p) : ∃ (n : Nt) (s : Ns), v = n.v s ∧ FitN n ∧ RowN w s n ∧ LenN n ∧ NilN s n := by
  obtain ⟨cs, rfl, hsz⟩ := okWide_struct Tryz.underlying26 hv
  obtain ⟨fuel, hf⟩ := h
  have hsz := hsz.trans cellsOfNt
  obtain ⟨c0, c1, c2, c3, c4, c5, rfl⟩ : ∃ c0 c1 c2 c3 c4 c5, cs = #[c0, c1, c2, c3, c4, c5] := by
    obtain ⟨l⟩ := cs
    match l, hsz with
    | [c0, c1, c2, c3, c4, c5], _ => exact ⟨c0, c1, c2, c3, c4, c5, rfl⟩
  obtain ⟨xs, m, _, _, _, hlen, hk⟩ := DataW.trod_struct Tryz.underlying26 hf
  match xs, hlen with
  | [y0, y1, y2, y3, y4, y5], _ =>
    have h0 := hk 0 _ rfl
    have h1 := hk 1 _ rfl
    have h2 := hk 2 _ rfl
    have h3 := hk 3 _ rfl
    have h4 := hk 4 _ rfl
    have h5 := hk 5 _ rfl
    clear hk
    simp [Value.cells, cellsOfI, cellsOfTs, cellsOfHs, cellsOfCs] at h0 h1 h2 h3 h4 h5
    obtain ⟨a0, e0, _, _⟩ := DataW.trod_int Tryz.underlying3 h0
    obtain ⟨a1, e1, _, _⟩ := DataW.trod_int Tryz.underlying3 h1
    simp only [List.cons.injEq, and_true] at e0 e1
    subst e0 e1
    obtain ⟨p2, k2, L2, rfl, i2, r2, l2, m2, z2⟩ := open_rowsC zT (cs := Th.cs) (z := 11) (fun _ => rfl) (by decide) Tryz.underlying22 cellsOfTh (P := inT) (fun _ _ _ hl h => trod_th hl h) h2
    obtain ⟨p3, k3, L3, rfl, i3, r3, l3, m3, z3⟩ := open_rowsC zH (cs := Hd.cs) (z := 2) Hd.z (by decide) Tryz.underlying23 cellsOfHd (P := fun _ => True) (fun _ _ _ hl h => trod_hd hl h) h3
    obtain ⟨p4, k4, L4, rfl, i4, r4, l4, m4, z4⟩ := open_rowsC zT (cs := Th.cs) (z := 11) (fun _ => rfl) (by decide) Tryz.underlying22 cellsOfTh (P := inT) (fun _ _ _ hl h => trod_th hl h) h4
    obtain ⟨p5, k5, L5, rfl, i5, r5, l5, m5, z5⟩ := open_rowsC zC (cs := Cm.cs) (z := 22) cs_len (by decide) Tryz.underlying24 cellsOfCm (P := inC) (fun _ _ _ hl h => trod_cm hl h) h5
    exact ⟨⟨a0, a1, L2, L3, L4, L5⟩, ⟨p2, k2, p3, k3, p4, k4, p5, k5⟩, rfl, ⟨i2, i4, fun c hc => in_fit (i5 c hc)⟩, ⟨rowT_of r2, r3, rowT_of r4, r5⟩, ⟨by show L2.length ≤ maxLen; omega, by show L3.length ≤ maxLen; omega, by show L4.length ≤ maxLen; omega, by show L5.length ≤ maxLen; omega⟩, ⟨z2, z3, z4, z5⟩⟩
theorem open_nt (hv : Value.okWide Tryz.prog w r b0 26 v) (h : DataW.Trod enc Tryz.prog w base spare held 26 v d p) : ∃ (n : Nt) (s : Ns), v = n.v s ∧ FitN n ∧ RowN w s n ∧ LenN n := by
  obtain ⟨n, s, e, f, r, l, -⟩ := open_ntN hv h
  exact ⟨n, s, e, f, r, l⟩
end
end Go.Proofs.YtpedngbjpbeanaaGreatDoor
