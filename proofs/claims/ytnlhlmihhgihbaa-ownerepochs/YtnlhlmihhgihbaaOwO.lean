/- What rows of owners and of hands are that come in: they lie cell by cell. -/
import Derived.Test.YtnlhlmihhgihbaaOwK
import Derived.Test.YtnlhlmihhgihbaaChecked
import Derived.Deep.Slices
import Derived.Deep.Strs
import Derived.ChangeSame
namespace Go.Proofs.Ytnlhlmihhgihbaa
open Go.RowKit Go.ChangeShapes Go.WideShapes Go.Deep Go.Joins
set_option linter.unusedVariables false
set_option maxRecDepth 100000
/-- a hand: a cell, whose, to whom -/
structure Hd where
  c : Int
  f : Int
  u : Int
def Hd.cs (p : Hd) : List Value := [.int .i64 p.c, .int .i64 p.f, .int .i64 p.u]
theorem Hd.z (p : Hd) : p.cs.length = 3 := rfl
theorem cellsOf3 : Try.prog.cellsOf 3 = 1 := by kernel_rfl
theorem cellsOfO : Try.prog.cellsOf 46 = 2 := by kernel_rfl
theorem cellsOfH : Try.prog.cellsOf 32 = 3 := by kernel_rfl
section
variable {H : Type} {enc : TypeId × Value → H} {w : World} {base : Nat} {spare : Nat → Bool} {held : Bool} {r : Reach} {b0 : Nat} {v : Value} {d : DataW H} {p : List MemPlace}
theorem list2 {α : Type} {l : List α} (h : l.length = 2) : ∃ c0 c1, l = [c0, c1] := by
  match l, h with
  | [c0, c1], _ => exact ⟨c0, c1, rfl⟩
theorem list3 {α : Type} {l : List α} (h : l.length = 3) : ∃ c0 c1 c2, l = [c0, c1, c2] := by
  match l, h with
  | [c0, c1, c2], _ => exact ⟨c0, c1, c2, rfl⟩
theorem trod_ow {fuel : Nat} {cs : List Value} {x : DataW H × List MemPlace} (hl : cs.length = 2) (h : DataW.trod enc Try.prog w base spare held fuel 46 cs = some x) : ∃ s : Ow, cs = s.cs := by
  obtain ⟨c0, c1, rfl⟩ := list2 hl
  obtain ⟨y0, y1, n, _, _, h0, h1⟩ := trod_struct2 Try.underlying46 h
  simp only [cellsOf3, List.drop_zero, List.take_succ_cons, List.take_zero, List.drop_succ_cons] at h0 h1
  obtain ⟨a, e0, _, w0⟩ := DataW.trod_int Try.underlying3 h0
  obtain ⟨b, e1, _, w1⟩ := DataW.trod_int Try.underlying3 h1
  simp only [List.cons.injEq, and_true] at e0 e1
  subst e0
  subst e1
  exact ⟨⟨a, b⟩, rfl⟩
theorem trod_hd {fuel : Nat} {cs : List Value} {x : DataW H × List MemPlace} (hl : cs.length = 3) (h : DataW.trod enc Try.prog w base spare held fuel 32 cs = some x) : ∃ s : Hd, cs = s.cs := by
  obtain ⟨c0, c1, c2, rfl⟩ := list3 hl
  obtain ⟨y0, y1, y2, n, _, _, h0, h1, h2⟩ := trod_struct3 Try.underlying32 h
  simp [cellsOf3] at h0 h1 h2
  obtain ⟨a, e0, _, _⟩ := DataW.trod_int Try.underlying3 h0
  obtain ⟨b, e1, _, _⟩ := DataW.trod_int Try.underlying3 h1
  obtain ⟨c, e2, _, _⟩ := DataW.trod_int Try.underlying3 h2
  simp only [List.cons.injEq, and_true] at e0 e1 e2
  subst e0
  subst e1
  subst e2
  exact ⟨⟨a, b, c⟩, rfl⟩
/-- a row of whatever structs that comes in -/
theorem open_rows {α : Type} (dflt : α) {cs : α → List Value} {z : Nat} (hz : ∀ a, (cs a).length = z) {u : TypeId} (hz0 : 0 < z) {T : TypeId} (hT : Try.prog.underlying T = some (.slice u)) (hc : Try.prog.cellsOf u = z)
    (ht : ∀ (fuel : Nat) (l : List Value) (x : DataW H × List MemPlace), l.length = z → DataW.trod enc Try.prog w base spare held fuel u l = some x → ∃ a, l = cs a)
    (hv : Value.okWide Try.prog w r b0 T v) (h : DataW.Trod enc Try.prog w base spare held T v d p) :
    ∃ (a : Option Addr) (cap : Nat) (L : List α), v = .slice a L.length cap ∧ RowG cs z w a L ∧ L.length ≤ cap ∧ cap ≤ maxLen := by
  obtain ⟨a, len, cap, rfl⟩ := okWide_slice hT hv
  obtain ⟨fuel, hf⟩ := h
  rcases open_slice hT hf with ⟨hcs, _⟩ | ⟨a', len', cap', m, n, D, Pl, hcs, _, hl, hm, hmm, _, hx⟩
  · simp [Value.cells] at hcs
    obtain ⟨rfl, rfl, rfl⟩ := hcs
    exact ⟨none, 0, [], rfl, .inl rfl, by simp, by unfold maxLen; omega⟩
  · simp [Value.cells] at hcs
    obtain ⟨rfl, rfl, rfl⟩ := hcs
    have hlm : len ≤ m := by rw [hmm]; split <;> omega
    rw [hc] at hx
    obtain ⟨f, hF⟩ := @choose_lt α ⟨dflt⟩ len (fun i (t : α) => ∀ j, j < z → w.cell? (a'.add (i * z + j)) = (cs t)[j]?) (fun i hi => by
      obtain ⟨cs', h1, h2⟩ := hx i (by omega)
      obtain ⟨_, hlen, hcell⟩ := World.cells?_some h1
      obtain ⟨t, rfl⟩ := ht _ _ _ hlen h2
      exact ⟨t, fun j hj => by rw [← add_add]; exact hcell j hj⟩)
    refine ⟨some a', cap, (List.range len).map f, by simp, ?_, by simpa using hl, hm⟩
    by_cases h0 : len = 0
    · left; subst h0; rfl
    · right
      obtain ⟨b, off, spot⟩ := a'
      have hcz := hF 0 (by omega) 0 hz0
      have hspot : spot = none := by
        rw [List.getElem?_eq_getElem (by rw [hz]; exact hz0)] at hcz
        have := World.cell?_spot hcz
        simpa [Addr.add] using this
      subst hspot
      refine ⟨b, off, rfl, fun k t hk j u' hu => ?_⟩
      have hk' : k < len := by
        rcases Nat.lt_or_ge k len with h | h
        · exact h
        · rw [List.getElem?_eq_none (by simpa using h)] at hk; cases hk
      rw [List.getElem?_map, List.getElem?_range hk'] at hk
      simp only [Option.map_some, Option.some.injEq] at hk
      subst hk
      have hj : j < z := by rw [← hz (f k)]; exact (List.getElem?_eq_some_iff.1 hu).1
      have e : (⟨b, off, none⟩ : Addr).add (k * z + j) = ⟨b, off + k * z + j, none⟩ := by unfold Addr.add; split <;> simp_all [Nat.add_assoc]
      rw [← e, hF k hk' j hj]
      exact hu
theorem open_ows (hv : Value.okWide Try.prog w r b0 38 v) (h : DataW.Trod enc Try.prog w base spare held 38 v d p) :
    ∃ (a : Option Addr) (cap : Nat) (L : List Ow), v = .slice a L.length cap ∧ RowG Ow.cs 2 w a L ∧ L.length ≤ cap ∧ cap ≤ maxLen :=
  open_rows (⟨0, 0⟩ : Ow) Ow.z (by decide) Try.underlying38 cellsOfO (fun _ _ _ hl h => trod_ow hl h) hv h
theorem open_hds (hv : Value.okWide Try.prog w r b0 22 v) (h : DataW.Trod enc Try.prog w base spare held 22 v d p) :
    ∃ (a : Option Addr) (cap : Nat) (L : List Hd), v = .slice a L.length cap ∧ RowG Hd.cs 3 w a L ∧ L.length ≤ cap ∧ cap ≤ maxLen :=
  open_rows (⟨0, 0, 0⟩ : Hd) Hd.z (by decide) Try.underlying22 cellsOfH (fun _ _ _ hl h => trod_hd hl h) hv h
end
theorem hd_at {w : World} {p : Option Addr} {L : List Hd} (h : RowG Hd.cs 3 w p L) {k : Nat} {a : Hd} (hk : L[k]? = some a) : ∃ b off, p = some ⟨b, off, none⟩ ∧ cells3 w b (off + k * 3) (.int .i64 a.c) (.int .i64 a.f) (.int .i64 a.u) := by
  obtain ⟨b, off, hp, hc⟩ := h.at hk
  exact ⟨b, off, hp, hc 0 _ rfl, hc 1 _ rfl, hc 2 _ rfl⟩
theorem rowA_of {w : World} {p : Option Addr} {L : List Ow} (h : RowG Ow.cs 2 w p L) (hl : L.length = 16) : ∃ b off, p = some ⟨b, off, none⟩ ∧ RowA w b off L := by
  obtain ⟨o, ho⟩ := get_some L 0 (by omega)
  rcases h with h0 | ⟨b, off, hp, hc⟩
  · subst h0; simp at hl
  · refine ⟨b, off, hp, ?_, fun k a hk => ⟨hc k a hk 0 _ rfl, hc k a hk 1 _ rfl⟩⟩
    have h1 := hc 0 o ho 0 _ rfl
    rcases Nat.lt_or_ge b w.heap.size with h2 | h2
    · exact h2
    · unfold World.cell? at h1
      simp [Array.getElem?_eq_none h2] at h1
end Go.Proofs.Ytnlhlmihhgihbaa
