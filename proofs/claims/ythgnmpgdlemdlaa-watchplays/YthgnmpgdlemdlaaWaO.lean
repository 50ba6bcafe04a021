/- What rows of steps are that come in: a command and a beat each, cell by cell. -/
import Derived.Test.YthgnmpgdlemdlaaWaP
import Derived.Test.YthgnmpgdlemdlaaCO
import Derived.Deep.Slices
import Derived.Deep.Strs
import Derived.Deep.MidRow
import Derived.ChangeSame
namespace Go.Proofs.Ythgnmpgdlemdlaa
open Go.RowKit Go.ChangeShapes Go.WideShapes Go.Deep Go.Joins
set_option linter.unusedVariables false
set_option maxRecDepth 100000
/-- a step: a command, a beat -/
structure Sb where
  c : Cm
  b : Int
def Sb.cs (p : Sb) : List Value := p.c.cs ++ [.int .i64 p.b]
theorem Sb.z (p : Sb) : p.cs.length = 23 := rfl
theorem in_sized {c : Cm} (h : inC c) : sizedC c := by
  obtain ⟨h0, h1, h2, h3, h4⟩ := h
  intro k
  unfold Cm.f
  split
  · exact h0.1
  · exact h1.1
  · exact h2.1
  · exact h3.1
  · exact h4.1
/-- what comes in fits -/
def inB_ (s : Sb) : Prop := inC s.c
theorem cellsOf1i : Try.prog.cellsOf 3 = 1 := by kernel_rfl
theorem cellsOfSb : Try.prog.cellsOf 43 = 23 := by kernel_rfl
section
variable {H : Type} {enc : TypeId × Value → H} {w : World} {base : Nat} {spare : Nat → Bool} {held : Bool} {r : Reach} {b0 : Nat} {v : Value} {d : DataW H} {p : List MemPlace}
theorem trod_sb {fuel : Nat} {cs : List Value} {x : DataW H × List MemPlace} (hl : cs.length = 23) (h : DataW.trod enc Try.prog w base spare held fuel 43 cs = some x) : ∃ s : Sb, cs = s.cs ∧ inB_ s := by
  obtain ⟨y0, y1, n, _, _, h0, h1⟩ := trod_struct2 Try.underlying43 h
  simp only [cellsOf30c, cellsOf1i, List.drop_zero] at h0 h1
  obtain ⟨t, e0, i0⟩ := trod_cm (by simp [hl]) h0
  obtain ⟨a, e1, _, _⟩ := DataW.trod_int Try.underlying3 h1
  refine ⟨⟨t, a⟩, ?_, i0⟩
  have e2 : cs.drop 22 = [.int .i64 a] := by rw [← e1, List.take_of_length_le (by simp [hl])]
  rw [← List.take_append_drop 22 cs, e0, e2]
  rfl
/-- a row of whatever structs that comes in -/
theorem open_rows {α : Type} (dflt : α) {Q : α → Prop} {cs : α → List Value} {z : Nat} (hz : ∀ a, (cs a).length = z) {u : TypeId} (hz0 : 0 < z) {T : TypeId} (hT : Try.prog.underlying T = some (.slice u)) (hc : Try.prog.cellsOf u = z)
    (ht : ∀ (fuel : Nat) (l : List Value) (x : DataW H × List MemPlace), l.length = z → DataW.trod enc Try.prog w base spare held fuel u l = some x → ∃ a, l = cs a ∧ Q a)
    (hv : Value.okWide Try.prog w r b0 T v) (h : DataW.Trod enc Try.prog w base spare held T v d p) :
    ∃ (a : Option Addr) (cap : Nat) (L : List α), v = .slice a L.length cap ∧ (∀ a ∈ L, Q a) ∧ RowG cs z w a L ∧ L.length ≤ cap ∧ cap ≤ maxLen := by
  obtain ⟨a, len, cap, rfl⟩ := okWide_slice hT hv
  obtain ⟨fuel, hf⟩ := h
  rcases open_slice hT hf with ⟨hcs, _⟩ | ⟨a', len', cap', m, n, D, Pl, hcs, _, hl, hm, hmm, _, hx⟩
  · simp [Value.cells] at hcs
    obtain ⟨rfl, rfl, rfl⟩ := hcs
    exact ⟨none, 0, [], rfl, by simp, .inl rfl, by simp, by unfold maxLen; omega⟩
  · simp [Value.cells] at hcs
    obtain ⟨rfl, rfl, rfl⟩ := hcs
    have hlm : len ≤ m := by rw [hmm]; split <;> omega
    rw [hc] at hx
    obtain ⟨f, hF⟩ := @choose_lt α ⟨dflt⟩ len (fun i (t : α) => Q t ∧ ∀ j, j < z → w.cell? (a'.add (i * z + j)) = (cs t)[j]?) (fun i hi => by
      obtain ⟨cs', h1, h2⟩ := hx i (by omega)
      obtain ⟨_, hlen, hcell⟩ := World.cells?_some h1
      obtain ⟨t, rfl, hq⟩ := ht _ _ _ hlen h2
      exact ⟨t, hq, fun j hj => by rw [← add_add]; exact hcell j hj⟩)
    refine ⟨some a', cap, (List.range len).map f, by simp, fun a ha => ?_, ?_, by simpa using hl, hm⟩
    · obtain ⟨i, hi, rfl⟩ := List.mem_map.1 ha
      exact (hF i (List.mem_range.1 hi)).1
    by_cases h0 : len = 0
    · left; subst h0; rfl
    · right
      obtain ⟨b, off, spot⟩ := a'
      have hcz := (hF 0 (by omega)).2 0 hz0
      have hspot : spot = none := by
        rw [List.getElem?_eq_getElem (by rw [hz]; exact hz0)] at hcz
        have := World.cell?_spot hcz
        simpa [Addr.add] using this
      subst hspot
      refine ⟨b, off, rfl, fun k t hk j u' hu => ?_⟩
      have hk' : k < len := by
        rcases Nat.lt_or_ge k len with h | h
        · exact h
        · rw [List.getElem?_eq_none (by simpa using h)] at hk; cases hk
      rw [List.getElem?_map, List.getElem?_range hk'] at hk
      simp only [Option.map_some, Option.some.injEq] at hk
      subst hk
      have hj : j < z := by rw [← hz (f k)]; exact (List.getElem?_eq_some_iff.1 hu).1
      have e : (⟨b, off, none⟩ : Addr).add (k * z + j) = ⟨b, off + k * z + j, none⟩ := by unfold Addr.add; split <;> simp_all [Nat.add_assoc]
      rw [← e, (hF k hk').2 j hj]
      exact hu
theorem open_sbs (hv : Value.okWide Try.prog w r b0 22 v) (h : DataW.Trod enc Try.prog w base spare held 22 v d p) :
    ∃ (a : Option Addr) (cap : Nat) (L : List Sb), v = .slice a L.length cap ∧ (∀ s ∈ L, inB_ s) ∧ RowG Sb.cs 23 w a L ∧ L.length ≤ cap ∧ cap ≤ maxLen :=
  open_rows (Q := inB_) (⟨zC, 0⟩ : Sb) Sb.z (by decide) Try.underlying22 cellsOfSb (fun _ _ _ hl h => trod_sb hl h) hv h
end
theorem sb_at {w : World} {p : Option Addr} {L : List Sb} (h : RowG Sb.cs 23 w p L) {k : Nat} {a : Sb} (hk : L[k]? = some a) : ∃ b off, p = some ⟨b, off, none⟩ ∧ w.rangeAt b (off + k * 23) a.c.cs ∧ w.cell? ⟨b, off + k * 23 + 22, none⟩ = some (.int .i64 a.b) ∧ w.cell? ⟨b, off + k * 23 + 16, none⟩ = some (.int .i64 a.c.cl) := by
  obtain ⟨b, off, hp, hc⟩ := h.at hk
  refine ⟨b, off, hp, fun j v hv => hc j v ?_, hc 22 _ rfl, hc 16 _ rfl⟩
  have hj : j < 22 := (List.getElem?_eq_some_iff.1 hv).1
  show (a.c.cs ++ [.int .i64 a.b])[j]? = some v
  rw [List.getElem?_append_left hj]
  exact hv
/-- the k-th step, in whatever world comes behind -/
theorem sbs_at {w : World} {p : Option Addr} {L : List Sb} (h : RowG Sb.cs 23 w p L) {k : Nat} {a : Sb} (hk : L[k]? = some a) : ∃ b off, p = some ⟨b, off, none⟩ ∧ b < w.heap.size ∧ ∀ W, Below w.heap.size w W → W.rangeAt b (off + k * 23) a.c.cs ∧ W.cell? ⟨b, off + k * 23 + 22, none⟩ = some (.int .i64 a.b) ∧ W.cell? ⟨b, off + k * 23 + 16, none⟩ = some (.int .i64 a.c.cl) := by
  obtain ⟨b, off, hp, h1, h2, h3⟩ := sb_at h hk
  exact ⟨b, off, hp, World.block_lt_of_cell? _ _ h2, fun W hb => ⟨fun j v hv => cell_below hb (h1 j v hv), cell_below hb h2, cell_below hb h3⟩⟩
end Go.Proofs.Ythgnmpgdlemdlaa
