/- Rows of commands: what comes in, what a call made; loads and stores of a whole command. -/
import Derived.Test.YtfoncphdbaaedaaGreatDoorCO
import Derived.Test.YtfoncphdbaaedaaGreatDoorCH
import Derived.Deep.AppendLies
import Derived.Deep.MidRow
namespace Go.Proofs.YtfoncphdbaaedaaGreatDoor
section
open Go.RowKit Go.ChangeShapes Go.WideShapes Go.Deep Go.Joins
set_option linter.unusedVariables false
set_option maxRecDepth 100000
def flatM (l : List Cm) : List Value := l.flatMap Cm.cs
theorem flatM_append (l m : List Cm) : flatM (l ++ m) = flatM l ++ flatM m := by simp [flatM]
theorem flatM_one (t : Cm) : flatM [t] = t.cs := by simp [flatM]
theorem flatM_get (l : List Cm) (k : Nat) (t : Cm) (h : l[k]? = some t) (j : Nat) (hj : j < 22) : (flatM l)[k * 22 + j]? = t.cs[j]? := by
  induction l generalizing k with
  | nil => simp at h
  | cons a l ih =>
    have e : flatM (a :: l) = a.cs ++ flatM l := rfl
    have hl : ∀ t : Cm, t.cs.length = 22 := fun t => rfl
    cases k with
    | zero =>
      simp at h
      subst h
      rw [e, Nat.zero_mul, Nat.zero_add, List.getElem?_append_left (by rw [hl]; exact hj)]
    | succ k =>
      have := ih k (by simpa using h)
      rw [e, List.getElem?_append_right (by rw [hl]; omega), hl, show (k + 1) * 22 + j - 22 = k * 22 + j by omega]
      exact this
/-- the row behind p, cell by cell; the empty row wants none -/
def RowM (W : World) (p : Option Addr) (L : List Cm) : Prop := L = [] ∨ ∃ b off, p = some ⟨b, off, none⟩ ∧ ∀ k t, L[k]? = some t → W.rangeAt b (off + k * 22) t.cs
theorem RowM.later {w wr : World} {p : Option Addr} {L : List Cm} (h : RowM w p L) (hb : Below w.heap.size w wr) : RowM wr p L := by
  rcases h with h | ⟨b, off, h, hc⟩
  · exact .inl h
  · exact .inr ⟨b, off, h, fun k t hk j v hv => cell_below hb (hc k t hk j v hv)⟩
theorem RowM.at {w : World} {p : Option Addr} {L : List Cm} (h : RowM w p L) {k : Nat} {t : Cm} (hk : L[k]? = some t) : ∃ b off, p = some ⟨b, off, none⟩ ∧ w.rangeAt b (off + k * 22) t.cs := by
  rcases h with h | ⟨b, off, h, hc⟩
  · subst h; simp at hk
  · exact ⟨b, off, h, hc k t hk⟩
theorem cs_len (t : Cm) : t.cs.length = 22 := rfl
theorem rowM_own {W : World} {base n : Nat} {p : Option Addr} {cap : Nat} {L : List Cm} (h : W.ownsRow base 37 22 (.slice p n cap) n (flatM L)) (hn : n = L.length) : RowM W p L := by
  subst hn
  by_cases h0 : L = []
  · exact .inl h0
  · right
    have hpos : 0 < L.length := List.length_pos_iff.2 h0
    rcases h.2 with ⟨h', h0⟩ | ⟨g, cap', cur, h', _⟩
    · omega
    · simp only [Value.slice.injEq] at h'
      obtain ⟨rfl, _, rfl⟩ := h'
      refine ⟨g, 0, rfl, fun k t hk j v hv => ?_⟩
      have hk' : k < L.length := (List.getElem?_eq_some_iff.1 hk).1
      have hj : j < 22 := by have := (List.getElem?_eq_some_iff.1 hv).1; rw [cs_len] at this; exact this
      have hlt : k * 22 + j < L.length * 22 := by omega
      rw [Nat.zero_add, h.cellAt (k * 22 + j) hlt, flatM_get L k t hk j hj]
      exact hv
theorem wpList_load_mid_cm {ops : Array Oper} {rest : List Oper} {o : Oper} {a : Act} {W : World} {Q : Exit → Act → World → Prop} (hgd : o.guard = none) (x : Operand) (ho : o.op = .load 37 x)
    {b p : Nat} {c : Cm} (hx : a.eval x = .pointer (some ⟨b, p, none⟩)) (h : W.rangeAt b p c.cs) (k : wpList Tryz.prog ops Q rest (a.put o.dst c.v) W) : wpList Tryz.prog ops Q (o :: rest) a W :=
  wpList_load_mid hgd _ x ho b p hx c.cs _ h Tryz.underlying37 rfl Tryz.size30 k
theorem quiet_load_mid_cm {ops : Array Oper} {rest : List Oper} {o : Oper} {a : Act} {C : World → Prop} {Q : Act → Prop} (hw : Region.wanted o (yielded ops a.tmps) = true) (x : Operand) (ho : o.op = .load 37 x)
    {b p : Nat} {c : Cm} (hx : a.eval x = .pointer (some ⟨b, p, none⟩)) (h : ∀ W, C W → W.rangeAt b p c.cs) (k : wpQuiet Tryz.prog ops C Q rest (a.put o.dst c.v)) : wpQuiet Tryz.prog ops C Q (o :: rest) a := by
  rw [wpQuiet, if_pos hw]
  refine ⟨c.v, fun W hW => ?_, k⟩
  unfold Oper.quietAt
  have e0 : (Instr.loadAt 37 (.pointer (some ⟨b, p, none⟩))).run Tryz.prog W = .ok c.v W := run_loadAt_mid W b p _ c.cs _ (h W hW) Tryz.underlying37 rfl Tryz.size30
  have e : (execOp a.eval o).run Tryz.prog W = .ok (.value c.v) W := by
    unfold execOp
    simp only [ho, hx, Sem.run_bind, e0, Result.andThen_ok, Sem.run_pure]
  rw [e]
  exact ⟨rfl, rfl⟩
theorem range_on {W W' : World} {b p : Nat} {cs : List Value} (h : W.rangeAt b p cs) (hb : Below W.heap.size W W') : W'.rangeAt b p cs := fun j v hv => cell_below hb (h j v hv)
section
variable {H : Type} {enc : TypeId × Value → H} {w : World} {base : Nat} {spare : Nat → Bool} {held : Bool} {r : Reach} {b0 : Nat} {v : Value} {d : DataW H} {p : List MemPlace}
theorem open_cms (hv : Value.okWide Tryz.prog w r b0 22 v) (h : DataW.Trod enc Tryz.prog w base spare held 22 v d p) :
    ∃ (a : Option Addr) (cap : Nat) (L : List Cm), v = .slice a L.length cap ∧ (∀ t ∈ L, inC t) ∧ RowM w a L ∧ L.length ≤ cap ∧ cap ≤ maxLen := by
  obtain ⟨a, len, cap, rfl⟩ := okWide_slice Tryz.underlying22 hv
  obtain ⟨fuel, hf⟩ := h
  rcases open_slice Tryz.underlying22 hf with ⟨hcs, _⟩ | ⟨a', len', cap', m, n, D, Pl, hcs, _, hl, hm, hmm, _, hx⟩
  · simp [Value.cells] at hcs
    obtain ⟨rfl, rfl, rfl⟩ := hcs
    exact ⟨none, 0, [], rfl, by simp, .inl rfl, by simp, by unfold maxLen; omega⟩
  · simp [Value.cells] at hcs
    obtain ⟨rfl, rfl, rfl⟩ := hcs
    have hlm : len ≤ m := by rw [hmm]; split <;> omega
    rw [cellsOf30c] at hx
    obtain ⟨f, hF⟩ := @choose_lt Cm ⟨zC⟩ len (fun i t => inC t ∧ ∀ j, j < 22 → w.cell? (a'.add (i * 22 + j)) = t.cs[j]?) (fun i hi => by
      obtain ⟨cs', h1, h2⟩ := hx i (by omega)
      obtain ⟨_, hlen, hcell⟩ := World.cells?_some h1
      obtain ⟨t, rfl, hin⟩ := trod_cm hlen h2
      exact ⟨t, hin, fun j hj => by rw [← add_add]; exact hcell j hj⟩)
    refine ⟨some a', cap, (List.range len).map f, by simp, ?_, ?_, by simpa using hl, hm⟩
    · intro t ht
      simp only [List.mem_map, List.mem_range] at ht
      obtain ⟨i, hi, rfl⟩ := ht
      exact (hF i hi).1
    · by_cases h0 : len = 0
      · left; subst h0; rfl
      · right
        obtain ⟨b, off, spot⟩ := a'
        have hc := (hF 0 (by omega)).2 0 (by omega)
        have hspot : spot = none := by
          have := World.cell?_spot (v := .int .i64 (f 0).kd) hc
          simpa [Addr.add] using this
        subst hspot
        refine ⟨b, off, rfl, fun k t hk j u hu => ?_⟩
        have hk' : k < len := by
          rcases Nat.lt_or_ge k len with h | h
          · exact h
          · rw [List.getElem?_eq_none (by simpa using h)] at hk; cases hk
        rw [List.getElem?_map, List.getElem?_range hk'] at hk
        simp only [Option.map_some, Option.some.injEq] at hk
        subst hk
        have hj : j < 22 := by have := (List.getElem?_eq_some_iff.1 hu).1; rw [cs_len] at this; exact this
        have e : (⟨b, off, none⟩ : Addr).add (k * 22 + j) = ⟨b, off + k * 22 + j, none⟩ := by unfold Addr.add; split <;> simp_all [Nat.add_assoc]
        rw [← e]
        rw [(hF k hk').2 j hj]
        exact hu
end
end
end Go.Proofs.YtfoncphdbaaedaaGreatDoor
