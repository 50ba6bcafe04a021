/- Whose cells, plain: owners, a map's cells in memory, what the functions of owner tell. -/
import Derived.Test.YtnlhlmihhgihbaaOwB
namespace Go.Proofs.Ytnlhlmihhgihbaa
open Go.RowKit
set_option linter.unusedVariables false
/-- an owner: a server, an epoch -/
structure Ow where
  s : Int
  e : Int
def Ow.cs (o : Ow) : List Value := [.int .i64 o.s, .int .i64 o.e]
theorem Ow.z (o : Ow) : o.cs.length = 2 := rfl
abbrev Ow.v (o : Ow) : Value := .agg #[.int .i64 o.s, .int .i64 o.e]
/-- a map's cells: a number, sixteen owners -/
def mpC (a : Int) (L : List Ow) : Array Value := (.int .i64 a :: flatG Ow.cs L).toArray
theorem mpC_size (a : Int) {L : List Ow} (h : L.length = 16) : (mpC a L).size = 33 := by
  simp [mpC, flatG_length Ow.z, h]
theorem mpC_one (a : Int) (L : List Ow) : (mpC a L).all (·.oneCell') = true := by
  rw [Array.all_eq_true']
  intro u hu
  have hu' : u ∈ (.int .i64 a :: flatG Ow.cs L : List Value) := by simpa [mpC] using hu
  rcases List.mem_cons.1 hu' with rfl | hu
  · rfl
  · obtain ⟨o, _, hu⟩ := List.mem_flatMap.1 hu
    simp [Ow.cs] at hu
    rcases hu with rfl | rfl <;> rfl
theorem mpC_0 (a : Int) (L : List Ow) : (mpC a L)[0]? = some (.int .i64 a) := by simp [mpC]
theorem mpC_j (a : Int) (L : List Ow) {k : Nat} {o : Ow} (h : L[k]? = some o) {j : Nat} (hj : j < 2) : (mpC a L)[1 + k * 2 + j]? = o.cs[j]? := by
  have := flatG_get Ow.z L k o h j hj
  rw [← this, show 1 + k * 2 + j = k * 2 + j + 1 by omega]
  simp [mpC]
theorem flat_set {L : List Ow} {k : Nat} {o : Ow} (hk : k < L.length) : ((flatG Ow.cs L).set (k * 2) (.int .i64 o.s)).set (k * 2 + 1) (.int .i64 o.e) = flatG Ow.cs (L.set k o) := by
  induction L generalizing k with
  | nil => simp at hk
  | cons b L ih =>
    have e : ∀ (b : Ow) (L : List Ow), flatG Ow.cs (b :: L) = .int .i64 b.s :: .int .i64 b.e :: flatG Ow.cs L := fun _ _ => rfl
    cases k with
    | zero => simp [e]
    | succ k =>
      have := ih (k := k) (by simpa using hk)
      rw [show (k + 1) * 2 = k * 2 + 1 + 1 by omega, show k * 2 + 1 + 1 + 1 = (k * 2 + 1) + 1 + 1 by omega]
      simp only [e, List.set_cons_succ]
      rw [this]
theorem mpC_set (a : Int) {L : List Ow} {k : Nat} (o : Ow) (hk : k < L.length) : ((mpC a L).setIfInBounds (1 + k * 2) (.int .i64 o.s)).setIfInBounds (1 + k * 2 + 1) (.int .i64 o.e) = mpC a (L.set k o) := by
  have := flat_set (o := o) hk
  unfold mpC
  rw [show 1 + k * 2 = k * 2 + 1 by omega]
  simp only [List.setIfInBounds_toArray, List.set_cons_succ]
  rw [this]
theorem set_self {α : Type} {L : List α} {k : Nat} {o : α} (h : L[k]? = some o) : L.set k o = L := by
  apply List.ext_getElem?
  intro i
  by_cases e : k = i
  · subst e
    have := (List.getElem?_eq_some_iff.1 h).1
    rw [List.getElem?_set_self this, h]
  · rw [List.getElem?_set_ne e]
theorem mpC_setS (a : Int) {L : List Ow} {k : Nat} {o : Ow} (h : L[k]? = some o) (s : Int) : (mpC a L).setIfInBounds (1 + k * 2) (.int .i64 s) = mpC a (L.set k ⟨s, o.e⟩) := by
  have hk := (List.getElem?_eq_some_iff.1 h).1
  have h1 := mpC_j a L h (j := 1) (by omega)
  rw [← mpC_set a ⟨s, o.e⟩ hk]
  apply Array.ext_getElem?
  intro i
  by_cases e : 1 + k * 2 + 1 = i
  · subst e
    rw [Array.getElem?_setIfInBounds_ne (by omega), h1, Array.getElem?_setIfInBounds, if_pos rfl]
    have : 1 + k * 2 + 1 < (mpC a L).size := (Array.getElem?_eq_some_iff.1 (show (mpC a L)[1 + k * 2 + 1]? = some (.int .i64 o.e) from h1)).1
    rw [if_pos (by simpa using this)]
    rfl
  · rw [Array.getElem?_setIfInBounds_ne (show 1 + k * 2 + 1 ≠ i from e)]
/-- nobody's: sixteen zeros -/
def zeroL : List Ow := List.replicate 16 ⟨0, 0⟩
/-- the block g is a map's: a number, sixteen owners -/
structure MB (W : World) (g : Nat) (t : TypeId) (a : Int) (L : List Ow) : Prop where
  at_ : W.heap[g]? = some (.cells (mpC a L) t (0, 0))
  len : L.length = 16
section
variable {W : World} {g : Nat} {t : TypeId} {a : Int} {L : List Ow}
theorem MB.lt (h : MB W g t a L) : g < W.heap.size := at_lt h.at_
theorem MB.num (h : MB W g t a L) : W.cell? ⟨g, 0, none⟩ = some (.int .i64 a) := by rw [(cells_at h.at_).1]; exact mpC_0 a L
theorem MB.cell (h : MB W g t a L) {k : Nat} {o : Ow} (hk : L[k]? = some o) : W.cell? ⟨g, 1 + k * 2, none⟩ = some (.int .i64 o.s) ∧ W.cell? ⟨g, 1 + k * 2 + 1, none⟩ = some (.int .i64 o.e) := by
  have h0 := mpC_j a L hk (j := 0) (by omega)
  have h1 := mpC_j a L hk (j := 1) (by omega)
  exact ⟨by rw [(cells_at h.at_).1]; exact h0, by rw [(cells_at h.at_).1]; exact h1⟩
theorem MB.free (h : MB W g t a L) (i : Nat) : W.frozen? ⟨g, i, none⟩ = false := (cells_at h.at_).2 i
theorem MB.on {W' : World} {B : Nat} (h : MB W g t a L) (hb : Below B W W') (hg : g < B) : MB W' g t a L := ⟨var_on hb h.at_ hg, h.len⟩
theorem MB.later {W' : World} (h : MB W g t a L) (hb : Below W.heap.size W W') : MB W' g t a L := h.on hb h.lt
theorem MB.but {W' : World} {b : Nat} (h : MB W g t a L) (hb : But b W W') (hn : g ≠ b) : MB W' g t a L := ⟨hb.at h.at_ hn, h.len⟩
theorem MB.set (h : MB W g t a L) {k : Nat} (o : Ow) (hk : k < 16) : MB ((W.setCell ⟨g, 1 + k * 2, none⟩ (.int .i64 o.s)).setCell ⟨g, 1 + k * 2 + 1, none⟩ (.int .i64 o.e)) g t a (L.set k o) :=
  ⟨set_at (set_at h.at_ _ rfl) _ (mpC_set a o (by rw [h.len]; exact hk)), by rw [List.length_set]; exact h.len⟩
theorem MB.setS (h : MB W g t a L) {k : Nat} {o : Ow} (hk : L[k]? = some o) (s : Int) : MB (W.setCell ⟨g, 1 + k * 2, none⟩ (.int .i64 s)) g t a (L.set k ⟨s, o.e⟩) :=
  ⟨set_at h.at_ _ (mpC_setS a hk s), by rw [List.length_set]; exact h.len⟩
theorem MB.get (h : MB W g t a L) {k : Nat} (hk : k < 16) : ∃ o, L[k]? = some o := get_some L k (by rw [h.len]; exact hk)
end
/-- is it a cell -/
def isCell (c : Int) : Bool := decide (0 ≤ c) && decide (c < 16)
/-- is it a server, of n of them -/
def isSrv (n s : Int) : Bool := decide (0 ≤ s) && decide (s < n)
/-- how many servers there are -/
def heldN (n : Int) : Int := min (max n 1) 4
/-- dealt out by turns -/
def dealt (n : Int) : List Ow := (List.range 16).map fun c : Nat => ⟨((c : Nat) : Int) % n, 0⟩
theorem dealt_len (n : Int) : (dealt n).length = 16 := by simp [dealt]
def atO (L : List Ow) (c : Int) : Ow := L.getD c.toNat ⟨0, 0⟩
/-- the error that a hand tells -/
def handE (n : Int) (L : List Ow) (c f t : Int) : Int :=
  if isCell c = false then 11 else if isSrv n t = false then 19 else if ¬ (atO L c).s = f then 17 else if t = f then 19 else 0
/-- the owners behind a hand -/
def handL (n : Int) (L : List Ow) (c f t : Int) : List Ow := if handE n L c f t = 0 then L.set c.toNat ⟨t, wrap64 ((atO L c).e + 1)⟩ else L
theorem handL_len (n : Int) (L : List Ow) (c f t : Int) : (handL n L c f t).length = L.length := by
  unfold handL
  split <;> simp
/-- a server's cells, from the k-th on -/
def cellsF (L : List Ow) (s : Int) (m : Nat) : List Nat := (List.range m).filter fun c => decide ((atO L c).s = s)
/-- its cells -/
def cellsN (L : List Ow) (s : Int) : List Nat := cellsF L s 16
theorem cellsF_succ (L : List Ow) (s : Int) (m : Nat) : cellsF L s (m + 1) = cellsF L s m ++ if (atO L m).s = s then [m] else [] := by
  unfold cellsF
  rw [List.range_succ, List.filter_append]
  congr 1
  by_cases h : (atO L m).s = s <;> simp [h]
/-- an owner that there may be, of n servers -/
def okO (n : Int) (o : Ow) : Bool := isSrv n o.s && (decide (0 ≤ o.e) && decide (o.e ≤ 1073741824))
/-- may they be loaded -/
def okL (n : Int) (L : List Ow) : Bool := decide (1 ≤ n) && decide (n ≤ 4) && (decide (L.length = 16) && L.all (okO n))
end Go.Proofs.Ytnlhlmihhgihbaa
