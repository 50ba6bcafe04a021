/- Rows that the caller hands in, read as plain lists: of no program. -/
import Derived.Test.YtfoncphdbaaedaaGreatDoorTC
import Derived.WalkKit
import Derived.WalkSpells
import Derived.WalkLawsBesides
import Derived.Handy
import Derived.ProofKit
import Derived.OpenShut
import Derived.ShutString
import Derived.ChangeOld
import Derived.Below
import Derived.SizedLaws
namespace Go.Proofs.YtfoncphdbaaedaaGreatDoor
section
open Go.ChangeShapes Go.WideShapes Go.ChangeAt Go.RowKit
open Go.ChangeMaps (open_string shut_string)
set_option linter.unusedVariables false
/-- the row behind a, cell by cell; the empty row wants none -/
def RowIs (w : World) (a : Option Addr) (vs : List Value) : Prop := vs = [] ∨ ∃ b off, a = some ⟨b, off, none⟩ ∧ ∀ i (h : i < vs.length), w.cell? ⟨b, off + i, none⟩ = some vs[i]
def nums (k : IntKind) (xs : List Int) : List Value := xs.map fun n => Value.int k n
def strs' (ts : List ByteArray) : List Value := ts.map fun s => Value.string s
theorem RowIs.later {w wr : World} {a : Option Addr} {vs : List Value} (h : RowIs w a vs) (hb : Below w.heap.size w wr) : RowIs wr a vs := by
  rcases h with h | ⟨b, off, h, hc⟩
  · exact .inl h
  · exact .inr ⟨b, off, h, fun i hi => cell_later hb (hc i hi)⟩
theorem RowIs.at {w : World} {a : Option Addr} {vs : List Value} (h : RowIs w a vs) {i : Nat} {v : Value} (hv : vs[i]? = some v) : ∃ b off, a = some ⟨b, off, none⟩ ∧ w.cell? ⟨b, off + i, none⟩ = some v := by
  obtain ⟨hi, e⟩ := List.getElem?_eq_some_iff.1 hv
  rcases h with h | ⟨b, off, h, hc⟩
  · subst h; simp at hi
  · exact ⟨b, off, h, by rw [hc i hi, e]⟩
theorem row_cells {w : World} {x : Addr} {vs : List Value} (hcell : ∀ i v, vs[i]? = some v → w.cell? (x.add i) = some v) : RowIs w (some x) vs := by
  match vs, hcell with
  | [], _ => exact .inl rfl
  | v :: r, hcell =>
    right
    obtain ⟨b, off, spot⟩ := x
    have hc := hcell 0 v rfl
    have hspot : spot = none := by simpa [Addr.add] using World.cell?_spot hc
    subst hspot
    refine ⟨b, off, rfl, fun i h => ?_⟩
    have e : (⟨b, off, none⟩ : Addr).add i = ⟨b, off + i, none⟩ := by unfold Addr.add; split <;> simp_all
    rw [← e]
    exact hcell i _ (by simp)
theorem row_ints {w : World} {k : IntKind} {x : Addr} {len : Nat} {zs : List Int} (hl : len ≤ zs.length) (hcell : ∀ i, i < zs.length → w.cell? (x.add i) = some (.int k (zs.getD i 0))) (hwz : ∀ n ∈ zs, (Lit.int k n).wf = true) :
    ∃ xs : List Int, xs.length = len ∧ (∀ n ∈ xs, (Lit.int k n).wf = true) ∧ RowIs w (some x) (nums k xs) := by
  refine ⟨zs.take len, by simp; omega, fun n hn => hwz n (List.mem_of_mem_take hn), row_cells fun i v hv => ?_⟩
  unfold nums at hv
  rw [List.getElem?_map, List.getElem?_take] at hv
  split at hv
  · have hi : i < zs.length := by omega
    rw [hcell i hi]
    simpa [hi] using hv
  · simp at hv
theorem row_strs {w : World} {x : Addr} {len : Nat} {ss : List ByteArray} (hl : len ≤ ss.length) (hcell : ∀ i, i < ss.length → w.cell? (x.add i) = some (.string (ss.getD i ByteArray.empty))) (hws : ∀ s ∈ ss, s.size ≤ maxLen) :
    ∃ ts : List ByteArray, ts.length = len ∧ (∀ s ∈ ts, s.size ≤ maxLen) ∧ RowIs w (some x) (strs' ts) := by
  refine ⟨ss.take len, by simp; omega, fun s hs => hws s (List.mem_of_mem_take hs), row_cells fun i v hv => ?_⟩
  unfold strs' at hv
  rw [List.getElem?_map, List.getElem?_take] at hv
  split at hv
  · have hi : i < ss.length := by omega
    rw [hcell i hi]
    simpa [hi] using hv
  · simp at hv
end
end Go.Proofs.YtfoncphdbaaedaaGreatDoor
