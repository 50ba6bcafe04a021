/- What the listed table of masks reads as, as cells; the start that fits; no conditions beyond those typed. -/
import Derived.Test.YtfoncphdbaaedaaGreatDoorMorton2
import Derived.ProofKit
import Derived.LaidMore
import Derived.Lay
import Derived.OpenShut
import Derived.Stop.Joined
namespace Go.Proofs.YtfoncphdbaaedaaGreatDoor
open Go.ChangeShapes Go.WideShapes Go.ChangeAt Go.WideMaps Go.WideElems Go.RowKit
def laids : List (String × DataW Unit) := [("vedette/morton.masks", Rows.laid_vedette_morton_masks)]
theorem own_knob : ownKnob Tryz.prog.godebug = none := by kernel_rfl
theorem gMasks : Tryz.prog.globalNamed "vedette/morton.masks" = some 0 := by kernel_rfl
theorem tMasks : (Tryz.prog.globals[0]?).map (·.type) = some 169 := by kernel_rfl
theorem door_met (os : Os) (args : Array Value) : laidMetH Tryz.prog laids ((World.laidAll Tryz.prog os laids).forCall (fun _ _ => 0) ⟨#[], args, []⟩).memory := by
  rw [MakeChecks.laidMetH_plain _ _ _ (by kernel_rfl)]; exact laidMet_laidAll _ (by kernel_rfl) (by kernel_rfl)
/-- a listed table of ints, cell by cell -/
theorem table_cells {H : Type} {enc : TypeId × Value → H} {P : Program} {W : World} {base : Nat} {sp : Nat → Bool} {hd : Bool} {fuel : Nat} {t e : TypeId} {n : Nat} {k : IntKind} {cs : List Value} {L : List Int} {p : List MemPlace}
    (ht : P.underlying t = some (.array n e)) (he : P.underlying e = some (.int k)) (hc : P.cellsOf e = 1) (hn : L.length = n)
    (h : DataW.trod enc P W base sp hd fuel t cs = some (.agg (L.map fun i => .lit (.int k i)), p)) :
    ∀ (i : Nat) (x : Int), L[i]? = some x → cs[i]? = some (.int k x) := by
  intro i x hx
  obtain ⟨xs, m1, rfl, hx1, hlen, hxs, hel⟩ := DataW.trod_array ht h
  have hi : i < n := by have := (List.getElem?_eq_some_iff.1 hx).1; omega
  have e0 := hel i hi
  rw [hc, Nat.mul_one] at e0
  simp only [Prod.mk.injEq, DataW.agg.injEq] at hx1
  have hxi : (xs.map (·.1))[i]? = some (.lit (.int k x)) := by rw [← hx1.1]; simp [hx]
  obtain ⟨y, hy, hy1⟩ := Option.map_eq_some_iff.1 (by rw [← List.getElem?_map]; exact hxi)
  rw [hy] at e0
  obtain ⟨j, f1, f2, _⟩ := DataW.trod_int he e0
  rw [f2] at hy1
  obtain rfl : j = x := by simpa using hy1
  have : (List.take 1 (cs.drop i))[0]? = some (.int k j) := by rw [f1]; rfl
  simpa [List.getElem?_take] using this
theorem of_laid {W : World} (h : laidMetH Tryz.prog laids W) : Masks W := by
  rw [MakeChecks.laidMetH_plain _ _ _ (by kernel_rfl)] at h
  obtain ⟨ps, ⟨g0, t0, cs0, f0, p0, q0, hg0, ht0, hv0, hd0, _, _⟩, _, _⟩ := h
  obtain rfl := Option.some.inj (gMasks.symm.trans hg0)
  obtain rfl := Option.some.inj (tMasks.symm.trans ht0)
  have hc := World.var?_cell hg0 hv0
  have T := table_cells (L := [65535, 16711935, 252645135, 858993459, 1431655765]) Tryz.underlying169 Tryz.underlying88 (by kernel_rfl) rfl hd0
  have U : ∀ (i : Nat) (x : Int), [65535, 16711935, 252645135, 858993459, 1431655765][i]? = some x → W.cell? ⟨0, i, none⟩ = some (.int .u32 x) := fun i x hx => by
    rw [hc i, ← Array.getElem?_toList]; exact T i x hx
  exact ⟨U 0 _ rfl, U 1 _ rfl, U 2 _ rfl, U 3 _ rfl, U 4 _ rfl⟩
theorem nat_u16 {a : Int} (h : (Lit.int .u16 a).wf = true) : ∃ x : Nat, a = x ∧ x < 65536 := by
  have := bounds_u16 h
  exact ⟨a.toNat, by omega, by omega⟩
theorem nat_u8 {a : Int} (h : (Lit.int .u8 a).wf = true) : ∃ x : Nat, a = x ∧ x < 256 := by
  have := bounds_u8 h
  exact ⟨a.toNat, by omega, by omega⟩
theorem nat_u32 {a : Int} (h : (Lit.int .u32 a).wf = true) : ∃ x : Nat, a = x ∧ x < 4294967296 := by
  have := bounds_u32 h
  exact ⟨a.toNat, by omega, by omega⟩
end Go.Proofs.YtfoncphdbaaedaaGreatDoor
