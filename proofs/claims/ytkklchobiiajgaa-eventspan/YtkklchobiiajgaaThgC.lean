/- Contract of the reference's AllBytes: all things' bytes one behind the other, or what is wrong. -/
import Derived.Test.YtkklchobiiajgaaThgA
namespace Go.Proofs.Ytkklchobiiajgaa
open Go.RowKit
set_option linter.unusedVariables false
theorem RowT.cells {W : World} {b off : Nat} {L : List Th} (h : RowT W (some ⟨b, off, none⟩) L) {k : Nat} {t : Th} (hk : L[k]? = some t) : cellsT W b (off + k * 11) t := by
  obtain ⟨_, _, e, h⟩ := h.at hk
  simp only [Option.some.injEq, Addr.mk.injEq, and_true] at e
  obtain ⟨rfl, rfl⟩ := e
  exact h
theorem RowT.grown {W : World} {b off : Nat} {L : List Th} (h : RowT W (some ⟨b, off, none⟩) L) {k : Nat} {t : Th} (hk : L[k]? = some t) (d : Nat) (os : Array Obj) : cellsT (Sort.grow (redrawn W d) os) b (off + k * 11) t :=
  (h.later (below_regrown W d os)).cells hk
theorem refput_at {n : Nat} {L : List UInt8} (H : Hid (L = put n)) (h1 : n ≤ 18446744073709551615) (w : World) :
    Calls Try.prog 31 #[.int .u64 n] w fun e w' => e = .returned (.string ⟨L.toArray⟩) ∧ Below w.heap.size w w' := by
  rw [H.out]; exact ref_put n h1 w
theorem rises_prev {L : List Th} {m : Nat} {u t : Th} (hu : L[m]? = some u) : risesB (L.take (m + 1)) t = decide (u.id < t.id) := by
  have hm : m < L.length := (List.getElem?_eq_some_iff.1 hu).1
  exact risesB_one (m := m) (by rw [List.length_take]; omega) (by rw [List.getElem?_take, if_pos (by omega)]; exact hu)
end Go.Proofs.Ytkklchobiiajgaa
