/- What the laws on the grid share: reading rows of numbers and cells of structs; known. -/
import Derived.Test.YthhloefgncbifaaDoorCells2
namespace Go.Proofs.YthhloefgncbifaaDoor
open Go.RowKit
set_option linter.unusedVariables false
theorem new_at (W : World) (o : Obj) (g : Nat) (hg : g = W.heap.size) : (W.alloc o).heap[g]? = some o := by rw [heap_alloc, if_pos hg]
theorem old_at {W : World} {g : Nat} {p : Obj} (h : W.heap[g]? = some p) (o : Obj) : (W.alloc o).heap[g]? = some p := by
  rw [heap_alloc, if_neg (Nat.ne_of_lt (Array.getElem?_eq_some_iff.1 h).1)]; exact h
theorem cells4 {W0 : World} {g : Nat} {t : TypeId} {v0 v1 v2 v3 : Value} (h : W0.heap[g]? = some (.cells #[v0, v1, v2, v3] t (0, 0))) (W : World) (hb : Below W0.heap.size W0 W) :
    W.cell? ⟨g, 0, none⟩ = some v0 ∧ W.cell? ⟨g, 1, none⟩ = some v1 ∧ W.cell? ⟨g, 2, none⟩ = some v2 ∧ W.cell? ⟨g, 3, none⟩ = some v3 ∧ g < W.heap.size := by
  have hl : g < W0.heap.size := (Array.getElem?_eq_some_iff.1 h).1
  have k := var4 (var_on hb h hl)
  exact ⟨k.1, k.2.1, k.2.2.1, k.2.2.2.1, Nat.lt_of_lt_of_le hl hb.size⟩
theorem cells2 {W0 : World} {g : Nat} {t : TypeId} {v0 v1 : Value} (h : W0.heap[g]? = some (.cells #[v0, v1] t (0, 0))) (W : World) (hb : Below W0.heap.size W0 W) :
    W.cell? ⟨g, 0, none⟩ = some v0 ∧ W.cell? ⟨g, 1, none⟩ = some v1 ∧ g < W.heap.size := by
  have hl : g < W0.heap.size := (Array.getElem?_eq_some_iff.1 h).1
  have k := var2 (var_on hb h hl)
  exact ⟨k.1, k.2.1, Nat.lt_of_lt_of_le hl hb.size⟩
theorem owns_slice {W : World} {base : Nat} {e : TypeId} {size : Nat} {v : Value} {n : Nat} {xs : List Value} (h : W.ownsRow base e size v n xs) : ∃ p cap, v = .slice p n cap := by
  rcases h.2 with ⟨rfl, rfl⟩ | ⟨g, cap, cur, rfl, _⟩
  · exact ⟨_, _, rfl⟩
  · exact ⟨_, _, rfl⟩
theorem owns_some {W : World} {base : Nat} {e : TypeId} {size : Nat} {p : Option Addr} {n cap : Nat} {xs : List Value} (h : W.ownsRow base e size (.slice p n cap) n xs) (hn : 0 < n) : ∃ g, p = some ⟨g, 0, none⟩ := by
  rcases h.2 with ⟨h', h0⟩ | ⟨g, cap', cur, h', _⟩
  · omega
  · simp only [Value.slice.injEq] at h'
    exact ⟨g, h'.1⟩
theorem vals_get (L : List Nat) (k c : Nat) (h : L[k]? = some c) : (vals L)[k]? = some (.int .i64 (c : Nat)) := by simp [vals, h]
theorem row_int {W : World} {base g n cap : Nat} {L : List Nat} (h : W.ownsRow base 3 1 (.slice (some ⟨g, 0, none⟩) n cap) n (vals L)) {k c : Nat} (hk : L[k]? = some c) (hn : n = L.length) : W.cell? ⟨g, k, none⟩ = some (.int .i64 (c : Nat)) := by
  have hlt : k < n := by rw [hn]; exact (List.getElem?_eq_some_iff.1 hk).1
  rw [h.cellAt k (by omega)]
  exact vals_get L k c hk
theorem calls_val {f : Nat} {args : Array Value} {w : World} {v v' : Value} (h : Calls Tryd.prog f args w fun e w' => e = .returned v ∧ Below w.heap.size w w') (hv : v = v') : Calls Tryd.prog f args w fun e w' => e = .returned v' ∧ Below w.heap.size w w' := by
  rw [← hv]; exact h
theorem Masks.drewN {W : World} (h : Masks W) (n : Nat) : Masks (W.drewN n) := h.below (below_drewN (Below.refl _ _) n)
end Go.Proofs.YthhloefgncbifaaDoor
