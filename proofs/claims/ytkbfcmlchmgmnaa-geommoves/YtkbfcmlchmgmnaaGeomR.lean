/- What the laws on rectangles share: reading rows of rectangles; the law's own function few. -/
import Derived.Test.YtkbfcmlchmgmnaaGeomN
namespace Go.Proofs.Ytkbfcmlchmgmnaa
open Go.RowKit
set_option linter.unusedVariables false
theorem new_at (W : World) (o : Obj) (g : Nat) (hg : g = W.heap.size) : (W.alloc o).heap[g]? = some o := by rw [heap_alloc, if_pos hg]
theorem old_at {W : World} {g : Nat} {p : Obj} (h : W.heap[g]? = some p) (o : Obj) : (W.alloc o).heap[g]? = some p := by
  rw [heap_alloc, if_neg (Nat.ne_of_lt (Array.getElem?_eq_some_iff.1 h).1)]; exact h
theorem cells4 {W0 : World} {g : Nat} {t : TypeId} {v0 v1 v2 v3 : Value} (h : W0.heap[g]? = some (.cells #[v0, v1, v2, v3] t (0, 0))) (W : World) (hb : Below W0.heap.size W0 W) :
    W.cell? ⟨g, 0, none⟩ = some v0 ∧ W.cell? ⟨g, 1, none⟩ = some v1 ∧ W.cell? ⟨g, 2, none⟩ = some v2 ∧ W.cell? ⟨g, 3, none⟩ = some v3 ∧ g < W.heap.size := by
  have hl : g < W0.heap.size := (Array.getElem?_eq_some_iff.1 h).1
  have k := var4 (var_on hb h hl)
  exact ⟨k.1, k.2.1, k.2.2.1, k.2.2.2.1, Nat.lt_of_lt_of_le hl hb.size⟩
theorem cells2 {W0 : World} {g : Nat} {t : TypeId} {v0 v1 : Value} (h : W0.heap[g]? = some (.cells #[v0, v1] t (0, 0))) (W : World) (hb : Below W0.heap.size W0 W) :
    W.cell? ⟨g, 0, none⟩ = some v0 ∧ W.cell? ⟨g, 1, none⟩ = some v1 ∧ g < W.heap.size := by
  have hl : g < W0.heap.size := (Array.getElem?_eq_some_iff.1 h).1
  have k := var2 (var_on hb h hl)
  exact ⟨k.1, k.2.1, Nat.lt_of_lt_of_le hl hb.size⟩
theorem cell_below {W w1 : World} {a : Addr} {v : Value} (hb : Below W.heap.size W w1) (h : W.cell? a = some v) : w1.cell? a = some v := by
  rw [hb.cell (World.block_lt_of_cell? W a h)]; exact h
theorem owns_slice {W : World} {base : Nat} {e : TypeId} {size : Nat} {v : Value} {n : Nat} {xs : List Value} (h : W.ownsRow base e size v n xs) : ∃ p cap, v = .slice p n cap := by
  rcases h.2 with ⟨rfl, rfl⟩ | ⟨g, cap, cur, rfl, _⟩
  · exact ⟨_, _, rfl⟩
  · exact ⟨_, _, rfl⟩
theorem owns_some {W : World} {base : Nat} {e : TypeId} {size : Nat} {p : Option Addr} {n cap : Nat} {xs : List Value} (h : W.ownsRow base e size (.slice p n cap) n xs) (hn : 0 < n) : ∃ g, p = some ⟨g, 0, none⟩ := by
  rcases h.2 with ⟨h', h0⟩ | ⟨g, cap', cur, h', _⟩
  · omega
  · simp only [Value.slice.injEq] at h'
    exact ⟨g, h'.1⟩
theorem row_at {W : World} {base g n cap : Nat} {L : List Rc} (h : W.ownsRow base 23 4 (.slice (some ⟨g, 0, none⟩) n cap) n (flat L)) {k : Nat} {r : Rc} (hk : L[k]? = some r) (hn : n = L.length) :
    W.cell? ⟨g, k * 4, none⟩ = some (.int .i64 r.x0) ∧ W.cell? ⟨g, k * 4 + 1, none⟩ = some (.int .i64 r.y0) ∧ W.cell? ⟨g, k * 4 + 2, none⟩ = some (.int .i64 r.x1) ∧ W.cell? ⟨g, k * 4 + 3, none⟩ = some (.int .i64 r.y1) := by
  have hlt : k < n := by rw [hn]; exact (List.getElem?_eq_some_iff.1 hk).1
  have hf := flat_get L k r hk
  rw [h.cellAt (k * 4) (by omega), h.cellAt (k * 4 + 1) (by omega), h.cellAt (k * 4 + 2) (by omega), h.cellAt (k * 4 + 3) (by omega)]
  exact hf
theorem get_rc (L : List Rc) (k : Nat) (hk : k < L.length) : ∃ p0 p1 p2 p3 : Int, L[k]? = some ⟨p0, p1, p2, p3⟩ := by
  obtain ⟨r, hr⟩ : ∃ r, L[k]? = some r := ⟨L[k], by simp [hk]⟩
  exact ⟨r.x0, r.y0, r.x1, r.y1, hr⟩
theorem minus_le (a b : Rc) : (minusL a b).length ≤ 4 := by
  unfold minusL
  split
  · simp
  · split
    · simp
    · exact Nat.le_trans (List.length_filter_le _ _) (by simp [partsL])
theorem calls_val {f : Nat} {args : Array Value} {w : World} {v v' : Value} (h : Calls Try.prog f args w fun e w' => e = .returned v ∧ Below w.heap.size w w') (hv : v = v') : Calls Try.prog f args w fun e w' => e = .returned v' ∧ Below w.heap.size w w' := by
  rw [← hv]; exact h
theorem run_min4 {P : Program} (ts : Array TypeId) (t : TypeId) (x y z u : Int) : ∃ n : Int, ∀ w : World, (Builtin.min_ ts t #[.int .i64 x, .int .i64 y, .int .i64 z, .int .i64 u]).run P w = .ok (.int .i64 n) w :=
  ⟨_, fun w => by simp [Builtin.min_, Builtin.min2]; rfl⟩
theorem run_max4 {P : Program} (ts : Array TypeId) (t : TypeId) (x y z u : Int) : ∃ n : Int, ∀ w : World, (Builtin.max_ ts t #[.int .i64 x, .int .i64 y, .int .i64 z, .int .i64 u]).run P w = .ok (.int .i64 n) w :=
  ⟨_, fun w => by simp [Builtin.max_, Builtin.max2]; rfl⟩
theorem few_any (w : World) (x0 y0 x1 y1 : Int) : Calls Try.prog 9 #[rc x0 y0 x1 y1] w fun e w' => ∃ b, e = .returned (.bool b) ∧ Below w.heap.size w w' := by
  obtain ⟨n, hn⟩ := run_min4 (P := Try.prog) #[3, 3, 3, 3] 3 x0 y0 x1 y1
  obtain ⟨m, hm⟩ := run_max4 (P := Try.prog) #[3, 3, 3, 3] 3 x0 y0 x1 y1
  go_enter Try.func9, Try.ntmps9
  go_wp2
  · go_ret
    exact ⟨_, rfl, below1 _ _⟩
  · go_ret
    exact ⟨.inl rfl, below1 _ _⟩
end Go.Proofs.Ytkbfcmlchmgmnaa
