/- Contracts of Same and Watches of the package cmd. -/
import Derived.Test.YtfcofhlcainanaaCmE
namespace Go.Proofs.Ytfcofhlcainanaa
open Go.RowKit
set_option linter.unusedVariables false
theorem Try.size30 : (Try.prog.info? 30).map (·.size) = some 22 := by kernel_rfl
theorem wpList_load_cm {ops : Array Oper} {rest : List Oper} {o : Oper} {a : Act} {W : World} {Q : Exit → Act → World → Prop} (hgd : o.guard = none) (x : Operand) (ho : o.op = .load 30 x)
    {g : Nat} {c : Cm} (hx : a.eval x = .pointer (some ⟨g, 0, none⟩)) (h : W.heap[g]? = some c.o) (k : wpList Try.prog ops Q rest (a.put o.dst c.v) W) : wpList Try.prog ops Q (o :: rest) a W :=
  wpList_load_row hgd _ x ho g hx _ _ _ _ h Try.underlying30 rfl Try.size30 k
theorem cmd_same (w : World) (a b : Cm) : Calls Try.prog 15 #[a.v, b.v] w fun e w' => e = .returned (.bool (eqC a b)) ∧ Below w.heap.size w w' := by
  obtain ⟨q, hq⟩ : ∃ q, Hid (eqC a b = q) := ⟨_, rfl⟩
  have hQ := equal_cm_at hq.out
  rw [hq.out]
  obtain ⟨W, hW⟩ : ∃ W, W = (w.alloc a.o).alloc b.o := ⟨_, rfl⟩
  have hB : Below w.heap.size w W := by rw [hW]; exact Go.Joins.below_alloc2 _ _ _
  have hA : W.heap[w.heap.size]? = some a.o := by rw [hW]; exact old_at (new_at _ _ _ rfl) _
  have hC : W.heap[w.heap.size + 1]? = some b.o := by rw [hW]; exact new_at _ _ _ (by simp)
  go_enter Try.func15, Try.ntmps15
  go_upto_region 1 with fail
  rw [← hW]
  clear hW
  go_wp2_with (first
    | with_reducible refine wpList_load_cm rfl (.tmp 2) rfl rfl hA ?_
    | with_reducible refine wpList_load_cm rfl (.tmp 3) rfl rfl hC ?_)
  go_ret
  exact ⟨rfl, hB⟩
def watchB (k : Int) : Bool := k == 6 || (k == 7 || k == 8)
theorem cmd_watches (w : World) (a : Cm) : Calls Try.prog 13 #[a.v] w fun e w' => e = .returned (.bool (watchB a.kd)) ∧ Below w.heap.size w w' := by
  obtain ⟨W, hW⟩ : ∃ W, W = w.alloc a.o := ⟨_, rfl⟩
  have hB : Below w.heap.size w W := by rw [hW]; exact below1 _ _
  have hA : W.heap[w.heap.size]? = some a.o := by rw [hW]; exact new_at _ _ _ rfl
  have h0 := cell_i hA (k := 0) (.inl rfl)
  obtain ⟨r, hr⟩ : ∃ r, Hid (watchB a.kd = r) := ⟨_, rfl⟩
  rw [hr.out]
  go_enter Try.func13, Try.ntmps13
  go_upto_region 1 with fail
  rw [← hW]
  have h0' : W.cell? ⟨w.heap.size, 0, none⟩ = some (.int .i64 a.kd) := h0
  clear hW hA h0
  generalize a.kd = k at h0' hr
  by_cases h6 : k = 6
  · subst h6
    go_wp2_with fail
    go_ret
    exact ⟨by rw [← hr.out]; rfl, hB⟩
  by_cases h7 : k = 7
  · subst h7
    go_wp2_with fail
    go_ret
    exact ⟨by rw [← hr.out]; rfl, hB⟩
  · have q6 : (k == 6) = false := by simpa using h6
    have q7 : (k == 7) = false := by simpa using h7
    obtain ⟨q, q8⟩ : ∃ q, (k == 8) = q := ⟨_, rfl⟩
    go_wp2_with fail
    go_ret
    exact ⟨by rw [← hr.out]; simp [watchB, q6, q7, q8], hB⟩
end Go.Proofs.Ytfcofhlcainanaa
