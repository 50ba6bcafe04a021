/- Equality of commands; a load of a whole command. -/
import Derived.Test.YtpedngbjpbeanaaGreatDoorCB
import Derived.ChangeKeysEq
namespace Go.Proofs.YtpedngbjpbeanaaGreatDoor
section
open Go.RowKit
set_option linter.unusedVariables false
theorem equal_fl9 (W : World) (a b : Fl) : (Op.equalIn 9999 47 a.v b.v).run Tryz.prog W = .ok (eqF a b) W := by
  obtain ⟨n, s⟩ := a
  obtain ⟨m, t⟩ := b
  by_cases h0 : n = m <;> by_cases h1 : s = t <;> simp [go_sem, h0, h1, toList_inj, eqF]
theorem equal_pt9 (W : World) (a0 a1 b0 b1 : Int) : (Op.equalIn 9999 45 (pt a0 a1) (pt b0 b1)).run Tryz.prog W = .ok (pEq a0 a1 b0 b1) W := by
  unfold pEq
  by_cases h0 : a0 = b0 <;> by_cases h1 : a1 = b1 <;> simp [go_sem, h0, h1]
theorem equal_rc9 (W : World) (a0 a1 a2 a3 b0 b1 b2 b3 : Int) : (Op.equalIn 9999 55 (rc a0 a1 a2 a3) (rc b0 b1 b2 b3)).run Tryz.prog W = .ok (eqB ⟨a0, a1, a2, a3⟩ ⟨b0, b1, b2, b3⟩) W := by
  unfold eqB
  by_cases h0 : a0 = b0 <;> by_cases h1 : a1 = b1 <;> by_cases h2 : a2 = b2 <;> by_cases h3 : a3 = b3 <;> simp [go_sem, h0, h1, h2, h3]
set_option maxHeartbeats 4000000 in
theorem equal_cm (W : World) (a b : Cm) : (Op.equalIn 10000 57 a.v b.v).run Tryz.prog W = .ok (eqC a b) W := by
  have e1 := fun W => equal_pt9 W a.x a.y b.x b.y
  have e2 := fun W => equal_fs W a.f0 a.f1 a.f2 a.f3 b.f0 b.f1 b.f2 b.f3
  have e3 := fun W => equal_fl9 W a.va b.va
  have e4 := fun W => equal_rc9 W a.r0 a.r1 a.r2 a.r3 b.r0 b.r1 b.r2 b.r3
  unfold eqC
  generalize pEq a.x a.y b.x b.y = q1 at e1 ⊢
  generalize (eqF a.f0 b.f0 && (eqF a.f1 b.f1 && (eqF a.f2 b.f2 && eqF a.f3 b.f3))) = q2 at e2 ⊢
  generalize eqF a.va b.va = q3 at e3 ⊢
  generalize eqB ⟨a.r0, a.r1, a.r2, a.r3⟩ ⟨b.r0, b.r1, b.r2, b.r3⟩ = q4 at e4 ⊢
  obtain ⟨a0, a1, a2, a3, a4, a5, a6, a7, a8, a9, a10, a11, a12, a13, a14, a15, a16⟩ := a
  obtain ⟨b0, b1, b2, b3, b4, b5, b6, b7, b8, b9, b10, b11, b12, b13, b14, b15, b16⟩ := b
  simp only at e1 e2 e3 e4
  by_cases h0 : a0 = b0
  · by_cases h1 : a1 = b1
    · by_cases h2 : a2 = b2
      · by_cases h3 : a3 = b3
        · subst h0 h1 h2 h3
          cases q1
          · simp [go_sem, e1]
          · cases q2
            · simp [go_sem, e1, e2]
            · cases q3
              · simp [go_sem, e1, e2, e3]
              · by_cases h5 : a11 = b11
                · by_cases h6 : a12 = b12
                  · subst h5 h6
                    simp [go_sem, e1, e2, e3, e4]
                    cases q4 <;> rfl
                  · simp [go_sem, e1, e2, e3, h5, h6]
                · simp [go_sem, e1, e2, e3, h5]
        · simp [go_sem, h0, h1, h2, h3]
      · simp [go_sem, h0, h1, h2]
    · simp [go_sem, h0, h1]
  · simp [go_sem, h0]
theorem equal_cm_at {a b : Cm} {q : Bool} (h : eqC a b = q) (W : World) : (Op.equalIn 10000 57 a.v b.v).run Tryz.prog W = .ok q W := by rw [equal_cm, h]
end
section
open Go.RowKit
set_option linter.unusedVariables false
theorem Tryz.size30 : (Tryz.prog.info? 57).map (·.size) = some 22 := by kernel_rfl
theorem wpList_load_cm {ops : Array Oper} {rest : List Oper} {o : Oper} {a : Act} {W : World} {Q : Exit → Act → World → Prop} (hgd : o.guard = none) (x : Operand) (ho : o.op = .load 57 x)
    {g : Nat} {c : Cm} (hx : a.eval x = .pointer (some ⟨g, 0, none⟩)) (h : W.heap[g]? = some c.o) (k : wpList Tryz.prog ops Q rest (a.put o.dst c.v) W) : wpList Tryz.prog ops Q (o :: rest) a W :=
  wpList_load_row hgd _ x ho g hx _ _ _ _ h Tryz.underlying57 rfl Tryz.size30 k
def watchB (k : Int) : Bool := k == 6 || (k == 7 || k == 8)
theorem cmd_watches (w : World) (a : Cm) : Calls Tryz.prog 64 #[a.v] w fun e w' => e = .returned (.bool (watchB a.kd)) ∧ Below w.heap.size w w' := by
  obtain ⟨W, hW⟩ : ∃ W, W = w.alloc a.o := ⟨_, rfl⟩
  have hB : Below w.heap.size w W := by rw [hW]; exact below1 _ _
  have hA : W.heap[w.heap.size]? = some a.o := by rw [hW]; exact new_at _ _ _ rfl
  have h0 := cell_i hA (k := 0) (.inl rfl)
  obtain ⟨r, hr⟩ : ∃ r, Hid (watchB a.kd = r) := ⟨_, rfl⟩
  rw [hr.out]
  go_enter Tryz.func64, Tryz.ntmps64
  go_upto_region 1 with fail
  rw [← hW]
  have h0' : W.cell? ⟨w.heap.size, 0, none⟩ = some (.int .i64 a.kd) := h0
  clear hW hA h0
  generalize a.kd = k at h0' hr
  by_cases h6 : k = 6
  · subst h6
    go_wp2_with fail
    go_ret
    exact ⟨by rw [← hr.out]; rfl, hB⟩
  by_cases h7 : k = 7
  · subst h7
    go_wp2_with fail
    go_ret
    exact ⟨by rw [← hr.out]; rfl, hB⟩
  · have q6 : (k == 6) = false := by simpa using h6
    have q7 : (k == 7) = false := by simpa using h7
    obtain ⟨q, q8⟩ : ∃ q, (k == 8) = q := ⟨_, rfl⟩
    go_wp2_with fail
    go_ret
    exact ⟨by rw [← hr.out]; simp [watchB, q6, q7, q8], hB⟩
end
end Go.Proofs.YtpedngbjpbeanaaGreatDoor
