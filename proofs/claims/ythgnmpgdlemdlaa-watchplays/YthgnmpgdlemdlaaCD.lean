/- Equality of commands; a load of a whole command. -/
import Derived.Test.YthgnmpgdlemdlaaCA
import Derived.ChangeKeysEq
namespace Go.Proofs.Ythgnmpgdlemdlaa
section
open Go.RowKit
set_option linter.unusedVariables false
theorem equal_fl8 (W : World) (a b : Fl) : (Op.equalIn 9998 38 a.v b.v).run Try.prog W = .ok (eqF a b) W := by
  obtain ⟨n, s⟩ := a
  obtain ⟨m, t⟩ := b
  by_cases h0 : n = m <;> by_cases h1 : s = t <;> simp [go_sem, h0, h1, toList_inj, eqF]
theorem equal_fl9 (W : World) (a b : Fl) : (Op.equalIn 9999 38 a.v b.v).run Try.prog W = .ok (eqF a b) W := by
  obtain ⟨n, s⟩ := a
  obtain ⟨m, t⟩ := b
  by_cases h0 : n = m <;> by_cases h1 : s = t <;> simp [go_sem, h0, h1, toList_inj, eqF]
theorem equal_pt9 (W : World) (a0 a1 b0 b1 : Int) : (Op.equalIn 9999 24 (pt a0 a1) (pt b0 b1)).run Try.prog W = .ok (pEq a0 a1 b0 b1) W := by
  unfold pEq
  by_cases h0 : a0 = b0 <;> by_cases h1 : a1 = b1 <;> simp [go_sem, h0, h1]
theorem equal_rc9 (W : World) (a0 a1 a2 a3 b0 b1 b2 b3 : Int) : (Op.equalIn 9999 26 (rc a0 a1 a2 a3) (rc b0 b1 b2 b3)).run Try.prog W = .ok (eqB ⟨a0, a1, a2, a3⟩ ⟨b0, b1, b2, b3⟩) W := by
  unfold eqB
  by_cases h0 : a0 = b0 <;> by_cases h1 : a1 = b1 <;> by_cases h2 : a2 = b2 <;> by_cases h3 : a3 = b3 <;> simp [go_sem, h0, h1, h2, h3]
theorem Try.info25s : (Try.prog.info? 38).isSome = true := by kernel_rfl
theorem Try.cellsE25 : Try.prog.cellsOf 38 = 2 := by kernel_rfl
theorem part25 (W : World) (v0 v1 v2 v3 v4 v5 v6 v7 : Value) : (part 38 #[v0, v1, v2, v3, v4, v5, v6, v7] 0).run Try.prog W = .ok (.agg #[v0, v1]) W ∧ (part 38 #[v0, v1, v2, v3, v4, v5, v6, v7] 2).run Try.prog W = .ok (.agg #[v2, v3]) W ∧ (part 38 #[v0, v1, v2, v3, v4, v5, v6, v7] 4).run Try.prog W = .ok (.agg #[v4, v5]) W ∧ (part 38 #[v0, v1, v2, v3, v4, v5, v6, v7] 6).run Try.prog W = .ok (.agg #[v6, v7]) W := by
  refine ⟨?_, ?_, ?_, ?_⟩ <;> kernel_rfl
theorem equal_fs (W : World) (f0 f1 f2 f3 g0 g1 g2 g3 : Fl) : (Op.equalIn 9999 39 (.agg #[.int .i64 f0.n, .string f0.s, .int .i64 f1.n, .string f1.s, .int .i64 f2.n, .string f2.s, .int .i64 f3.n, .string f3.s]) (.agg #[.int .i64 g0.n, .string g0.s, .int .i64 g1.n, .string g1.s, .int .i64 g2.n, .string g2.s, .int .i64 g3.n, .string g3.s])).run Try.prog W = .ok (eqF f0 g0 && (eqF f1 g1 && (eqF f2 g2 && eqF f3 g3))) W := by
  obtain ⟨i, hi⟩ := Option.isSome_iff_exists.1 Try.info25s
  rw [run_equalIn_array W 9998 _ _ Try.underlying39 hi, Try.cellsE25]
  have e := equal_fl8
  unfold Fl.v at e
  simp only [List.range, List.range.loop, Op.eqItems, Sem.run_bind, Nat.zero_mul, Nat.one_mul, part25, Result.andThen_ok, show 2 * 2 = 4 from rfl, show 3 * 2 = 6 from rfl, e]
  cases h0 : eqF f0 g0 <;> cases h1 : eqF f1 g1 <;> cases h2 : eqF f2 g2 <;> cases h3 : eqF f3 g3 <;> simp only [h1, h2, h3, e, Sem.run_bind, Sem.run_pure, part25, Result.andThen_ok, reduceIte, Bool.not_false, Bool.not_true, Bool.false_eq_true, Bool.false_and, Bool.true_and]
set_option maxHeartbeats 4000000 in
theorem equal_cm (W : World) (a b : Cm) : (Op.equalIn 10000 41 a.v b.v).run Try.prog W = .ok (eqC a b) W := by
  have e1 := fun W => equal_pt9 W a.x a.y b.x b.y
  have e2 := fun W => equal_fs W a.f0 a.f1 a.f2 a.f3 b.f0 b.f1 b.f2 b.f3
  have e3 := fun W => equal_fl9 W a.va b.va
  have e4 := fun W => equal_rc9 W a.r0 a.r1 a.r2 a.r3 b.r0 b.r1 b.r2 b.r3
  unfold eqC
  generalize pEq a.x a.y b.x b.y = q1 at e1 ⊢
  generalize (eqF a.f0 b.f0 && (eqF a.f1 b.f1 && (eqF a.f2 b.f2 && eqF a.f3 b.f3))) = q2 at e2 ⊢
  generalize eqF a.va b.va = q3 at e3 ⊢
  generalize eqB ⟨a.r0, a.r1, a.r2, a.r3⟩ ⟨b.r0, b.r1, b.r2, b.r3⟩ = q4 at e4 ⊢
  obtain ⟨a0, a1, a2, a3, a4, a5, a6, a7, a8, a9, a10, a11, a12, a13, a14, a15, a16⟩ := a
  obtain ⟨b0, b1, b2, b3, b4, b5, b6, b7, b8, b9, b10, b11, b12, b13, b14, b15, b16⟩ := b
  simp only at e1 e2 e3 e4
  by_cases h0 : a0 = b0
  · by_cases h1 : a1 = b1
    · by_cases h2 : a2 = b2
      · by_cases h3 : a3 = b3
        · subst h0 h1 h2 h3
          cases q1
          · simp [go_sem, e1]
          · cases q2
            · simp [go_sem, e1, e2]
            · cases q3
              · simp [go_sem, e1, e2, e3]
              · by_cases h5 : a11 = b11
                · by_cases h6 : a12 = b12
                  · subst h5 h6
                    simp [go_sem, e1, e2, e3, e4]
                    cases q4 <;> rfl
                  · simp [go_sem, e1, e2, e3, h5, h6]
                · simp [go_sem, e1, e2, e3, h5]
        · simp [go_sem, h0, h1, h2, h3]
      · simp [go_sem, h0, h1, h2]
    · simp [go_sem, h0, h1]
  · simp [go_sem, h0]
theorem equal_cm_at {a b : Cm} {q : Bool} (h : eqC a b = q) (W : World) : (Op.equalIn 10000 41 a.v b.v).run Try.prog W = .ok q W := by rw [equal_cm, h]
end
section
open Go.RowKit
set_option linter.unusedVariables false
theorem Try.size30 : (Try.prog.info? 41).map (·.size) = some 22 := by kernel_rfl
theorem wpList_load_cm {ops : Array Oper} {rest : List Oper} {o : Oper} {a : Act} {W : World} {Q : Exit → Act → World → Prop} (hgd : o.guard = none) (x : Operand) (ho : o.op = .load 41 x)
    {g : Nat} {c : Cm} (hx : a.eval x = .pointer (some ⟨g, 0, none⟩)) (h : W.heap[g]? = some c.o) (k : wpList Try.prog ops Q rest (a.put o.dst c.v) W) : wpList Try.prog ops Q (o :: rest) a W :=
  wpList_load_row hgd _ x ho g hx _ _ _ _ h Try.underlying41 rfl Try.size30 k
end
end Go.Proofs.Ythgnmpgdlemdlaa
