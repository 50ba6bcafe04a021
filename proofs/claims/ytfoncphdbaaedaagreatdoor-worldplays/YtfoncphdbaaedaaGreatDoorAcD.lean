/- Plain facts on what Do leaves: refused it is as it was; done, only the one thing has turned; equality of fields. -/
import Derived.Test.YtfoncphdbaaedaaGreatDoorAcQ
import Derived.Test.YtfoncphdbaaedaaGreatDoorCD
namespace Go.Proofs.YtfoncphdbaaedaaGreatDoor
open Go.RowKit
set_option linter.unusedVariables false
theorem do_won {L : List Th} (hG : Good L) {c : Cm} {id : Int} (h : doE L c id = 0) : chk L c = 0 ∧ badI L c id = false := by
  by_cases h0 : chk L c = 0
  · refine ⟨h0, ?_⟩
    cases hb : badI L c id
    · rfl
    · rw [(do_bad hG h0 hb).1] at h; cases h
  · rw [(do_no h0).1] at h; exact absurd h h0
theorem do_fail {L : List Th} (hG : Good L) {c : Cm} {id : Int} (h : ¬ doE L c id = 0) : doN L c id = 0 ∧ doL L c id = L := by
  by_cases h0 : chk L c = 0
  · cases hb : badI L c id
    · exact absurd (do_ok hG h0 hb).1 h
    · exact (do_bad hG h0 hb).2
  · exact (do_no h0).2
theorem out_ins {t : Th} : ∀ L : List Th, outT t.id (insT t L) = outT t.id L
  | [] => by unfold insT outT; simp
  | a :: r => by
    unfold insT
    split
    · unfold outT; simp
    · have ih := out_ins (t := t) r
      unfold outT at ih ⊢
      simp only [List.filter_cons, ih]
theorem out_out (id : Int) (L : List Th) : outT id (outT id L) = outT id L := by
  unfold outT
  rw [List.filter_filter]
  congr 1
  funext a
  simp
theorem out_wit (t : Th) (L : List Th) : outT t.id (witT t L) = outT t.id L := by
  unfold witT
  rw [out_ins, out_out]
theorem new_out {L : List Th} {c : Cm} {id : Int} (h : chk L c = 0) : outT (whoI c id) (newL L c id) = outT (whoI c id) L := by
  obtain ⟨hc, hk⟩ := chk_kinds h
  unfold whoI newL
  rcases hk with hk | hk | hk | hk
  · simp only [hk, if_true]
    exact out_wit (putT c id) L
  · have n1 : ¬ (2 : Int) = 1 := by decide
    simp only [hk, n1, if_false, if_true]
    have m := (thOf_mem (chk_move0 h hk).2.1).2
    have := out_wit (movT (thOf L c.id) c) L
    rw [show (movT (thOf L c.id) c).id = c.id from m] at this
    exact this
  · have n1 : ¬ (3 : Int) = 1 := by decide
    have n2 : ¬ (3 : Int) = 2 := by decide
    simp only [hk, n1, n2, if_false, if_true]
    have m := (thOf_mem (chk_set0 h hk).2).2
    have := out_wit (setT (thOf L c.id) c.wh c.va) L
    rw [setT_id, m] at this
    exact this
  · have n1 : ¬ (4 : Int) = 1 := by decide
    have n2 : ¬ (4 : Int) = 2 := by decide
    have n3 : ¬ (4 : Int) = 3 := by decide
    simp only [hk, n1, n2, n3, if_false]
    exact out_out _ _
theorem wit_find {t : Th} {L : List Th} (h : Rise L) : hasT t.id (witT t L) = true ∧ findT t.id (witT t L) = some t := by
  have hm : t ∈ witT t L := wit_mem.2 (.inl rfl)
  exact ⟨has_iff.2 ⟨t, hm, rfl⟩, find_mem_th (wit_rise h) hm⟩
theorem out_find (id : Int) (L : List Th) : hasT id (outT id L) = false := by
  cases h : hasT id (outT id L)
  · rfl
  · obtain ⟨a, ha, e⟩ := has_iff.1 h
    exact absurd e (out_mem.1 ha).2
/-- what is found of the thing in question -/
theorem new_put {L : List Th} (hR : Rise L) {c : Cm} {id : Int} (hk : c.kd = 1) : hasT id (newL L c id) = true ∧ thOf (newL L c id) id = putT c id := by
  unfold newL thOf
  rw [if_pos hk]
  obtain ⟨h1, h2⟩ := wit_find (t := putT c id) hR
  exact ⟨h1, by rw [show findT id (witT (putT c id) L) = some (putT c id) from h2]; rfl⟩
theorem new_move {L : List Th} (hR : Rise L) {c : Cm} {id : Int} (hk : c.kd = 2) (hh : hasT c.id L = true) : hasT c.id (newL L c id) = true ∧ thOf (newL L c id) c.id = movT (thOf L c.id) c := by
  have m := (thOf_mem hh).2
  have e : newL L c id = witT (movT (thOf L c.id) c) L := by unfold newL; rw [if_neg (by omega), if_pos hk]
  rw [e]
  obtain ⟨h1, h2⟩ := wit_find (t := movT (thOf L c.id) c) hR
  rw [show (movT (thOf L c.id) c).id = c.id from m] at h1 h2
  exact ⟨h1, by unfold thOf at h2 ⊢; rw [h2]; rfl⟩
theorem new_set {L : List Th} (hR : Rise L) {c : Cm} {id : Int} (hk : c.kd = 3) (hh : hasT c.id L = true) : hasT c.id (newL L c id) = true ∧ thOf (newL L c id) c.id = setT (thOf L c.id) c.wh c.va := by
  have m := (thOf_mem hh).2
  have e : newL L c id = witT (setT (thOf L c.id) c.wh c.va) L := by unfold newL; rw [if_neg (by omega), if_neg (by omega), if_pos hk]
  rw [e]
  obtain ⟨h1, h2⟩ := wit_find (t := setT (thOf L c.id) c.wh c.va) hR
  rw [setT_id, m] at h1 h2
  exact ⟨h1, by unfold thOf at h2 ⊢; rw [h2]; rfl⟩
theorem new_drop {L : List Th} {c : Cm} {id : Int} (hk : c.kd = 4) : hasT c.id (newL L c id) = false := by
  have e : newL L c id = outT c.id L := by unfold newL; rw [if_neg (by omega), if_neg (by omega), if_neg (by omega)]
  rw [e]
  exact out_find _ _
theorem equal_fl10 (W : World) (a b : Fl) : (Op.equalIn 10000 34 a.v b.v).run Tryz.prog W = .ok (eqF a b) W := by
  obtain ⟨n, s⟩ := a
  obtain ⟨m, t⟩ := b
  by_cases h0 : n = m <;> by_cases h1 : s = t <;> simp [go_sem, h0, h1, toList_inj, eqF]
theorem equal_fs10 (W : World) (f0 f1 f2 f3 g0 g1 g2 g3 : Fl) : (Op.equalIn 10000 35 (.agg #[.int .i64 f0.n, .string f0.s, .int .i64 f1.n, .string f1.s, .int .i64 f2.n, .string f2.s, .int .i64 f3.n, .string f3.s]) (.agg #[.int .i64 g0.n, .string g0.s, .int .i64 g1.n, .string g1.s, .int .i64 g2.n, .string g2.s, .int .i64 g3.n, .string g3.s])).run Tryz.prog W = .ok (eqF f0 g0 && (eqF f1 g1 && (eqF f2 g2 && eqF f3 g3))) W := by
  obtain ⟨i, hi⟩ := Option.isSome_iff_exists.1 Tryz.info25s
  rw [run_equalIn_array W 9999 _ _ Tryz.underlying35 hi, Tryz.cellsE25]
  have e := equal_fl9
  unfold Fl.v at e
  simp only [List.range, List.range.loop, Op.eqItems, Sem.run_bind, Nat.zero_mul, Nat.one_mul, part25, Result.andThen_ok, show 2 * 2 = 4 from rfl, show 3 * 2 = 6 from rfl, e]
  cases h0 : eqF f0 g0 <;> cases h1 : eqF f1 g1 <;> cases h2 : eqF f2 g2 <;> cases h3 : eqF f3 g3 <;> simp only [h1, h2, h3, e, Sem.run_bind, Sem.run_pure, part25, Result.andThen_ok, reduceIte, Bool.not_false, Bool.not_true, Bool.false_eq_true, Bool.false_and, Bool.true_and]
end Go.Proofs.YtfoncphdbaaedaaGreatDoor
