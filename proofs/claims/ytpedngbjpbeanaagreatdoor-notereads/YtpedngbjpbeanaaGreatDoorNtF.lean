/- Contracts of Same of the package note, of the reference's Same: alike in all parts. -/
import Derived.Test.YtpedngbjpbeanaaGreatDoorNtE
namespace Go.Proofs.YtpedngbjpbeanaaGreatDoor
open Go.RowKit
set_option linter.unusedVariables false
set_option maxRecDepth 100000
theorem pick (P : Prop) : ∃ q : Bool, Hid (q = true ↔ P) := by classical exact ⟨decide P, by show decide P = true ↔ P; simp⟩
theorem six_eq {n m : Nt} {q q2 q3 q4 q5 : Bool} (h : q = true ↔ n = m) (h2 : q2 = true ↔ n.mo = m.mo) (h3 : q3 = true ↔ n.ha = m.ha) (h4 : q4 = true ↔ n.gi = m.gi) (h5 : q5 = true ↔ n.wa = m.wa) : q = ((n.fr == m.fr) && ((n.be == m.be) && (q2 && (q3 && (q4 && q5))))) := by
  rw [Bool.eq_iff_iff, h]
  simp only [Bool.and_eq_true, beq_iff_eq, h2, h3, h4, h5]
  obtain ⟨a, b, c, d, e, f⟩ := n
  obtain ⟨a', b', c', d', e', f'⟩ := m
  simp
set_option maxHeartbeats 2000000 in
theorem note_same {w : World} {n m : Nt} {s r : Ns} {q : Bool} (h : Hid (q = true ↔ n = m)) (hr : RowN w s n) (hr' : RowN w r m) (hl : LenN n) (hl' : LenN m) :
    Calls Tryz.prog 10 #[n.v s, m.v r] w fun e w' => e = .returned (.bool q) ∧ Below w.heap.size w w' := by
  obtain ⟨W, hW⟩ : ∃ W, W = (w.alloc (n.o s)).alloc (m.o r) := ⟨_, rfl⟩
  have hB : Below w.heap.size w W := by rw [hW]; exact Go.Joins.below_alloc2 _ _ _
  have hA := hid (show W.heap[w.heap.size]? = some (n.o s) by rw [hW]; exact old_at (new_at _ _ _ rfl) _)
  have hD := hid (show W.heap[w.heap.size + 1]? = some (m.o r) by rw [hW]; exact new_at _ _ _ (by simp))
  obtain ⟨q2, h2⟩ := pick (n.mo = m.mo)
  obtain ⟨q3, h3⟩ := pick (n.ha = m.ha)
  obtain ⟨q4, h4⟩ := pick (n.gi = m.gi)
  obtain ⟨q5, h5⟩ := pick (n.wa = m.wa)
  have e := six_eq h.out h2.out h3.out h4.out h5.out
  obtain ⟨r0, e0⟩ : ∃ r0, (n.fr == m.fr) = r0 := ⟨_, rfl⟩
  obtain ⟨r1, e1⟩ : ∃ r1, (n.be == m.be) = r1 := ⟨_, rfl⟩
  rw [e0, e1] at e
  subst e
  clear h
  have C2 := hid (fun (w' : World) (hb : Below w.heap.size w w') => th_equal (cap := s.cm) (cap' := r.cm) h2 (hr.later hb).mo (hr'.later hb).mo (hid rfl) (hid rfl) hl.mo hl'.mo)
  have C3 := hid (fun (w' : World) (hb : Below w.heap.size w w') => hd_equal (cap := s.ch) (cap' := r.ch) h3 (hr.later hb).ha (hr'.later hb).ha (hid rfl) (hid rfl) hl.ha hl'.ha)
  have C4 := hid (fun (w' : World) (hb : Below w.heap.size w w') => th_equal (cap := s.cg) (cap' := r.cg) h4 (hr.later hb).gi (hr'.later hb).gi (hid rfl) (hid rfl) hl.gi hl'.gi)
  have C5 := hid (fun (w' : World) (hb : Below w.heap.size w w') => cm_equal (cap := s.cw) (cap' := r.cw) h5 (hr.later hb).wa (hr'.later hb).wa (hid rfl) (hid rfl) hl.wa hl'.wa)
  clear hr hr' hl hl' h2 h3 h4 h5
  go_enter Tryz.func10, Tryz.ntmps10
  go_upto_region 1 with fail
  rw [← hW]
  clear hW
  have cA := (cells_at hA.out).1
  have lA := at_lt hA.out
  have cD := (cells_at hD.out).1
  have lD := at_lt hD.out
  cases r0
  · go_wp2_with fail
    go_ret
    exact ⟨by simp, hB⟩
  cases r1
  · go_wp2_with fail
    go_ret
    exact ⟨by simp, hB⟩
  go_wp2_with fail
  refine (C2.out _ hB).mono ?_
  rintro x W1 ⟨rfl, hb⟩
  have hB1 := hid (below_on hB hb)
  have hA1 := hid (var_on hb hA.out lA)
  have hD1 := hid (var_on hb hD.out lD)
  clear hb hB hA hD cA cD lA lD C2
  have cA := (cells_at hA1.out).1
  have lA := at_lt hA1.out
  have cD := (cells_at hD1.out).1
  have lD := at_lt hD1.out
  cases q2
  · go_wp2_with fail
    go_ret
    exact ⟨by simp, hB1.out⟩
  go_wp2_with fail
  refine (C3.out _ hB1.out).mono ?_
  rintro x W2 ⟨rfl, hb⟩
  have hB2 := hid (below_on hB1.out hb)
  have hA2 := hid (var_on hb hA1.out lA)
  have hD2 := hid (var_on hb hD1.out lD)
  clear hb hB1 hA1 hD1 cA cD lA lD C3
  have cA := (cells_at hA2.out).1
  have lA := at_lt hA2.out
  have cD := (cells_at hD2.out).1
  have lD := at_lt hD2.out
  cases q3
  · go_wp2_with fail
    go_ret
    exact ⟨by simp, hB2.out⟩
  go_wp2_with fail
  refine (C4.out _ hB2.out).mono ?_
  rintro x W3 ⟨rfl, hb⟩
  have hB3 := hid (below_on hB2.out hb)
  have hA3 := hid (var_on hb hA2.out lA)
  have hD3 := hid (var_on hb hD2.out lD)
  clear hb hB2 hA2 hD2 cA cD lA lD C4
  have cA := (cells_at hA3.out).1
  have lA := at_lt hA3.out
  have cD := (cells_at hD3.out).1
  have lD := at_lt hD3.out
  cases q4
  · go_wp2_with fail
    go_ret
    exact ⟨by simp, hB3.out⟩
  go_wp2_with fail
  refine (C5.out _ hB3.out).mono ?_
  rintro x W4 ⟨rfl, hb⟩
  have hB4 := hid (below_on hB3.out hb)
  clear hb hB3 hA3 hD3 cA cD lA lD C5
  cases q5 <;>
  · go_wp2_with fail
    go_ret
    exact ⟨by simp, hB4.out⟩
end Go.Proofs.YtpedngbjpbeanaaGreatDoor
