/- Plain facts on one thing whose fields are set, and on a block beside a table that turns. -/
import Derived.Test.YthmnbphpjmfckaaGreatDoorAcC
import Derived.Test.YthmnbphpjmfckaaGreatDoorAcD
import Derived.Test.YthmnbphpjmfckaaGreatDoorAcT
namespace Go.Proofs.YthmnbphpjmfckaaGreatDoor
open Go.RowKit
set_option linter.unusedVariables false
theorem TK.off {W0 w w' : World} {tb : Nat} {L : List Th} {K : List Nat} (h : TK W0 w tb L K) {g : Nat} (ho : Off [g] w w') (hg : g ∈ K) (hl : W0.heap.size ≤ g) : TK W0 w' tb L K := by
  obtain ⟨X, h1, h2⟩ := h.has
  exact ⟨X, h1.off ho (fun k hk hm => by simp at hm; subst hm; exact (h2 k hg).2 hk) (fun k hk => by simp at hk; subst hk; exact hl), fun k hk => ⟨Nat.lt_of_lt_of_le (h2 k hk).1 ho.size, (h2 k hk).2⟩⟩
theorem off_set1 (W : World) (g i : Nat) (u : Value) : Off [g] W (W.setCell ⟨g, i, none⟩ u) :=
  ⟨rfl, rfl, rfl, by simp, fun k hk hx => by rw [Below.heap_setCell _ _ _ _ (by simpa using hx)]⟩
abbrev t4 (a b c d : Int) : Th := ⟨5, 0, 0, ⟨a, ⟨#[]⟩⟩, ⟨b, ⟨#[]⟩⟩, ⟨c, ⟨#[]⟩⟩, ⟨d, ⟨#[]⟩⟩⟩
abbrev w4 (a b c d : Int) : Obj := .cells #[.int .i64 a, .string ⟨#[]⟩, .int .i64 b, .string ⟨#[]⟩, .int .i64 c, .string ⟨#[]⟩, .int .i64 d, .string ⟨#[]⟩] 27 (0, 0)
theorem set_one {t : Th} (h5 : t.id = 5) (hG : Good [t]) {k v : Int} (h1 : 0 ≤ k) (h2 : k < 4) : doE [t] (cmSet 5 k v) 0 = 0 ∧ doL [t] (cmSet 5 k v) 0 = [setT t k ⟨v, ⟨#[]⟩⟩] := by
  have hh : hasT 5 [t] = true := has_iff.2 ⟨t, List.mem_singleton.2 rfl, h5⟩
  have hk : chk [t] (cmSet 5 k v) = 0 := by
    rw [chk_set (is_setC (by decide) (by decide) (by omega) (by omega)) rfl, if_neg (by rw [show (cmSet 5 k v).id = 5 from rfl, hh]; simp), if_neg]
    show ¬ (k < 0 ∨ 4 ≤ k)
    omega
  obtain ⟨d1, -, d3⟩ := do_ok (id := 0) hG hk (badI_not (show ¬ (3 : Int) = 1 by decide))
  refine ⟨d1, d3.trans ?_⟩
  have ht : thOf [t] 5 = t := by have := thOf_is hG.rise (List.mem_singleton.2 (rfl : t = t)); rw [h5] at this; exact this
  unfold newL
  rw [if_neg (show ¬ (3 : Int) = 1 by decide), if_neg (show ¬ (3 : Int) = 2 by decide), if_pos rfl]
  show witT (setT (thOf [t] 5) k ⟨v, ⟨#[]⟩⟩) [t] = _
  rw [ht]
  unfold witT outT
  rw [setT_id]
  simp [insT]
theorem set_out {t : Th} (h5 : t.id = 5) {k v : Int} (h1 : -1 ≤ k) (h2 : k ≤ 4) (h3 : k < 0 ∨ 4 ≤ k) : doE [t] (cmSet 5 k v) 0 = 18 ∧ doL [t] (cmSet 5 k v) 0 = [t] := by
  have hh : hasT 5 [t] = true := has_iff.2 ⟨t, List.mem_singleton.2 rfl, h5⟩
  have hk : chk [t] (cmSet 5 k v) = 18 := by
    rw [chk_set (is_setC (by decide) (by decide) (by omega) (by omega)) rfl, if_neg (by rw [show (cmSet 5 k v).id = 5 from rfl, hh]; simp), if_pos]
    exact h3
  obtain ⟨d1, -, d3⟩ := do_no (id := 0) (show ¬ chk [t] (cmSet 5 k v) = 0 by rw [hk]; decide)
  exact ⟨d1.trans hk, d3⟩
theorem set_first : doE [] (cmPut 0 0) 5 = 0 ∧ doL [] (cmPut 0 0) 5 = [t4 0 0 0 0] := by
  have hc : isCm (cmPut 0 0) = true := is_putC (by decide) (by decide) (by decide) (by decide)
  have ho : onB 0 0 = true := by rw [onB_iff]; decide
  have hk : chk [] (cmPut 0 0) = 0 := by
    rw [chk_put hc rfl, if_neg (by rw [show onB (cmPut 0 0).x (cmPut 0 0).y = onB 0 0 from rfl, ho]; simp), if_neg (by simp), if_neg]
    rw [crowd_eq]
    have : cN [] (cmPut 0 0).x (cmPut 0 0).y = 0 := by unfold cN inCell inT_r; rfl
    rw [this]; simp
  have hb : badI [] (cmPut 0 0) 5 = false := by unfold badI hasT; simp
  obtain ⟨d1, -, d3⟩ := do_ok .nil hk hb
  exact ⟨d1, d3.trans put_newL⟩
theorem setT_0 (a b c d v : Int) : setT (t4 a b c d) 0 ⟨v, ⟨#[]⟩⟩ = t4 v b c d := rfl
theorem setT_1 (a b c d v : Int) : setT (t4 a b c d) 1 ⟨v, ⟨#[]⟩⟩ = t4 a v c d := rfl
theorem setT_2 (a b c d v : Int) : setT (t4 a b c d) 2 ⟨v, ⟨#[]⟩⟩ = t4 a b v d := rfl
theorem setT_3 (a b c d v : Int) : setT (t4 a b c d) 3 ⟨v, ⟨#[]⟩⟩ = t4 a b c v := rfl
theorem i16_in {a : Int} (h : (Lit.int .i16 a).wf = true) : -32768 ≤ a ∧ a ≤ 32767 := by
  simp [Lit.wf, IntKind.min, IntKind.max, IntKind.signed, IntKind.bits] at h
  omega
end Go.Proofs.YthmnbphpjmfckaaGreatDoor
