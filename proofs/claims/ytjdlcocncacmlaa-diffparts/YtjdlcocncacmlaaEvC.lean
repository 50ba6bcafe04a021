/- Contracts of the small functions of the package event: isNot, and who isn't one in a row; a number of at most so much; the kind; what stands behind it; what is told of one. -/
import Derived.Test.YtjdlcocncacmlaaEvA
import Derived.Test.YtjdlcocncacmlaaHA
namespace Go.Proofs.Ytjdlcocncacmlaa
open Go.RowKit
set_option linter.unusedVariables false
theorem all_no {L : List Ev} {k : Nat} {e : Ev} (h : L[k]? = some e) (hf : isE e = false) : L.all isE = false := by
  rw [List.all_eq_false]
  exact ⟨e, List.mem_of_getElem? h, by simp [hf]⟩
theorem all_yes {L : List Ev} {n : Nat} (hn : L.length = n) (h : ∀ j e, j < n → L[j]? = some e → isE e = true) : L.all isE = true := by
  rw [List.all_eq_true]
  intro e he
  obtain ⟨j, hj, rfl⟩ := List.getElem_of_mem he
  exact h j _ (by omega) (by simp [hj])
theorem all_step {L : List Ev} {k : Nat} {t : Ev} (h : ∀ j e, j < k → L[j]? = some e → isE e = true) (ht : L[k]? = some t) (hq : isE t = true) : ∀ j e, j < k + 1 → L[j]? = some e → isE e = true := fun j u hj hu => by
  by_cases e : j = k
  · subst e
    have := Option.some.inj (ht.symm.trans hu)
    subst this
    exact hq
  · exact h j u (by omega) hu
end Go.Proofs.Ytjdlcocncacmlaa
