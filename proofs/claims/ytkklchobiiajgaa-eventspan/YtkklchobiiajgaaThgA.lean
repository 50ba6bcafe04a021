/- Contracts of All of the package thing and of the reference's AllBytes: all things' bytes one behind the other, or what is wrong. -/
import Derived.Test.YtkklchobiiajgaaThgB
namespace Go.Proofs.Ytkklchobiiajgaa
open Go.RowKit
set_option linter.unusedVariables false
theorem okT_eq {L : List Th} {k : Nat} {t : Th} (h : L[k]? = some t) : okT L k = (isT t && risesB (L.take k) t) := by
  have hk : k < L.length := (List.getElem?_eq_some_iff.1 h).1
  have hl : (L.take k).length = k := by simp; omega
  unfold okT risesB
  rw [getD_of h, hl]
  by_cases h0 : k = 0
  · subst h0; simp
  · obtain ⟨m, rfl⟩ : ∃ m, k = m + 1 := ⟨k - 1, by omega⟩
    have e : (L.take (m + 1)).getD (m + 1 - 1) zT = L.getD (m + 1 - 1) zT := by
      simp [List.getD]
    rw [e]
theorem allT_large {L : List Th} (h : 200 < L.length) : allT L = ([], 13) := by unfold allT; rw [if_pos h]
theorem allT_no {L : List Th} {k : Nat} (hl : L.length ≤ 200) (hk : k < L.length) (h : okT L k = false) : allT L = ([], 11) := by
  unfold allT; rw [if_neg (by omega), good_no hk h]; rfl
theorem allT_yes {L : List Th} (hl : L.length ≤ 200) (h : ∀ k, k < L.length → okT L k = true) : allT L = (put L.length ++ L.flatMap thB, 0) := by
  unfold allT; rw [if_neg (by omega), good_yes h]; rfl
theorem take_flat {L : List Th} {k : Nat} {t : Th} (h : L[k]? = some t) : (L.take (k + 1)).flatMap thB = (L.take k).flatMap thB ++ thB t := by
  have hk : k < L.length := (List.getElem?_eq_some_iff.1 h).1
  rw [flat_succ thB L k hk, (List.getElem?_eq_some_iff.1 h).2]
theorem bytesT_no {t : Th} (h : isT t = false) : bytesT t = ([], 11) := by unfold bytesT; rw [h]; rfl
theorem bytesT_yes {t : Th} (h : isT t = true) : bytesT t = (thB t, 0) := by unfold bytesT; rw [h]; rfl
end Go.Proofs.Ytkklchobiiajgaa
