/- Contracts of the document's tree over this translation: at, At, Move, Drop. Each returns what the plain functions say; nothing else that was there is changed. -/
import Derived.Test.YtildhbkcpehobaaGreatDoorQdT
namespace Go.Proofs.YtildhbkcpehobaaGreatDoor
open Go.RowKit
set_option linter.unusedVariables false
/-- the document's tree behind a pointer -/
theorem Tr.off {W W' : World} {base tb : Nat} {v : Value} {S : List Sp} {X : List Nat} (h : Tr W base tb v S) (ho : Off X W W') (hx : ∀ k, k ∈ tb :: ob v → k ∉ X) : Tr W' base tb v S :=
  ⟨at_off h.at_ ho (hx _ List.mem_cons_self), owns_off h.own ho (fun k hk => hx k (List.mem_cons_of_mem _ hk)), h.ne, h.lo⟩
/-- what a change of the document's tree leaves -/
def rfI (id : Int) (S : List Mk) : Int := match S.findIdx? (fun s => s.id == id) with | some i => (i : Int) | none => -1
theorem rfI_hit {id : Int} {S : List Mk} {k : Nat} {s : Mk} (hk : S[k]? = some s) (hs : s.id = id) (hl : ∀ j a, j < k → S[j]? = some a → ¬ a.id = id) : rfI id S = k := by
  have hkl : k < S.length := (List.getElem?_eq_some_iff.1 hk).1
  have e : S[k] = s := (List.getElem?_eq_some_iff.1 hk).2
  have : S.findIdx? (fun s => s.id == id) = some k := by
    rw [List.findIdx?_eq_some_iff_getElem]
    refine ⟨hkl, by rw [e]; simpa using hs, fun j hj => ?_⟩
    have := hl j S[j] hj (List.getElem?_eq_getElem (by omega))
    simpa using this
  unfold rfI
  rw [this]
theorem rfI_miss {id : Int} {S : List Mk} (hl : ∀ j a, j < S.length → S[j]? = some a → ¬ a.id = id) : rfI id S = -1 := by
  have : S.findIdx? (fun s => s.id == id) = none := by
    rw [List.findIdx?_eq_none_iff]
    intro a ha
    obtain ⟨j, hj, rfl⟩ := List.getElem_of_mem ha
    simpa using hl j S[j] hj (List.getElem?_eq_getElem hj)
  unfold rfI
  rw [this]
theorem rfI_lt {id : Int} {S : List Mk} (h : 0 ≤ rfI id S) : (rfI id S).toNat < S.length := by
  unfold rfI at h ⊢
  cases hf : S.findIdx? (fun s => s.id == id) with
  | none => rw [hf] at h; simp at h
  | some i =>
    simp only [Int.toNat_natCast]
    exact (List.findIdx?_eq_some_iff_getElem.1 hf).1
def ratX (id : Int) (S : List Mk) : Int := if rfI id S < 0 then 0 else (S[(rfI id S).toNat]?.map Mk.x).getD 0
def ratY (id : Int) (S : List Mk) : Int := if rfI id S < 0 then 0 else (S[(rfI id S).toNat]?.map Mk.y).getD 0
def ratB (id : Int) (S : List Mk) : Bool := decide (0 ≤ rfI id S)
end Go.Proofs.YtildhbkcpehobaaGreatDoor
