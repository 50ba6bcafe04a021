/- Plain facts on rows of commands: what the world holds behind each is a row of things that there may be, at most one for each command. Of no program. -/
import Derived.Test.YtfoncphdbaaedaaGreatDoorWdA
import Derived.Test.YtfoncphdbaaedaaGreatDoorWd5
namespace Go.Proofs.YtfoncphdbaaedaaGreatDoor
open Go.RowKit
set_option linter.unusedVariables false
theorem zC_in : inC zC := ⟨⟨by decide, by decide, by decide⟩, ⟨by decide, by decide, by decide⟩, ⟨by decide, by decide, by decide⟩, ⟨by decide, by decide, by decide⟩, ⟨by decide, by decide, by decide⟩⟩
theorem getD_in {cs : List Cm} (h : ∀ c ∈ cs, inC c) (k : Nat) : inC (cs.getD k zC) := by
  rw [List.getD_eq_getElem?_getD]
  cases hx : cs[k]? with
  | none => exact zC_in
  | some c => exact h c (List.mem_of_getElem? hx)
theorem st_good {cs : List Cm} (h : ∀ c ∈ cs, inC c) (ids : List Int) {L : List Th} (hG : Good L) : ∀ k, Good (stW cs ids L k)
  | 0 => hG
  | k + 1 => wd_good (st_good h ids hG k) (getD_in h k) _
theorem st_len {cs : List Cm} (h : ∀ c ∈ cs, inC c) (ids : List Int) {L : List Th} (hG : Good L) : ∀ k, (stW cs ids L k).length ≤ L.length + k
  | 0 => Nat.le_refl _
  | k + 1 => by
    have h1 := wdL_len (st_good h ids hG k) (cs.getD k zC) (ids.getD k 0)
    have h2 := st_len h ids hG k
    show (wdL _ _ _).length ≤ _
    omega
theorem inI_wf {x : Int} (h : (Lit.int .i64 x).wf = true) : inI x := i64_bounds h
end Go.Proofs.YtfoncphdbaaedaaGreatDoor
