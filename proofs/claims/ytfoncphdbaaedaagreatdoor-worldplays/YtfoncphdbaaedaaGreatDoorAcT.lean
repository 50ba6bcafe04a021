/- A table beside rows that were told of it: what is done with it leaves them as they were; rows that are the same. No conditions beyond those typed. -/
import Derived.Test.YtfoncphdbaaedaaGreatDoorTbR
import Derived.Test.YtfoncphdbaaedaaGreatDoorAcQ
namespace Go.Proofs.YtfoncphdbaaedaaGreatDoor
open Go.RowKit Go.Maps
set_option linter.unusedVariables false
theorem TK.alsos {W0 W W' : World} {tb : Nat} {L : List Th} {K : List Nat} (h : TK W0 W tb L K) (hb : Below W.heap.size W W') {R : List Nat} (hR : ∀ k, k ∈ R → W.heap.size ≤ k ∧ k < W'.heap.size) : TK W0 W' tb L (R ++ K) := by
  obtain ⟨X, h3, h4⟩ := h.has
  refine ⟨X, h3.later hb, fun k hk => ?_⟩
  rcases List.mem_append.1 hk with hk | hk
  · exact ⟨(hR k hk).2, fun hm => by have := (h3.lt k hm).2; have := (hR k hk).1; omega⟩
  · exact ⟨Nat.lt_of_lt_of_le (h4 k hk).1 hb.size, (h4 k hk).2⟩
theorem RowT.kept {W W' : World} {p : Option Addr} {L : List Th} {K : List Nat} (h : RowT W p L) (hK : Kept K W W') (hp : ∀ k, k ∈ rowB p → k ∈ K) : RowT W' p L := by
  rcases h with h | ⟨b, off, rfl, hc⟩
  · exact .inl h
  · refine .inr ⟨b, off, rfl, fun k t hk => ?_⟩
    have hb := hp b (by simp [rowB])
    obtain ⟨h0, h1, h2, h3, h4, h5, h6, h7, h8, h9, h10⟩ := hc k t hk
    have f := fun {i : Nat} {u : Value} (h : W.cell? ⟨b, i, none⟩ = some u) => hK.cell hb h
    exact ⟨f h0, f h1, f h2, f h3, f h4, f h5, f h6, f h7, f h8, f h9, f h10⟩
theorem tk_all2 {W0 w : World} {tb : Nat} {L : List Th} {K : List Nat} (h : TK W0 w tb L K) {n : Nat} (hn : Hid (L.length = n)) :
    Calls Tryz.prog 25 #[.pointer (some ⟨tb, 0, none⟩)] w fun e w' => ∃ p cap, e = .returned (.slice p n cap) ∧ RowT w' p L ∧ TK W0 w' tb L (rowB p ++ K) ∧ Below w.heap.size w w' := by
  obtain ⟨X, h1, h2⟩ := h.has
  rw [← hn.out]
  refine (tb_all h1).mono ?_
  rintro e w' ⟨p, cap, rfl, ho, hb⟩
  exact ⟨p, cap, rfl, rowT_own ho rfl, h.alsos hb (rowB_own ho), hb⟩
theorem same_rows {w : World} {p p' : Option Addr} {cap cap' : Nat} {L : List Th} {n : Nat} (hr : RowT w p L) (hr' : RowT w p' L) (hn : Hid (L.length = n)) (hl : n ≤ 999) :
    Calls Tryz.prog 13 #[.slice p n cap, .slice p' n cap'] w fun e w' => e = .returned (.bool true) ∧ Below w.heap.size w w' := by
  have h := ref_sameAll w p p' cap cap' L L hr hr' (by rw [hn.out]; unfold maxLen; omega) (by rw [hn.out]; unfold maxLen; omega)
  rw [sameL_self, hn.out] at h
  exact h
end Go.Proofs.YtfoncphdbaaedaaGreatDoor
