/- Two worlds in memory beside one another and beside other blocks: what is done to one leaves the other as it was. No conditions beyond those typed. -/
import Derived.Test.YtfoncphdbaaedaaGreatDoorWd4
namespace Go.Proofs.YtfoncphdbaaedaaGreatDoor
open Go.RowKit Go.Maps
set_option linter.unusedVariables false
theorem owns_kept {base : Nat} {e : TypeId} {size : Nat} {v : Value} {n : Nat} {xs : List Value} {W W' : World} {Y : List Nat} (h : W.ownsRow base e size v n xs) (hK : Kept Y W W') (hx : ∀ k, k ∈ ob v → k ∈ Y) : W'.ownsRow base e size v n xs := by
  refine ⟨h.1, ?_⟩
  rcases h.2 with hn | ⟨g, cap, cur, rfl, hb, hgg, rest⟩
  · exact .inl hn
  · refine .inr ⟨g, cap, cur, rfl, hb, ?_, rest⟩
    rw [hK g (hx g (mem_ob.2 rfl))]
    exact hgg
theorem TS.kept {W W' : World} {base tb : Nat} {v : Value} {L : List Mk} {Y : List Nat} (h : TS W base tb v L) (hK : Kept Y W W') (hx : ∀ k, k ∈ tb :: ob v → k ∈ Y) : TS W' base tb v L := by
  obtain ⟨S, h1, h2⟩ := h
  exact ⟨S, ⟨hK.at (hx tb List.mem_cons_self) h1.at_, owns_kept h1.own hK (fun k hk => hx k (List.mem_cons_of_mem _ hk)), h1.ne, h1.lo⟩, h2⟩
theorem OM.kept {W W' : World} {b : Nat} {L : List Th} {Y : List Nat} (h : OM W b L) (hK : Kept Y W W') (hx : b ∈ Y) : OM W' b L := by
  obtain ⟨es, clock, hb, r⟩ := h
  exact ⟨es, clock, (hK b hx).trans hb, r⟩
theorem TB.kept {W0 W W' : World} {tb : Nat} {L : List Th} {Y : List Nat} (h : TB W0 W tb L Y) (hK : Kept Y W W') (hb : Below W0.heap.size W0 W') : TB W0 W' tb L Y := by
  obtain ⟨bm, qb, v, h1, rfl⟩ := h
  exact ⟨bm, qb, v, ⟨⟨_, hK.at (by simp) h1.at_⟩, h1.map.kept hK (by simp), h1.tree.kept hK (fun k hk => List.mem_cons_of_mem _ (List.mem_cons_of_mem _ hk)), h1.good, h1.lo, h1.lom, h1.ne1, h1.ne2, hb, h1.masks⟩, rfl⟩
structure T2 (W0 W : World) (ub cb : Nat) (L C : List Th) (K : List Nat) : Prop where
  has : ∃ X Y, TB W0 W ub L X ∧ TB W0 W cb C Y ∧ (∀ k, k ∈ X → k ∉ Y) ∧ ∀ k, k ∈ K → k < W.heap.size ∧ k ∉ X ∧ k ∉ Y
theorem T2.fst {W0 W : World} {ub cb : Nat} {L C : List Th} {K : List Nat} (h : T2 W0 W ub cb L C K) : TK W0 W ub L K := by
  obtain ⟨X, Y, h1, h2, h3, h4⟩ := h.has
  exact ⟨X, h1, fun k hk => ⟨(h4 k hk).1, (h4 k hk).2.1⟩⟩
theorem T2.swap {W0 W : World} {ub cb : Nat} {L C : List Th} {K : List Nat} (h : T2 W0 W ub cb L C K) : T2 W0 W cb ub C L K := by
  obtain ⟨X, Y, h1, h2, h3, h4⟩ := h.has
  exact ⟨Y, X, h2, h1, fun k hk hx => h3 k hx hk, fun k hk => ⟨(h4 k hk).1, (h4 k hk).2.2, (h4 k hk).2.1⟩⟩
theorem T2.snd {W0 W : World} {ub cb : Nat} {L C : List Th} {K : List Nat} (h : T2 W0 W ub cb L C K) : TK W0 W cb C K := h.swap.fst
theorem T2.below {W0 W : World} {ub cb : Nat} {L C : List Th} {K : List Nat} (h : T2 W0 W ub cb L C K) : Below W0.heap.size W0 W := h.fst.below
theorem T2.later {W0 W W' : World} {ub cb : Nat} {L C : List Th} {K : List Nat} (h : T2 W0 W ub cb L C K) (hb : Below W.heap.size W W') : T2 W0 W' ub cb L C K := by
  obtain ⟨X, Y, h1, h2, h3, h4⟩ := h.has
  exact ⟨X, Y, h1.later hb, h2.later hb, h3, fun k hk => ⟨Nat.lt_of_lt_of_le (h4 k hk).1 hb.size, (h4 k hk).2⟩⟩
/-- blocks that lie below the worlds, or were made behind them -/
theorem T2.alsos {W0 W W' : World} {ub cb : Nat} {L C : List Th} {K R : List Nat} (h : T2 W0 W ub cb L C K) (hb : Below W.heap.size W W') (hR : ∀ k, k ∈ R → k ∈ K ∨ (W.heap.size ≤ k ∧ k < W'.heap.size)) : T2 W0 W' ub cb L C R := by
  obtain ⟨X, Y, h1, h2, h3, h4⟩ := h.has
  refine ⟨X, Y, h1.later hb, h2.later hb, h3, fun k hk => ?_⟩
  rcases hR k hk with hk | hk
  · exact ⟨Nat.lt_of_lt_of_le (h4 k hk).1 hb.size, (h4 k hk).2⟩
  · exact ⟨hk.2, fun hm => by have := (h1.lt k hm).2; omega, fun hm => by have := (h2.lt k hm).2; omega⟩
theorem t2_do {W0 w : World} {ub cb : Nat} {L C : List Th} {K : List Nat} (h : T2 W0 w ub cb L C K) {c : Cm} (hc : inC c) {id : Int} (hi : inI id) {n x : Int} {L' : List Th} (hn : Hid (wdN L c id = n)) (hx : Hid (wdE L c id = x)) (hL : Hid (wdL L c id = L')) :
    Calls Tryz.prog 11 #[.pointer (some ⟨ub, 0, none⟩), c.v, .int .i64 id] w fun e w' => e = .returned (.tuple #[.int .i64 n, .int .i64 x]) ∧ T2 W0 w' ub cb L' C K ∧ Kept K w w' := by
  obtain ⟨X, Y, h1, h2, h3, h4⟩ := h.has
  have T : TK W0 w ub L (Y ++ K) := ⟨X, h1, fun k hk => by
    rcases List.mem_append.1 hk with hk | hk
    · exact ⟨(h2.lt k hk).2, fun hm => h3 k hm hk⟩
    · exact ⟨(h4 k hk).1, (h4 k hk).2.1⟩⟩
  refine (wd_do T hc hi hn hx hL).mono ?_
  rintro e w' ⟨rfl, hT, hK⟩
  obtain ⟨X', k1, k2⟩ := hT.has
  refine ⟨rfl, ⟨X', Y, k1, h2.kept (hK.mono (fun k hk => List.mem_append_left _ hk)) k1.below, fun k hk hy => (k2 k (List.mem_append_left _ hy)).2 hk, fun k hk => ⟨(k2 k (List.mem_append_right _ hk)).1, (k2 k (List.mem_append_right _ hk)).2, (h4 k hk).2.2⟩⟩, hK.mono (fun k hk => List.mem_append_right _ hk)⟩
theorem t2_copy {W0 w : World} {wb : Nat} {L : List Th} {K : List Nat} (h : TK W0 w wb L K) (hM : Masks W0) :
    Calls Tryz.prog 10 #[.pointer (some ⟨wb, 0, none⟩)] w fun e w' => ∃ cb, e = .returned (.pointer (some ⟨cb, 0, none⟩)) ∧ T2 W0 w' wb cb L L K ∧ Below w.heap.size w w' := by
  obtain ⟨X, h1, h2⟩ := h.has
  refine (wd_copy h).mono ?_
  rintro e w' ⟨cb, rfl, hT⟩
  obtain ⟨Y, k1, k2⟩ := hT.has
  have hb := k1.below
  refine ⟨cb, rfl, ⟨X, Y, h1.later hb, k1.base h1.below hM, fun k hk hy => ?_, fun k hk => ⟨Nat.lt_of_lt_of_le (h2 k hk).1 hb.size, (h2 k hk).2, fun hy => ?_⟩⟩, hb⟩
  · have := (h1.lt k hk).2
    have := (k1.lt k hy).1
    omega
  · have := (h2 k hk).1
    have := (k1.lt k hy).1
    omega
end Go.Proofs.YtfoncphdbaaedaaGreatDoor
