/- A table beside other blocks, over this translation: what is done with it leaves them as they were; and the statements' known examples. No conditions beyond those typed. -/
import Derived.Test.YtildhbkcpehobaaGreatDoorTbW
namespace Go.Proofs.YtildhbkcpehobaaGreatDoor
open Go.RowKit Go.Maps
set_option linter.unusedVariables false
/-- a table made behind W0; the blocks K are none of its own -/
structure TK (W0 W : World) (tb : Nat) (L : List Th) (K : List Nat) : Prop where
  has : ∃ X, TB W0 W tb L X ∧ ∀ k, k ∈ K → k < W.heap.size ∧ k ∉ X
theorem TK.good {W0 W : World} {tb : Nat} {L : List Th} {K : List Nat} (h : TK W0 W tb L K) : Good L := by
  obtain ⟨X, h1, _⟩ := h.has
  exact h1.good
theorem TK.below {W0 W : World} {tb : Nat} {L : List Th} {K : List Nat} (h : TK W0 W tb L K) : Below W0.heap.size W0 W := by
  obtain ⟨X, h1, _⟩ := h.has
  exact h1.below
theorem TK.mask {W0 W : World} {tb : Nat} {L : List Th} {K : List Nat} (h : TK W0 W tb L K) : Masks W := by
  obtain ⟨X, h1, _⟩ := h.has
  exact h1.mask
theorem TK.later {W0 W W' : World} {tb : Nat} {L : List Th} {K : List Nat} (h : TK W0 W tb L K) (hb : Below W.heap.size W W') : TK W0 W' tb L K := by
  obtain ⟨X, h1, h2⟩ := h.has
  exact ⟨X, h1.later hb, fun k hk => ⟨Nat.lt_of_lt_of_le (h2 k hk).1 hb.size, (h2 k hk).2⟩⟩
theorem TK.also {W0 W W' : World} {tb : Nat} {L : List Th} {K : List Nat} (h : TK W0 W tb L K) (hb : Below W.heap.size W W') {g : Nat} (h1 : W.heap.size ≤ g) (h2 : g < W'.heap.size) : TK W0 W' tb L (g :: K) := by
  obtain ⟨X, h3, h4⟩ := h.has
  refine ⟨X, h3.later hb, fun k hk => ?_⟩
  rcases List.mem_cons.1 hk with rfl | hk
  · exact ⟨h2, fun hm => by have := (h3.lt k hm).2; omega⟩
  · exact ⟨Nat.lt_of_lt_of_le (h4 k hk).1 hb.size, (h4 k hk).2⟩
theorem TK.less {W0 W : World} {tb : Nat} {L : List Th} {K : List Nat} (h : TK W0 W tb L K) : TK W0 W tb L [] := by
  obtain ⟨X, h1, h2⟩ := h.has
  exact ⟨X, h1, fun k hk => by cases hk⟩
theorem TK.turned {W0 w w' : World} {tb : Nat} {L L' : List Th} {K X : List Nat} (h1 : TB W0 w tb L X) (h2 : ∀ k, k ∈ K → k < w.heap.size ∧ k ∉ X) (ht : TBT W0 w tb L' X w') : TK W0 w' tb L' K ∧ Kept K w w' := by
  obtain ⟨X', k1, k2, k3⟩ := ht
  refine ⟨⟨X', k1, fun k hk => ⟨Nat.lt_of_lt_of_le (h2 k hk).1 k2.size, fun hm => ?_⟩⟩, fun k hk => k2.block k (h2 k hk).1 (h2 k hk).2⟩
  rcases k3 k hm with h | h
  · exact (h2 k hk).2 h
  · have := (h2 k hk).1; omega
theorem Kept.at {K : List Nat} {w w' : World} (h : Kept K w w') {g : Nat} {o : Obj} (hg : g ∈ K) (ho : w.heap[g]? = some o) : w'.heap[g]? = some o := by rw [h g hg]; exact ho
theorem Kept.cell {K : List Nat} {w w' : World} (h : Kept K w w') {g i : Nat} {u : Value} (hg : g ∈ K) (ho : w.cell? ⟨g, i, none⟩ = some u) : w'.cell? ⟨g, i, none⟩ = some u := by
  rw [World.cell?_of_block (h g hg)]; exact ho
theorem tk_new {w : World} (hM : Masks w) : Calls Tryz.prog 5 #[] w fun e w' => ∃ tb, e = .returned (.pointer (some ⟨tb, 0, none⟩)) ∧ TK w w' tb [] [] := by
  refine (tb_new hM).mono ?_
  rintro e w' ⟨tb, X, rfl, hT⟩
  exact ⟨tb, rfl, X, hT, fun k hk => by cases hk⟩
theorem tk_put {W0 w : World} {tb : Nat} {L : List Th} {K : List Nat} (h : TK W0 w tb L K) {t : Th} (hf : inT t) {x : Int} {L' : List Th} (he : Hid (tpE t L = x)) (hL : Hid (tpL t L = L')) :
    Calls Tryz.prog 9 #[.pointer (some ⟨tb, 0, none⟩), t.v] w fun e w' => e = .returned (.int .i64 x) ∧ TK W0 w' tb L' K ∧ Kept K w w' := by
  obtain ⟨X, h1, h2⟩ := h.has
  rw [← he.out, ← hL.out]
  refine (tb_put h1 hf).mono ?_
  rintro e w' ⟨rfl, hT⟩
  exact ⟨rfl, TK.turned h1 h2 hT⟩
theorem tk_set {W0 w : World} {tb : Nat} {L : List Th} {K : List Nat} (h : TK W0 w tb L K) {t : Th} (hf : inT t) {x : Int} {L' : List Th} (he : Hid (tsE t L = x)) (hL : Hid (tsL t L = L')) :
    Calls Tryz.prog 12 #[.pointer (some ⟨tb, 0, none⟩), t.v] w fun e w' => e = .returned (.int .i64 x) ∧ TK W0 w' tb L' K ∧ Kept K w w' := by
  obtain ⟨X, h1, h2⟩ := h.has
  rw [← he.out, ← hL.out]
  refine (tb_set h1 hf).mono ?_
  rintro e w' ⟨rfl, hT⟩
  exact ⟨rfl, TK.turned h1 h2 hT⟩
theorem tk_drop {W0 w : World} {tb : Nat} {L : List Th} {K : List Nat} (h : TK W0 w tb L K) {id : Int} (hi : inI id) {x : Int} {L' : List Th} (he : Hid (tdE id L = x)) (hL : Hid (tdL id L = L')) :
    Calls Tryz.prog 13 #[.pointer (some ⟨tb, 0, none⟩), .int .i64 id] w fun e w' => e = .returned (.int .i64 x) ∧ TK W0 w' tb L' K ∧ Kept K w w' := by
  obtain ⟨X, h1, h2⟩ := h.has
  rw [← he.out, ← hL.out]
  refine (tb_drop h1 hi).mono ?_
  rintro e w' ⟨rfl, hT⟩
  exact ⟨rfl, TK.turned h1 h2 hT⟩
theorem tk_len {W0 w : World} {tb : Nat} {L : List Th} {K : List Nat} (h : TK W0 w tb L K) {n : Nat} (hn : Hid (L.length = n)) :
    Calls Tryz.prog 20 #[.pointer (some ⟨tb, 0, none⟩)] w fun e w' => e = .returned (.int .i64 (n : Nat)) ∧ w' = w := by
  obtain ⟨X, h1, h2⟩ := h.has
  exact tb_len h1 hn
theorem tk_get {W0 w : World} {tb : Nat} {L : List Th} {K : List Nat} (h : TK W0 w tb L K) {id : Int} (hi : inI id) {t : Th} {q : Bool} (ht : Hid ((findT id L).getD zT = t)) (hq : Hid (hasT id L = q)) :
    Calls Tryz.prog 19 #[.pointer (some ⟨tb, 0, none⟩), .int .i64 id] w fun e w' => e = .returned (.tuple #[t.v, .bool q]) ∧ Below w.heap.size w w' := by
  obtain ⟨X, h1, h2⟩ := h.has
  exact tb_get h1 hi ht hq
theorem tk_in {W0 w : World} {tb : Nat} {L : List Th} {K : List Nat} (h : TK W0 w tb L K) (r0 r1 r2 r3 : Int) {M : List Th} (hM : Hid (inT_r ⟨r0, r1, r2, r3⟩ L = M)) {n : Nat} (hn : Hid (M.length = n)) :
    Calls Tryz.prog 22 #[.pointer (some ⟨tb, 0, none⟩), rc r0 r1 r2 r3] w fun e w' => ∃ p cap, e = .returned (.slice p n cap) ∧ RowT w' p M ∧ Below w.heap.size w w' := by
  obtain ⟨X, h1, h2⟩ := h.has
  rw [← hn.out]
  refine (tb_in h1 r0 r1 r2 r3 hM).mono ?_
  rintro e w' ⟨p, cap, rfl, ho, hb⟩
  exact ⟨p, cap, rfl, rowT_own ho rfl, hb⟩
theorem tk_cell {W0 w : World} {tb : Nat} {L : List Th} {K : List Nat} (h : TK W0 w tb L K) (c : Int) {M : List Th} (hM : Hid (inT_r (cellR c) L = M)) {n : Nat} (hn : Hid (M.length = n)) :
    Calls Tryz.prog 21 #[.pointer (some ⟨tb, 0, none⟩), .int .i64 c] w fun e w' => ∃ p cap, e = .returned (.slice p n cap) ∧ RowT w' p M ∧ Below w.heap.size w w' := by
  obtain ⟨X, h1, h2⟩ := h.has
  rw [← hn.out]
  refine (tb_cell h1 c hM).mono ?_
  rintro e w' ⟨p, cap, rfl, ho, hb⟩
  exact ⟨p, cap, rfl, rowT_own ho rfl, hb⟩
theorem tk_all {W0 w : World} {tb : Nat} {L : List Th} {K : List Nat} (h : TK W0 w tb L K) {n : Nat} (hn : Hid (L.length = n)) :
    Calls Tryz.prog 18 #[.pointer (some ⟨tb, 0, none⟩)] w fun e w' => ∃ p cap, e = .returned (.slice p n cap) ∧ RowT w' p L ∧ Below w.heap.size w w' := by
  obtain ⟨X, h1, h2⟩ := h.has
  rw [← hn.out]
  refine (tb_all h1).mono ?_
  rintro e w' ⟨p, cap, rfl, ho, hb⟩
  exact ⟨p, cap, rfl, rowT_own ho rfl, hb⟩
theorem tk_copy {W0 w : World} {tb : Nat} {L : List Th} {K : List Nat} (h : TK W0 w tb L K) :
    Calls Tryz.prog 7 #[.pointer (some ⟨tb, 0, none⟩)] w fun e w' => ∃ cb, e = .returned (.pointer (some ⟨cb, 0, none⟩)) ∧ TK w w' cb L [] := by
  obtain ⟨X, h1, h2⟩ := h.has
  refine (tb_copy h1).mono ?_
  rintro e w' ⟨cb, Y, rfl, hT⟩
  exact ⟨cb, rfl, Y, hT, fun k hk => by cases hk⟩
theorem tk_of {w : World} (hM : Masks w) {p : Option Addr} {cap : Nat} {M : List Th} (hr : RowT w p M) {n : Nat} (hn : Hid (M.length = n)) (hl : n ≤ maxLen) (hf : Hid (∀ t ∈ M, inT t)) {L : List Th} (hL : Hid (ofT M = L)) :
    Calls Tryz.prog 17 #[.slice p n cap] w fun e w' => ∃ tb, e = .returned (.pointer (some ⟨tb, 0, none⟩)) ∧ TK w w' tb L [] := by
  rw [← hL.out]
  refine (tb_of hM hr hn hl hf).mono ?_
  rintro e w' ⟨tb, X, rfl, hT⟩
  exact ⟨tb, rfl, X, hT, fun k hk => by cases hk⟩
abbrev kx : Th := ⟨5, 3, 3, ⟨0, ⟨#[]⟩⟩, ⟨0, ⟨#[]⟩⟩, ⟨0, ⟨#[]⟩⟩, ⟨0, ⟨#[]⟩⟩⟩
abbrev thN (id x y : Int) : Th := ⟨id, x, y, ⟨0, ⟨#[]⟩⟩, ⟨0, ⟨#[]⟩⟩, ⟨0, ⟨#[]⟩⟩, ⟨0, ⟨#[]⟩⟩⟩
theorem zF_in : inF ⟨0, ⟨#[]⟩⟩ := ⟨by decide, by decide, by decide⟩
theorem thN_in (id x y : Int) : inT (thN id x y) := ⟨zF_in, zF_in, zF_in, zF_in⟩
theorem inI_small {x : Int} (h1 : -1000000 ≤ x) (h2 : x ≤ 1000000) : inI x := ⟨by omega, by omega⟩
theorem k1 : tpE kx [] = 0 ∧ tpE kx [kx] = 11 ∧ tsE (thN 6 0 0) [kx] = 15 ∧ tdE 7 [kx] = 15 ∧ hasT 5 [kx] = true := by decide +kernel
theorem k2 : tpL kx [] = [kx] ∧ tpL kx [kx] = [kx] ∧ tsL (thN 6 0 0) [kx] = [kx] ∧ tdL 7 [kx] = [kx] ∧ (findT 5 [kx]).getD zT = kx := by
  refine ⟨?_, ?_, ?_, ?_, ?_⟩ <;> kernel_rfl
theorem k3 : inT_r (cellR 0) [kx] = [kx] ∧ inT_r (cellR 1) [kx] = [] ∧ inT_r ⟨0, 0, 4, 4⟩ [kx] = [kx] ∧ ofT [kx, kx] = [kx] := by
  refine ⟨?_, ?_, ?_, ?_⟩ <;> kernel_rfl
end Go.Proofs.YtildhbkcpehobaaGreatDoor
