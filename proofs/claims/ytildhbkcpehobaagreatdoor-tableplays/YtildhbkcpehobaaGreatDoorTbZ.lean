/- A table, a copy of it, a row of things and a step beside one another in memory: what is done with one leaves the others as they were. No conditions beyond those typed. -/
import Derived.Test.YtildhbkcpehobaaGreatDoorTbS
import Derived.Test.YtildhbkcpehobaaGreatDoorTbO
namespace Go.Proofs.YtildhbkcpehobaaGreatDoor
open Go.RowKit Go.Maps
set_option linter.unusedVariables false
theorem RowT.off {w w' : World} {p : Option Addr} {L : List Th} {X : List Nat} (h : RowT w p L) (ho : Off X w w') (hx : ∀ k, k ∈ rowB p → k ∉ X) : RowT w' p L := by
  rcases h with h | ⟨b, off, rfl, hc⟩
  · exact .inl h
  · refine .inr ⟨b, off, rfl, fun k t hk => ?_⟩
    have hb : b ∉ X := hx b (by simp [rowB])
    obtain ⟨h0, h1, h2, h3, h4, h5, h6, h7, h8, h9, h10⟩ := hc k t hk
    have f := fun {i : Nat} {u : Value} (h : w.cell? ⟨b, i, none⟩ = some u) => cell_off ho h hb
    exact ⟨f h0, f h1, f h2, f h3, f h4, f h5, f h6, f h7, f h8, f h9, f h10⟩
abbrev stO (s : St) : Obj := .cells #[.int .i64 s.k, .int .i64 s.c, .int .i64 s.t.id, .int .i64 s.t.x, .int .i64 s.t.y, .int .i64 s.t.f0.n, .string s.t.f0.s, .int .i64 s.t.f1.n, .string s.t.f1.s, .int .i64 s.t.f2.n, .string s.t.f2.s, .int .i64 s.t.f3.n, .string s.t.f3.s, .int .i64 s.r0, .int .i64 s.r1, .int .i64 s.r2, .int .i64 s.r3] 37 (0, 0)
/-- the table at tb holds L, the copy at cb holds C, the row at p is R, the step at sb is s -/
structure PS (W0 W : World) (tb cb sb : Nat) (L C R : List Th) (p : Option Addr) (s : St) : Prop where
  has : ∃ X Y, TB W0 W tb L X ∧ TB W0 W cb C Y ∧ (∀ k, k ∈ X → k ∉ Y) ∧ ∀ k, k ∈ sb :: rowB p → k < W.heap.size ∧ k ∉ X ∧ k ∉ Y
  row : RowT W p R
  step : W.heap[sb]? = some (stO s)
theorem PS.later {W0 W W' : World} {tb cb sb : Nat} {L C R : List Th} {p : Option Addr} {s : St} (h : PS W0 W tb cb sb L C R p s) (hb : Below W.heap.size W W') : PS W0 W' tb cb sb L C R p s := by
  obtain ⟨X, Y, h1, h2, h3, h4⟩ := h.has
  exact ⟨⟨X, Y, h1.later hb, h2.later hb, h3, fun k hk => ⟨Nat.lt_of_lt_of_le (h4 k hk).1 hb.size, (h4 k hk).2⟩⟩, h.row.later hb, var_on hb h.step (lt_of_at h.step)⟩
theorem PS.below {W0 W : World} {tb cb sb : Nat} {L C R : List Th} {p : Option Addr} {s : St} (h : PS W0 W tb cb sb L C R p s) : Below W0.heap.size W0 W := by
  obtain ⟨X, Y, h1, _⟩ := h.has
  exact h1.below
theorem PS.good {W0 W : World} {tb cb sb : Nat} {L C R : List Th} {p : Option Addr} {s : St} (h : PS W0 W tb cb sb L C R p s) : Good L := by
  obtain ⟨X, Y, h1, _⟩ := h.has
  exact h1.good
theorem PS.turned {W0 w w' : World} {tb cb sb : Nat} {L L' C R : List Th} {p : Option Addr} {s : St} {X Y : List Nat} (h : PS W0 w tb cb sb L C R p s) (h1 : TB W0 w tb L X) (h2 : TB W0 w cb C Y) (h3 : ∀ k, k ∈ X → k ∉ Y) (h4 : ∀ k, k ∈ sb :: rowB p → k < w.heap.size ∧ k ∉ X ∧ k ∉ Y) (ht : TBT W0 w tb L' X w') : PS W0 w' tb cb sb L' C R p s := by
  obtain ⟨X', k1, k2, k3⟩ := ht
  have hX : ∀ k, k ∈ X → W0.heap.size ≤ k := fun k hk => (h1.lt k hk).1
  refine ⟨⟨X', Y, k1, h2.off k2 (fun k hk hx => h3 k hx hk) hX, fun k hk hy => ?_, fun k hk => ⟨Nat.lt_of_lt_of_le (h4 k hk).1 k2.size, fun hm => ?_, (h4 k hk).2.2⟩⟩, h.row.off k2 (fun k hk => (h4 k (List.mem_cons_of_mem _ hk)).2.1), at_off h.step k2 (h4 sb List.mem_cons_self).2.1⟩
  · rcases k3 k hk with hk | hk
    · exact h3 k hk hy
    · have := (h2.lt k hy).2; omega
  · rcases k3 k hm with hm | hm
    · exact (h4 k hk).2.1 hm
    · have := (h4 k hk).1; omega
theorem ps_put {W0 w : World} {tb cb sb : Nat} {L C R : List Th} {p : Option Addr} {s : St} (h : PS W0 w tb cb sb L C R p s) {t : Th} (hf : inT t) {x : Int} {L' : List Th} (he : Hid (tpE t L = x)) (hL : Hid (tpL t L = L')) :
    Calls Tryz.prog 9 #[.pointer (some ⟨tb, 0, none⟩), t.v] w fun e w' => e = .returned (.int .i64 x) ∧ PS W0 w' tb cb sb L' C R p s := by
  obtain ⟨X, Y, h1, h2, h3, h4⟩ := h.has
  rw [← he.out, ← hL.out]
  refine (tb_put h1 hf).mono ?_
  rintro e w' ⟨rfl, hT⟩
  exact ⟨rfl, h.turned h1 h2 h3 h4 hT⟩
theorem ps_set {W0 w : World} {tb cb sb : Nat} {L C R : List Th} {p : Option Addr} {s : St} (h : PS W0 w tb cb sb L C R p s) {t : Th} (hf : inT t) {x : Int} {L' : List Th} (he : Hid (tsE t L = x)) (hL : Hid (tsL t L = L')) :
    Calls Tryz.prog 12 #[.pointer (some ⟨tb, 0, none⟩), t.v] w fun e w' => e = .returned (.int .i64 x) ∧ PS W0 w' tb cb sb L' C R p s := by
  obtain ⟨X, Y, h1, h2, h3, h4⟩ := h.has
  rw [← he.out, ← hL.out]
  refine (tb_set h1 hf).mono ?_
  rintro e w' ⟨rfl, hT⟩
  exact ⟨rfl, h.turned h1 h2 h3 h4 hT⟩
theorem ps_drop {W0 w : World} {tb cb sb : Nat} {L C R : List Th} {p : Option Addr} {s : St} (h : PS W0 w tb cb sb L C R p s) {id : Int} (hi : inI id) {x : Int} {L' : List Th} (he : Hid (tdE id L = x)) (hL : Hid (tdL id L = L')) :
    Calls Tryz.prog 13 #[.pointer (some ⟨tb, 0, none⟩), .int .i64 id] w fun e w' => e = .returned (.int .i64 x) ∧ PS W0 w' tb cb sb L' C R p s := by
  obtain ⟨X, Y, h1, h2, h3, h4⟩ := h.has
  rw [← he.out, ← hL.out]
  refine (tb_drop h1 hi).mono ?_
  rintro e w' ⟨rfl, hT⟩
  exact ⟨rfl, h.turned h1 h2 h3 h4 hT⟩
/-- t goes on as a copy of itself -/
theorem ps_copy {W0 w : World} {tb cb sb : Nat} {L C R : List Th} {p : Option Addr} {s : St} (h : PS W0 w tb cb sb L C R p s) (hM : Masks W0) :
    Calls Tryz.prog 7 #[.pointer (some ⟨tb, 0, none⟩)] w fun e w' => ∃ tb', e = .returned (.pointer (some ⟨tb', 0, none⟩)) ∧ PS W0 w' tb' cb sb L C R p s := by
  obtain ⟨X, Y, h1, h2, h3, h4⟩ := h.has
  refine (tb_copy h1).mono ?_
  rintro e w' ⟨tb', Z, rfl, hT⟩
  have hb := hT.below
  refine ⟨tb', rfl, ⟨Z, Y, hT.base h1.below hM, h2.later hb, fun k hk hy => ?_, fun k hk => ⟨Nat.lt_of_lt_of_le (h4 k hk).1 hb.size, fun hm => ?_, (h4 k hk).2.2⟩⟩, h.row.later hb, var_on hb h.step (lt_of_at h.step)⟩
  · have := (hT.lt k hk).1
    have := (h2.lt k hy).2
    omega
  · have := (hT.lt k hm).1
    have := (h4 k hk).1
    omega
/-- another row in the elder one's place -/
theorem PS.row2 {W0 w w' : World} {tb cb sb : Nat} {L C R M : List Th} {p p' : Option Addr} {s : St} (h : PS W0 w tb cb sb L C R p s) (hb : Below w.heap.size w w') (hr : RowT w' p' M) (hp : ∀ k, k ∈ rowB p' → w.heap.size ≤ k ∧ k < w'.heap.size) : PS W0 w' tb cb sb L C M p' s := by
  obtain ⟨X, Y, h1, h2, h3, h4⟩ := h.has
  refine ⟨⟨X, Y, h1.later hb, h2.later hb, h3, fun k hk => ?_⟩, hr, var_on hb h.step (lt_of_at h.step)⟩
  rcases List.mem_cons.1 hk with rfl | hk
  · exact ⟨Nat.lt_of_lt_of_le (h4 k List.mem_cons_self).1 hb.size, (h4 k List.mem_cons_self).2⟩
  · have hkk := hp k hk
    exact ⟨hkk.2, fun hm => by have := (h1.lt k hm).2; omega, fun hm => by have := (h2.lt k hm).2; omega⟩
/-- a table, a row and a step -/
structure QS (W0 W : World) (tb sb : Nat) (L R : List Th) (p : Option Addr) (s : St) : Prop where
  tab : TK W0 W tb L (sb :: rowB p)
  row : RowT W p R
  step : W.heap[sb]? = some (stO s)
/-- the copy takes one more, and is left -/
theorem ps_cput {W0 w : World} {tb cb sb : Nat} {L C R : List Th} {p : Option Addr} {s : St} (h : PS W0 w tb cb sb L C R p s) {t : Th} (hf : inT t) :
    Calls Tryz.prog 9 #[.pointer (some ⟨cb, 0, none⟩), t.v] w fun e w' => (∃ f : Int, e = .returned (.int .i64 f)) ∧ QS W0 w' tb sb L R p s := by
  obtain ⟨X, Y, h1, h2, h3, h4⟩ := h.has
  refine (tb_put h2 hf).mono ?_
  rintro e w' ⟨rfl, Y', k1, k2, k3⟩
  refine ⟨⟨_, rfl⟩, ⟨X, h1.off k2 h3 (fun k hk => (h2.lt k hk).1), fun k hk => ⟨Nat.lt_of_lt_of_le (h4 k hk).1 k2.size, (h4 k hk).2.1⟩⟩, h.row.off k2 (fun k hk => (h4 k (List.mem_cons_of_mem _ hk)).2.2), at_off h.step k2 (h4 sb List.mem_cons_self).2.2⟩
theorem QS.later {W0 W W' : World} {tb sb : Nat} {L R : List Th} {p : Option Addr} {s : St} (h : QS W0 W tb sb L R p s) (hb : Below W.heap.size W W') : QS W0 W' tb sb L R p s :=
  ⟨h.tab.later hb, h.row.later hb, var_on hb h.step (lt_of_at h.step)⟩
/-- t is copied -/
theorem qs_copy {W0 w : World} {tb sb : Nat} {L R : List Th} {p : Option Addr} {s : St} (h : QS W0 w tb sb L R p s) (hM : Masks W0) :
    Calls Tryz.prog 7 #[.pointer (some ⟨tb, 0, none⟩)] w fun e w' => ∃ cb, e = .returned (.pointer (some ⟨cb, 0, none⟩)) ∧ PS W0 w' tb cb sb L L R p s := by
  obtain ⟨X, h1, h2⟩ := h.tab.has
  refine (tb_copy h1).mono ?_
  rintro e w' ⟨cb, Z, rfl, hT⟩
  have hb := hT.below
  refine ⟨cb, rfl, ⟨X, Z, h1.later hb, hT.base h1.below hM, fun k hk hz => ?_, fun k hk => ⟨Nat.lt_of_lt_of_le (h2 k hk).1 hb.size, (h2 k hk).2, fun hz => ?_⟩⟩, h.row.later hb, var_on hb h.step (lt_of_at h.step)⟩
  · have := (hT.lt k hz).1
    have := (h1.lt k hk).2
    omega
  · have := (hT.lt k hz).1
    have := (h2 k hk).1
    omega
/-- what the document says of a step's error and of the row behind it -/
theorem does_put {t : Th} {L : List Th} (hl : L.length < 200) : (isT t = false → tpE t L = 11 ∧ tpL t L = L) ∧ (hasT t.id L = true → tpE t L = 11 ∧ tpL t L = L) ∧ (isT t = true → hasT t.id L = false → tpE t L = 0 ∧ tpL t L = witT t L) := by
  refine ⟨fun h => ?_, fun h => ?_, fun h1 h2 => ?_⟩
  · have e := tpE_bad (L := L) h
    exact ⟨e, by unfold tpL; rw [e]; rfl⟩
  · have e := tpE_has h
    exact ⟨e, by unfold tpL; rw [e]; rfl⟩
  · have e := tpE_ok h1 h2 hl
    exact ⟨e, by unfold tpL; rw [e]; rfl⟩
theorem does_set {t : Th} {L : List Th} : (isT t = false → tsE t L = 11 ∧ tsL t L = L) ∧ (isT t = true → hasT t.id L = false → tsE t L = 15 ∧ tsL t L = L) ∧ (isT t = true → hasT t.id L = true → tsE t L = 0 ∧ tsL t L = witT t L) := by
  refine ⟨fun h => ?_, fun h1 h2 => ?_, fun h1 h2 => ?_⟩
  · have e : tsE t L = 11 := by unfold tsE; rw [if_pos h]
    exact ⟨e, by unfold tsL; rw [e]; rfl⟩
  · have e : tsE t L = 15 := by unfold tsE; rw [if_neg (by rw [h1]; simp), if_pos h2]
    exact ⟨e, by unfold tsL; rw [e]; rfl⟩
  · have e : tsE t L = 0 := by unfold tsE; rw [if_neg (by rw [h1]; simp), if_neg (by rw [h2]; simp)]
    exact ⟨e, by unfold tsL; rw [e]; rfl⟩
theorem wit_len {t : Th} {L : List Th} : (witT t L).length ≤ L.length + 1 := by
  unfold witT
  rw [ins_length]
  have := out_length t.id L
  omega
theorem risT_at {t : Th} {q : Bool} (h : Hid (isT t = q)) (w : World) (hi : inT t) : Calls Tryz.prog 10 #[t.v] w fun e w' => e = .returned (.bool q) ∧ Below w.heap.size w w' := by
  rw [← h.out]; exact ref_isT w t hi
theorem ins_last {t : Th} : ∀ {L : List Th}, (∀ a ∈ L, a.id < t.id) → insT t L = L ++ [t]
  | [], _ => rfl
  | a :: r, h => by
    have := h a List.mem_cons_self
    unfold insT
    rw [if_neg (by omega), ins_last (fun b hb => h b (List.mem_cons_of_mem _ hb))]
    rfl
theorem of_self {L : List Th} (h : Good L) : ∀ k, k ≤ L.length → ofT (L.take k) = L.take k
  | 0, _ => by simp [ofT]
  | k + 1, hk => by
    have hk' : k < L.length := hk
    have ht : L[k]? = some L[k] := List.getElem?_eq_getElem hk'
    have hm : L[k] ∈ L := List.getElem_mem hk'
    have hlt : ∀ a ∈ L.take k, a.id < L[k].id := fun a ha => by
      obtain ⟨j, hj, rfl⟩ := List.getElem_of_mem ha
      have hj' : j < k := by rw [List.length_take] at hj; omega
      rw [List.getElem_take]
      exact List.pairwise_iff_getElem.1 h.rise j k (by omega) hk' hj'
    have hh : hasT L[k].id (L.take k) = false := by
      cases e : hasT L[k].id (L.take k)
      · rfl
      · obtain ⟨a, ha, e2⟩ := has_iff.1 e
        have := hlt a ha
        omega
    have hE : tpE L[k] (L.take k) = 0 := tpE_ok (h.is _ hm) hh (by rw [List.length_take]; have := h.len; omega)
    rw [of_take ht, of_self h k (by omega)]
    unfold tpL
    rw [if_pos hE]
    unfold witT
    rw [out_no hh, ins_last hlt, List.take_add_one, ht]
    rfl
theorem of_all {L : List Th} (h : Good L) : ofT L = L := by
  have := of_self h L.length (Nat.le_refl _)
  rwa [List.take_length] at this
theorem st_at {w : World} {p : Option Addr} {L : List St} (h : RowG St.cs 17 w p L) {k : Nat} {s : St} (hk : L[k]? = some s) : ∃ b off, p = some ⟨b, off, none⟩ ∧ w.cell? ⟨b, off + k * 17, none⟩ = some (.int .i64 s.k) ∧ w.cell? ⟨b, off + k * 17 + 1, none⟩ = some (.int .i64 s.c) ∧ w.cell? ⟨b, off + k * 17 + 2, none⟩ = some (.int .i64 s.t.id) ∧ w.cell? ⟨b, off + k * 17 + 3, none⟩ = some (.int .i64 s.t.x) ∧ w.cell? ⟨b, off + k * 17 + 4, none⟩ = some (.int .i64 s.t.y) ∧ w.cell? ⟨b, off + k * 17 + 5, none⟩ = some (.int .i64 s.t.f0.n) ∧ w.cell? ⟨b, off + k * 17 + 6, none⟩ = some (.string s.t.f0.s) ∧ w.cell? ⟨b, off + k * 17 + 7, none⟩ = some (.int .i64 s.t.f1.n) ∧ w.cell? ⟨b, off + k * 17 + 8, none⟩ = some (.string s.t.f1.s) ∧ w.cell? ⟨b, off + k * 17 + 9, none⟩ = some (.int .i64 s.t.f2.n) ∧ w.cell? ⟨b, off + k * 17 + 10, none⟩ = some (.string s.t.f2.s) ∧ w.cell? ⟨b, off + k * 17 + 11, none⟩ = some (.int .i64 s.t.f3.n) ∧ w.cell? ⟨b, off + k * 17 + 12, none⟩ = some (.string s.t.f3.s) ∧ w.cell? ⟨b, off + k * 17 + 13, none⟩ = some (.int .i64 s.r0) ∧ w.cell? ⟨b, off + k * 17 + 14, none⟩ = some (.int .i64 s.r1) ∧ w.cell? ⟨b, off + k * 17 + 15, none⟩ = some (.int .i64 s.r2) ∧ w.cell? ⟨b, off + k * 17 + 16, none⟩ = some (.int .i64 s.r3) := by
  obtain ⟨b, off, hp, hc⟩ := h.at hk
  exact ⟨b, off, hp, hc 0 _ rfl, hc 1 _ rfl, hc 2 _ rfl, hc 3 _ rfl, hc 4 _ rfl, hc 5 _ rfl, hc 6 _ rfl, hc 7 _ rfl, hc 8 _ rfl, hc 9 _ rfl, hc 10 _ rfl, hc 11 _ rfl, hc 12 _ rfl, hc 13 _ rfl, hc 14 _ rfl, hc 15 _ rfl, hc 16 _ rfl⟩
end Go.Proofs.YtildhbkcpehobaaGreatDoor
