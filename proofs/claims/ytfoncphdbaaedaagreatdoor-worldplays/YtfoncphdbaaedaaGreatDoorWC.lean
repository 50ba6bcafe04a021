/- Contracts of Do and Of of the package world. No conditions beyond those typed. Two worlds in memory beside one another and beside other blocks: what is done to one leaves the other as it was. No conditions beyond those typed. -/
import Derived.Test.YtfoncphdbaaedaaGreatDoorWd3
namespace Go.Proofs.YtfoncphdbaaedaaGreatDoor
section
open Go.RowKit Go.Maps
set_option linter.unusedVariables false
set_option maxRecDepth 100000
theorem rowM_one {W : World} {b : Nat} {c : Cm} (h : W.heap[b]? = some c.o) : RowM W (some ⟨b, 0, none⟩) [c] := by
  refine .inr ⟨b, 0, rfl, fun k t hk j v hv => ?_⟩
  have hk0 : k < 1 := (List.getElem?_eq_some_iff.1 hk).1
  obtain rfl : k = 0 := by omega
  obtain rfl : c = t := by simpa using hk
  have := Go.Joins.cell_of_block h j
  rw [show 0 + 0 * 22 + j = j by omega, this, ← hv]
  exact List.getElem?_toArray
theorem rowI_one {W : World} {b : Nat} {id : Int} (h : W.heap[b]? = some (.cells #[.int .i64 id] 3 (0, 0))) : RowIs W (some ⟨b, 0, none⟩) (nums .i64 [id]) := by
  refine .inr ⟨b, 0, rfl, fun i hi => ?_⟩
  have hi0 : i < 1 := by simpa [nums] using hi
  obtain rfl : i = 0 := by omega
  have := Go.Joins.cell_of_block h 0
  simpa [nums] using this
theorem st_one (c : Cm) (id : Int) (L : List Th) : stW [c] [id] L 1 = wdL L c id ∧ stN [c] [id] L 1 = wdN L c id ∧ stE [c] [id] L 1 = wdE L c id := ⟨rfl, rfl, rfl⟩
set_option maxHeartbeats 4000000 in
theorem wd_do {W0 w : World} {wb : Nat} {L : List Th} {K : List Nat} (h : TK W0 w wb L K) {c : Cm} (hc : inC c) {id : Int} (hi : inI id) {n x : Int} {L' : List Th} (hn : Hid (wdN L c id = n)) (hx : Hid (wdE L c id = x)) (hL : Hid (wdL L c id = L')) :
    Calls Tryz.prog 11 #[.pointer (some ⟨wb, 0, none⟩), c.v, .int .i64 id] w fun e w' => e = .returned (.tuple #[.int .i64 n, .int .i64 x]) ∧ TK W0 w' wb L' K ∧ Kept K w w' := by
  obtain ⟨W, hW⟩ : ∃ W, w.alloc c.o = W := ⟨_, rfl⟩
  have hB : Below w.heap.size w W := by rw [← hW]; exact below1 _ _
  have K1 := hid (show W.heap[w.heap.size]? = some c.o by rw [← hW]; exact new_at _ _ _ rfl)
  obtain ⟨W2, hW2⟩ : ∃ W2, W.alloc c.o = W2 := ⟨_, rfl⟩
  have hb2 : Below W.heap.size W W2 := by rw [← hW2]; exact below1 _ _
  have K2 : W2.heap[W.heap.size]? = some c.o := by rw [← hW2]; exact new_at _ _ _ rfl
  obtain ⟨W3, hW3⟩ : ∃ W3, W2.alloc (.cells #[.int .i64 id] 3) = W3 := ⟨_, rfl⟩
  have hb3 : Below W2.heap.size W2 W3 := by rw [← hW3]; exact below1 _ _
  have J3 : W3.heap[W2.heap.size]? = some (.cells #[.int .i64 id] 3 (0, 0)) := by rw [← hW3]; exact new_at _ _ _ rfl
  have T2 := (h.later hB).also hb2 (Nat.le_refl _) (lt_of_at K2)
  have T3 := T2.also hb3 (Nat.le_refl _) (lt_of_at J3)
  have hB3 : Below w.heap.size w W3 := below_on (below_on hB hb2) hb3
  have hK3 := hid (h.kept hB3)
  have C := wd_each (p := some ⟨W.heap.size, 0, none⟩) (q := some ⟨W2.heap.size, 0, none⟩) (cap := 1) (cap' := 1) T3 (cs := [c]) (ids := [id]) (rowM_one (var_on hb3 K2 (lt_of_at K2))) (.inr (fun k hk => by simp [rowB] at hk; simp [hk])) (by simpa using hc) (n := 1) rfl (by decide) (rowI_one J3) (.inr (fun k hk => by simp [rowB] at hk; simp [hk])) (by simpa using hi) (m := 1) rfl (by decide) hn hx hL
  have HW := hid hW
  have HW2 := hid hW2
  have HW3 := hid hW3
  have hsz : W.heap.size = w.heap.size + 1 := by rw [← hW]; simp
  have hsz2 : W2.heap.size = W.heap.size + 1 := by rw [← hW2]; simp
  clear hW hW2 hW3 h T2 T3 K2 J3 hb2 hb3 hn hx hL hc hi hB hB3
  go_enter Tryz.func11, Tryz.ntmps11
  go_upto_region 1 with fail
  rw [HW.out]
  go_wp2_with (with_reducible refine wpList_load_cm rfl (.tmp 4) rfl rfl K1.out ?_)
  have e3 := HW3.out
  have e2 := HW2.out
  rw [hsz2, hsz] at C
  clear HW HW2 HW3 hsz hsz2
  subst e3
  subst e2
  refine C.mono ?_
  rintro y w4 ⟨rfl, hT, hK⟩
  go_wp2_with fail
  exact bodyPost_ret (v := .tuple #[.int .i64 n, .int .i64 x]) (by simp [results, Tryz.results11, go_sem]) rfl ⟨rfl, hT.drop (fun k hk => by simp [hk]), hK3.out.trans (hK.mono (fun k hk => by simp [hk]))⟩
theorem rowM_lt {W : World} {p : Option Addr} {L : List Cm} (h : RowM W p L) : L = [] ∨ ∀ k, k ∈ rowB p → k < W.heap.size := by
  rcases h with h | ⟨b, off, rfl, hc⟩
  · exact .inl h
  · cases L with
    | nil => exact .inl rfl
    | cons c L =>
      right
      intro k hk
      obtain rfl : k = b := by simpa [rowB] using hk
      have := hc 0 c rfl 0 (.int .i64 c.kd) rfl
      exact World.block_lt_of_cell? W _ this
theorem rowI_lt {W : World} {p : Option Addr} {vs : List Value} (h : RowIs W p vs) : vs = [] ∨ ∀ k, k ∈ rowB p → k < W.heap.size := by
  rcases h with h | ⟨b, off, rfl, hc⟩
  · exact .inl h
  · cases vs with
    | nil => exact .inl rfl
    | cons c L =>
      right
      intro k hk
      obtain rfl : k = b := by simpa [rowB] using hk
      have := hc 0 (by simp)
      exact World.block_lt_of_cell? W _ this
set_option maxHeartbeats 4000000 in
theorem wd_of {w : World} (hM : Masks w) {p q : Option Addr} {cap cap' : Nat} {cs : List Cm} {ids : List Int} (hr : RowM w p cs) (hcs : ∀ c ∈ cs, inC c) {n : Nat} (hn : Hid (cs.length = n)) (hnl : n ≤ maxLen)
    (hq : RowIs w q (nums .i64 ids)) (hids : ∀ i ∈ ids, inI i) {m : Nat} (hm : Hid (ids.length = m)) (hml : m ≤ maxLen) {L : List Th} (hL : Hid (stW cs ids [] n = L)) :
    Calls Tryz.prog 18 #[.slice p n cap, .slice q m cap'] w fun e w' => ∃ wb, e = .returned (.pointer (some ⟨wb, 0, none⟩)) ∧ TK w w' wb L [] := by
  obtain ⟨R, hR1, hR2, hR3⟩ : ∃ R : List Nat, (∀ k, k ∈ R → k < w.heap.size) ∧ (cs = [] ∨ ∀ k, k ∈ rowB p → k ∈ R) ∧ (nums .i64 ids = [] ∨ ∀ k, k ∈ rowB q → k ∈ R) := by
    rcases rowM_lt hr with h1 | h1 <;> rcases rowI_lt hq with h2 | h2
    · exact ⟨[], by simp, .inl h1, .inl h2⟩
    · exact ⟨rowB q, h2, .inl h1, .inr (fun k hk => hk)⟩
    · exact ⟨rowB p, h1, .inr (fun k hk => hk), .inl h2⟩
    · exact ⟨rowB p ++ rowB q, fun k hk => (List.mem_append.1 hk).elim (h1 k) (h2 k), .inr (fun k hk => List.mem_append_left _ hk), .inr (fun k hk => List.mem_append_right _ hk)⟩
  have C := wd_new hM
  have HR := hid hr
  have HQ := hid hq
  have HCS := hid hcs
  have HI := hid hids
  have H1 := hid hR1
  have H2 := hid hR2
  have H3 := hid hR3
  obtain ⟨N, hN⟩ : ∃ N, Hid (stN cs ids [] n = N) := ⟨_, rfl⟩
  obtain ⟨E, hE⟩ : ∃ E, Hid (stE cs ids [] n = E) := ⟨_, rfl⟩
  clear hr hq hcs hids hR1 hR2 hR3 hM
  go_enter Tryz.func18, Tryz.ntmps18
  go_wp2_with fail
  refine C.mono ?_
  rintro x W1 ⟨wb, rfl, T⟩
  have hb := T.below
  have T1 := hid (T.under H1.out)
  have HR1 := hid (HR.out.later hb)
  have HQ1 := hid (HQ.out.later hb)
  clear C T hb HR HQ
  go_wp2_with fail
  refine (wd_each T1.out HR1.out (H2.out.elim .inl (fun h => .inr (fun k hk => by simp [h k hk]))) HCS.out hn hnl HQ1.out (H3.out.elim .inl (fun h => .inr (fun k hk => by simp [h k hk]))) HI.out hm hml hN hE hL).mono ?_
  rintro x W2 ⟨rfl, hT, hK⟩
  have HT := hid (hT.drop (K' := []) (fun k hk => by cases hk))
  clear hT hK T1 HR1 HQ1
  go_wp2_with fail
  go_ret
  exact ⟨wb, rfl, HT.out⟩
end
section
open Go.RowKit Go.Maps
set_option linter.unusedVariables false
theorem owns_kept {base : Nat} {e : TypeId} {size : Nat} {v : Value} {n : Nat} {xs : List Value} {W W' : World} {Y : List Nat} (h : W.ownsRow base e size v n xs) (hK : Kept Y W W') (hx : ∀ k, k ∈ ob v → k ∈ Y) : W'.ownsRow base e size v n xs := by
  refine ⟨h.1, ?_⟩
  rcases h.2 with hn | ⟨g, cap, cur, rfl, hb, hgg, rest⟩
  · exact .inl hn
  · refine .inr ⟨g, cap, cur, rfl, hb, ?_, rest⟩
    rw [hK g (hx g (mem_ob.2 rfl))]
    exact hgg
theorem TS.kept {W W' : World} {base tb : Nat} {v : Value} {L : List Mk} {Y : List Nat} (h : TS W base tb v L) (hK : Kept Y W W') (hx : ∀ k, k ∈ tb :: ob v → k ∈ Y) : TS W' base tb v L := by
  obtain ⟨S, h1, h2⟩ := h
  exact ⟨S, ⟨hK.at (hx tb List.mem_cons_self) h1.at_, owns_kept h1.own hK (fun k hk => hx k (List.mem_cons_of_mem _ hk)), h1.ne, h1.lo⟩, h2⟩
theorem OM.kept {W W' : World} {b : Nat} {L : List Th} {Y : List Nat} (h : OM W b L) (hK : Kept Y W W') (hx : b ∈ Y) : OM W' b L := by
  obtain ⟨es, clock, hb, r⟩ := h
  exact ⟨es, clock, (hK b hx).trans hb, r⟩
theorem TB.kept {W0 W W' : World} {tb : Nat} {L : List Th} {Y : List Nat} (h : TB W0 W tb L Y) (hK : Kept Y W W') (hb : Below W0.heap.size W0 W') : TB W0 W' tb L Y := by
  obtain ⟨bm, qb, v, h1, rfl⟩ := h
  exact ⟨bm, qb, v, ⟨⟨_, hK.at (by simp) h1.at_⟩, h1.map.kept hK (by simp), h1.tree.kept hK (fun k hk => List.mem_cons_of_mem _ (List.mem_cons_of_mem _ hk)), h1.good, h1.lo, h1.lom, h1.ne1, h1.ne2, hb, h1.masks⟩, rfl⟩
structure T2 (W0 W : World) (ub cb : Nat) (L C : List Th) (K : List Nat) : Prop where
  has : ∃ X Y, TB W0 W ub L X ∧ TB W0 W cb C Y ∧ (∀ k, k ∈ X → k ∉ Y) ∧ ∀ k, k ∈ K → k < W.heap.size ∧ k ∉ X ∧ k ∉ Y
theorem T2.fst {W0 W : World} {ub cb : Nat} {L C : List Th} {K : List Nat} (h : T2 W0 W ub cb L C K) : TK W0 W ub L K := by
  obtain ⟨X, Y, h1, h2, h3, h4⟩ := h.has
  exact ⟨X, h1, fun k hk => ⟨(h4 k hk).1, (h4 k hk).2.1⟩⟩
theorem T2.swap {W0 W : World} {ub cb : Nat} {L C : List Th} {K : List Nat} (h : T2 W0 W ub cb L C K) : T2 W0 W cb ub C L K := by
  obtain ⟨X, Y, h1, h2, h3, h4⟩ := h.has
  exact ⟨Y, X, h2, h1, fun k hk hx => h3 k hx hk, fun k hk => ⟨(h4 k hk).1, (h4 k hk).2.2, (h4 k hk).2.1⟩⟩
theorem T2.snd {W0 W : World} {ub cb : Nat} {L C : List Th} {K : List Nat} (h : T2 W0 W ub cb L C K) : TK W0 W cb C K := h.swap.fst
theorem T2.below {W0 W : World} {ub cb : Nat} {L C : List Th} {K : List Nat} (h : T2 W0 W ub cb L C K) : Below W0.heap.size W0 W := h.fst.below
theorem T2.later {W0 W W' : World} {ub cb : Nat} {L C : List Th} {K : List Nat} (h : T2 W0 W ub cb L C K) (hb : Below W.heap.size W W') : T2 W0 W' ub cb L C K := by
  obtain ⟨X, Y, h1, h2, h3, h4⟩ := h.has
  exact ⟨X, Y, h1.later hb, h2.later hb, h3, fun k hk => ⟨Nat.lt_of_lt_of_le (h4 k hk).1 hb.size, (h4 k hk).2⟩⟩
/-- blocks that lie below the worlds, or were made behind them -/
theorem T2.alsos {W0 W W' : World} {ub cb : Nat} {L C : List Th} {K R : List Nat} (h : T2 W0 W ub cb L C K) (hb : Below W.heap.size W W') (hR : ∀ k, k ∈ R → k ∈ K ∨ (W.heap.size ≤ k ∧ k < W'.heap.size)) : T2 W0 W' ub cb L C R := by
  obtain ⟨X, Y, h1, h2, h3, h4⟩ := h.has
  refine ⟨X, Y, h1.later hb, h2.later hb, h3, fun k hk => ?_⟩
  rcases hR k hk with hk | hk
  · exact ⟨Nat.lt_of_lt_of_le (h4 k hk).1 hb.size, (h4 k hk).2⟩
  · exact ⟨hk.2, fun hm => by have := (h1.lt k hm).2; omega, fun hm => by have := (h2.lt k hm).2; omega⟩
theorem t2_do {W0 w : World} {ub cb : Nat} {L C : List Th} {K : List Nat} (h : T2 W0 w ub cb L C K) {c : Cm} (hc : inC c) {id : Int} (hi : inI id) {n x : Int} {L' : List Th} (hn : Hid (wdN L c id = n)) (hx : Hid (wdE L c id = x)) (hL : Hid (wdL L c id = L')) :
    Calls Tryz.prog 11 #[.pointer (some ⟨ub, 0, none⟩), c.v, .int .i64 id] w fun e w' => e = .returned (.tuple #[.int .i64 n, .int .i64 x]) ∧ T2 W0 w' ub cb L' C K ∧ Kept K w w' := by
  obtain ⟨X, Y, h1, h2, h3, h4⟩ := h.has
  have T : TK W0 w ub L (Y ++ K) := ⟨X, h1, fun k hk => by
    rcases List.mem_append.1 hk with hk | hk
    · exact ⟨(h2.lt k hk).2, fun hm => h3 k hm hk⟩
    · exact ⟨(h4 k hk).1, (h4 k hk).2.1⟩⟩
  refine (wd_do T hc hi hn hx hL).mono ?_
  rintro e w' ⟨rfl, hT, hK⟩
  obtain ⟨X', k1, k2⟩ := hT.has
  refine ⟨rfl, ⟨X', Y, k1, h2.kept (hK.mono (fun k hk => List.mem_append_left _ hk)) k1.below, fun k hk hy => (k2 k (List.mem_append_left _ hy)).2 hk, fun k hk => ⟨(k2 k (List.mem_append_right _ hk)).1, (k2 k (List.mem_append_right _ hk)).2, (h4 k hk).2.2⟩⟩, hK.mono (fun k hk => List.mem_append_right _ hk)⟩
theorem t2_copy {W0 w : World} {wb : Nat} {L : List Th} {K : List Nat} (h : TK W0 w wb L K) (hM : Masks W0) :
    Calls Tryz.prog 10 #[.pointer (some ⟨wb, 0, none⟩)] w fun e w' => ∃ cb, e = .returned (.pointer (some ⟨cb, 0, none⟩)) ∧ T2 W0 w' wb cb L L K ∧ Below w.heap.size w w' := by
  obtain ⟨X, h1, h2⟩ := h.has
  refine (wd_copy h).mono ?_
  rintro e w' ⟨cb, rfl, hT⟩
  obtain ⟨Y, k1, k2⟩ := hT.has
  have hb := k1.below
  refine ⟨cb, rfl, ⟨X, Y, h1.later hb, k1.base h1.below hM, fun k hk hy => ?_, fun k hk => ⟨Nat.lt_of_lt_of_le (h2 k hk).1 hb.size, (h2 k hk).2, fun hy => ?_⟩⟩, hb⟩
  · have := (h1.lt k hk).2
    have := (k1.lt k hy).1
    omega
  · have := (h2 k hk).1
    have := (k1.lt k hy).1
    omega
end
end Go.Proofs.YtfoncphdbaaedaaGreatDoor
