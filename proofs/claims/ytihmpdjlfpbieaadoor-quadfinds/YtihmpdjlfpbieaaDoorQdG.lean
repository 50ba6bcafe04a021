/- Contract of the document's Minus over this translation, and plain facts: each point of a rectangle is in the other one or in just one of what is left. -/
import Derived.Test.YtihmpdjlfpbieaaDoorQdY
namespace Go.Proofs.YtihmpdjlfpbieaaDoor
open Go.RowKit
set_option linter.unusedVariables false
def kept (a m : Rc) (k : Nat) : List Rc := ((partsL a m).take k).filter (fun r => !emptyB r)
theorem kept_succ (a m : Rc) (k : Nat) {r : Rc} (h : (partsL a m)[k]? = some r) : kept a m (k + 1) = kept a m k ++ (if emptyB r then [] else [r]) := by
  unfold kept
  rw [List.take_add_one, h, List.filter_append]
  cases he : emptyB r <;> simp [he]
theorem kept_le (a m : Rc) (k : Nat) : (kept a m k).length ≤ 4 := by
  unfold kept
  exact Nat.le_trans (List.length_filter_le _ _) (by simp [partsL]; omega)
theorem kept_skip {a m : Rc} {k : Nat} {r : Rc} (h : (partsL a m)[k]? = some r) (he : emptyB r = true) : kept a m (k + 1) = kept a m k := by
  rw [kept_succ a m k h, he]; simp
theorem kept_add {a m : Rc} {k : Nat} {r : Rc} (h : (partsL a m)[k]? = some r) (he : emptyB r = false) : kept a m (k + 1) = kept a m k ++ [r] := by
  rw [kept_succ a m k h, he]; simp
theorem minus_kept {a b m : Rc} (ha : emptyB a = false) (hm : meetR a b = m) (hq : emptyB m = false) : minusL a b = kept a m 4 := by
  simp [minusL, ha, hm, hq, kept, partsL]
theorem minus_one {a b m : Rc} (ha : emptyB a = false) (hm : meetR a b = m) (hq : emptyB m = true) : minusL a b = [a] := by
  simp [minusL, ha, hm, hq]
theorem flat_one (r : Rc) : flat [r] = [.int .i64 r.x0, .int .i64 r.y0, .int .i64 r.x1, .int .i64 r.y1] := rfl
theorem flat_get (l : List Rc) (k : Nat) (r : Rc) (h : l[k]? = some r) :
    (flat l)[k * 4]? = some (.int .i64 r.x0) ∧ (flat l)[k * 4 + 1]? = some (.int .i64 r.y0) ∧ (flat l)[k * 4 + 2]? = some (.int .i64 r.x1) ∧ (flat l)[k * 4 + 3]? = some (.int .i64 r.y1) := by
  induction l generalizing k with
  | nil => simp at h
  | cons a l ih =>
    cases k with
    | zero =>
      simp at h
      subst h
      simp [flat]
    | succ k =>
      have := ih k (by simpa using h)
      have e : flat (a :: l) = [.int .i64 a.x0, .int .i64 a.y0, .int .i64 a.x1, .int .i64 a.y1] ++ flat l := rfl
      rw [e]
      refine ⟨?_, ?_, ?_, ?_⟩ <;> rw [List.getElem?_append_right (by simp; omega)]
      · rw [show (k + 1) * 4 - [Value.int IntKind.i64 a.x0, .int .i64 a.y0, .int .i64 a.x1, .int .i64 a.y1].length = k * 4 by simp; omega]; exact this.1
      · rw [show (k + 1) * 4 + 1 - [Value.int IntKind.i64 a.x0, .int .i64 a.y0, .int .i64 a.x1, .int .i64 a.y1].length = k * 4 + 1 by simp; omega]; exact this.2.1
      · rw [show (k + 1) * 4 + 2 - [Value.int IntKind.i64 a.x0, .int .i64 a.y0, .int .i64 a.x1, .int .i64 a.y1].length = k * 4 + 2 by simp; omega]; exact this.2.2.1
      · rw [show (k + 1) * 4 + 3 - [Value.int IntKind.i64 a.x0, .int .i64 a.y0, .int .i64 a.x1, .int .i64 a.y1].length = k * 4 + 3 by simp; omega]; exact this.2.2.2
def RowOf (w : World) (l : List Rc) : Ending → World → Prop := fun e w' => ∃ v, e = .returned v ∧ w'.ownsRow w.heap.size 33 4 v l.length (flat l) ∧ Below w.heap.size w w'
theorem Tryd.info33 : (Tryd.prog.info? 33).map (fun i => (i.zero, i.size, i.bytes)) = some (some (rc 0 0 0 0), 4, 32) := by kernel_rfl
theorem cell_parts {W : World} {g : Nat} {a0 a1 a2 a3 m0 m1 m2 m3 : Int} (h : W.heap[g]? = some (.cells #[.int .i64 a0, .int .i64 a1, .int .i64 a2, .int .i64 m1, .int .i64 a0, .int .i64 m3, .int .i64 a2, .int .i64 a3, .int .i64 a0, .int .i64 m1, .int .i64 m0, .int .i64 m3, .int .i64 m2, .int .i64 m1, .int .i64 a2, .int .i64 m3] 79 (0, 0))) (k : Nat) (hk : k < 4) :
    ∃ p0 p1 p2 p3 : Int, Hid ((partsL ⟨a0, a1, a2, a3⟩ ⟨m0, m1, m2, m3⟩)[k]? = some ⟨p0, p1, p2, p3⟩) ∧
    W.cell? ⟨g, k * 4, none⟩ = some (.int .i64 p0) ∧ W.cell? ⟨g, k * 4 + 1, none⟩ = some (.int .i64 p1) ∧ W.cell? ⟨g, k * 4 + 2, none⟩ = some (.int .i64 p2) ∧ W.cell? ⟨g, k * 4 + 3, none⟩ = some (.int .i64 p3) := by
  have : k = 0 ∨ k = 1 ∨ k = 2 ∨ k = 3 := by omega
  rcases this with rfl | rfl | rfl | rfl
  · exact ⟨a0, a1, a2, m1, rfl, Go.Joins.cell_of_block h 0, Go.Joins.cell_of_block h 1, Go.Joins.cell_of_block h 2, Go.Joins.cell_of_block h 3⟩
  · exact ⟨a0, m3, a2, a3, rfl, Go.Joins.cell_of_block h 4, Go.Joins.cell_of_block h 5, Go.Joins.cell_of_block h 6, Go.Joins.cell_of_block h 7⟩
  · exact ⟨a0, m1, m0, m3, rfl, Go.Joins.cell_of_block h 8, Go.Joins.cell_of_block h 9, Go.Joins.cell_of_block h 10, Go.Joins.cell_of_block h 11⟩
  · exact ⟨m2, m1, a2, m3, rfl, Go.Joins.cell_of_block h 12, Go.Joins.cell_of_block h 13, Go.Joins.cell_of_block h 14, Go.Joins.cell_of_block h 15⟩
set_option maxHeartbeats 2000000 in
theorem ref_minus (w : World) (a0 a1 a2 a3 b0 b1 b2 b3 : Int) : Calls Tryd.prog 26 #[rc a0 a1 a2 a3, rc b0 b1 b2 b3] w (RowOf w (minusL ⟨a0, a1, a2, a3⟩ ⟨b0, b1, b2, b3⟩)) := by
  obtain ⟨i0, hi, hz0, hz1, hz2⟩ := info_parts3 Tryd.info33
  obtain ⟨m0, m1, m2, m3, hm⟩ : ∃ m0 m1 m2 m3 : Int, Hid (meetR ⟨a0, a1, a2, a3⟩ ⟨b0, b1, b2, b3⟩ = ⟨m0, m1, m2, m3⟩) := ⟨_, _, _, _, rfl⟩
  go_enter Tryd.func26, Tryd.ntmps26
  go_wp2_with fail
  go_at_call 42
  refine (ref_empty _ _ _ _ _).mono ?_
  rintro x w1 ⟨rfl, hb⟩
  have k0 : Hid (w1.heap[w.heap.size]? = some (ro a0 a1 a2 a3)) := var_on hb (by simp only [heap_alloc]; simp) (by simp; omega)
  have k1 : Hid (w1.heap[w.heap.size + 1]? = some (ro b0 b1 b2 b3)) := var_on hb (by simp only [heap_alloc]; simp) (by simp)
  have h0 := var4 k0.out
  have h1 := var4 k1.out
  have hB : Below w.heap.size w w1 := ((below1 _ _).alloc (by simp) _).trans (hb.mono (by simp; omega))
  have hl : w.heap.size + 1 < w1.heap.size := by have := hb.size; simp at this; omega
  clear hb
  cases hE : emptyB ⟨a0, a1, a2, a3⟩
  · go_wp2_with fail
    go_at_call 25
    refine (ref_meet_at hm _).mono ?_
    rintro x w2 ⟨rfl, hb⟩
    have k2 : Hid (w2.heap[w.heap.size]? = some (ro a0 a1 a2 a3)) := var_on hb k0.out (by omega)
    have hB2 := below_on hB hb
    have hl0 : w.heap.size < w2.heap.size := Nat.lt_of_lt_of_le (by omega) hb.size
    clear k0 k1 h0 h1 hb hB hl
    have hs2 := hB2.size
    go_wp2_with fail
    go_at_call 42
    refine (ref_empty _ _ _ _ _).mono ?_
    rintro x w3 ⟨rfl, hb⟩
    have h5 := var4 (var_on (g := w2.heap.size) hb (heap_alloc_new _ _) (by simp))
    have h2 := var4 (var_on (g := w.heap.size) (o := ro a0 a1 a2 a3) hb (by rw [heap_alloc, if_neg (by omega)]; exact k2.out) (by simp; omega))
    have hB3 := below_on (hB2.alloc hs2 _) hb
    have hs3 := hB3.size
    clear hb hB2 k2
    cases hq : emptyB ⟨m0, m1, m2, m3⟩
    · go_wp2_with fail
      have hB4 : Hid (Below w.heap.size w (w3.alloc (.cells #[.int .i64 a0, .int .i64 a1, .int .i64 a2, .int .i64 m1, .int .i64 a0, .int .i64 m3, .int .i64 a2, .int .i64 a3, .int .i64 a0, .int .i64 m1, .int .i64 m0, .int .i64 m3, .int .i64 m2, .int .i64 m1, .int .i64 a2, .int .i64 m3] 79))) := hB3.alloc hs3 _
      go_loopw [7, 8] (fun v i wr => ∃ (k : Nat) (L : List Rc), k ≤ 4 ∧ i = .int .i64 k ∧ Hid (L = kept ⟨a0, a1, a2, a3⟩ ⟨m0, m1, m2, m3⟩ k) ∧ wr.ownsRow (w3.heap.size + 1) 33 4 v L.length (flat L) ∧ Hid (wr.heap[w3.heap.size]? = some (.cells #[.int .i64 a0, .int .i64 a1, .int .i64 a2, .int .i64 m1, .int .i64 a0, .int .i64 m3, .int .i64 a2, .int .i64 a3, .int .i64 a0, .int .i64 m1, .int .i64 m0, .int .i64 m3, .int .i64 m2, .int .i64 m1, .int .i64 a2, .int .i64 m3] 79 (0, 0))) ∧ Below w.heap.size w wr) (fun _ i _ => 4 - (intOf i).toNat)
      case atStart => exact ⟨0, [], by omega, rfl, rfl, World.ownsRow_nil _ _ _ _, heap_alloc_new _ _, hB4.out⟩
      case round =>
        obtain ⟨k, L, hk, rfl, hL, ho, hA, hb⟩ := hrel
        clear hB4 hB3 h2 h5
        by_cases hlt : k < 4
        · have hlt' : (k : Int) < 4 := by omega
          have hlt0 : (0 : Int) ≤ (k : Int) := by omega
          have hn : L.length ≤ 4 := by rw [hL.out]; exact kept_le _ _ _
          obtain ⟨p0, p1, p2, p3, hp, hc⟩ := cell_parts hA.out k hlt
          have hs := hb.size
          have hw3 : w3.heap.size < wr.heap.size := (Array.getElem?_eq_some_iff.1 hA.out).1
          go_wp2_with fail
          go_at_call 42
          refine (ref_empty _ _ _ _ _).mono ?_
          rintro x w4 ⟨rfl, hb4⟩
          have ho4 := owns_on ho hb4
          have hB5 := below_on hb hb4
          have hA4 : Hid (w4.heap[w3.heap.size]? = some (.cells #[.int .i64 a0, .int .i64 a1, .int .i64 a2, .int .i64 m1, .int .i64 a0, .int .i64 m3, .int .i64 a2, .int .i64 a3, .int .i64 a0, .int .i64 m1, .int .i64 m0, .int .i64 m3, .int .i64 m2, .int .i64 m1, .int .i64 a2, .int .i64 m3] 79 (0, 0))) := var_on hb4 hA.out hw3
          have hs4 := hB5.size
          have hw4 : w3.heap.size < w4.heap.size := Nat.lt_of_lt_of_le hw3 hb4.size
          obtain ⟨q0, q1, q2, q3, hq', hc'⟩ := cell_parts hA4.out k hlt
          have eq' : q0 = p0 ∧ q1 = p1 ∧ q2 = p2 ∧ q3 = p3 := by
            have := hq'.out.symm.trans hp.out
            simpa using this
          obtain ⟨rfl, rfl, rfl, rfl⟩ := eq'
          clear hb4 ho hb hc hq'
          cases hF : emptyB ⟨q0, q1, q2, q3⟩
          · go_wp2_with (at_builtin; refine wpList_append_lies _ rfl _ _ 51 rfl (w3.heap.size + 1) 33 i0 (rc 0 0 0 0) 4 32 Tryd.underlying51 hi hz0 hz1 hz2 rfl (by decide) _ _ _ rfl (ho4.alloc _) ⟨w4.heap.size, 0, none⟩ 1 1 [.int .i64 q0, .int .i64 q1, .int .i64 q2, .int .i64 q3] rfl rfl (World.news_of_block (heap_alloc_new _ _)) (by intro u hu; simp at hu; rcases hu with rfl | rfl | rfl | rfl <;> rfl) (by decide) (by unfold maxLen; omega) (by omega) (by simp; omega) (w4.heap.size + 1) (by simp) ?_)
            intro g cap w5 hown hgrow hat hg4
            go_wp2
            go_roundw
            case rel =>
              refine ⟨k + 1, L ++ [⟨q0, q1, q2, q3⟩], by omega, by go_num, ?_, ?_, ?_, ?_⟩
              · exact (congrArg (· ++ [(⟨q0, q1, q2, q3⟩ : Rc)]) hL.out).trans (kept_add hp.out hF).symm
              · rw [flat_append, flat_one, List.length_append]; exact hown
              · show _ = _
                rw [hgrow.block w3.heap.size (by simp; omega) (fun e => by have := (ho4.lt _ e.symm).1; omega), heap_alloc, if_neg (by omega)]
                exact hA4.out
              · exact (hB5.alloc hs4 _).grown hgrow (by simp; omega) (fun k hk => by have := (ho4.lt k hk).1; omega)
            case measure => simp [intOf]; omega
          · go_wp2
            go_roundw
            case rel => exact ⟨k + 1, L, by omega, by go_num, hL.out.trans (kept_skip hp.out hF).symm, ho4, hA4, hB5⟩
            case measure => simp [intOf]; omega
        · have hk4 : k = 4 := by omega
          subst hk4
          go_wp2
          go_ret
          refine ⟨_, rfl, ?_, hb⟩
          rw [minus_kept hE hm.out hq, ← hL.out]
          exact Go.Joins.ownsRow_le ho (by omega)
    · go_wp2
      go_ret
      refine ⟨_, rfl, ?_, hB3.alloc hs3 _⟩
      rw [minus_one hE hm.out hq]
      exact World.ownsRow_lit (base := w.heap.size) (e := 33) (size := 4) w3 #[.int .i64 a0, .int .i64 a1, .int .i64 a2, .int .i64 a3] 1 hs3 (by decide) rfl
  · go_wp2
    go_ret
    refine ⟨_, rfl, ?_, hB⟩
    rw [minusL, if_pos hE]
    exact World.ownsRow_nil _ _ _ _
theorem row_at {W : World} {base g n cap : Nat} {L : List Rc} (h : W.ownsRow base 33 4 (.slice (some ⟨g, 0, none⟩) n cap) n (flat L)) {k : Nat} {r : Rc} (hk : L[k]? = some r) (hn : n = L.length) :
    W.cell? ⟨g, k * 4, none⟩ = some (.int .i64 r.x0) ∧ W.cell? ⟨g, k * 4 + 1, none⟩ = some (.int .i64 r.y0) ∧ W.cell? ⟨g, k * 4 + 2, none⟩ = some (.int .i64 r.x1) ∧ W.cell? ⟨g, k * 4 + 3, none⟩ = some (.int .i64 r.y1) := by
  have hlt : k < n := by rw [hn]; exact (List.getElem?_eq_some_iff.1 hk).1
  have hf := flat_get L k r hk
  rw [h.cellAt (k * 4) (by omega), h.cellAt (k * 4 + 1) (by omega), h.cellAt (k * 4 + 2) (by omega), h.cellAt (k * 4 + 3) (by omega)]
  exact hf
theorem get_rc (L : List Rc) (k : Nat) (hk : k < L.length) : ∃ p0 p1 p2 p3 : Int, L[k]? = some ⟨p0, p1, p2, p3⟩ := by
  obtain ⟨r, hr⟩ : ∃ r, L[k]? = some r := ⟨L[k], by simp [hk]⟩
  exact ⟨r.x0, r.y0, r.x1, r.y1, hr⟩
theorem minus_le (a b : Rc) : (minusL a b).length ≤ 4 := by
  unfold minusL
  split
  · simp
  · split
    · simp
    · exact Nat.le_trans (List.length_filter_le _ _) (by simp [partsL])
theorem run_min4 {P : Program} (ts : Array TypeId) (t : TypeId) (x y z u : Int) : ∃ n : Int, ∀ w : World, (Builtin.min_ ts t #[.int .i64 x, .int .i64 y, .int .i64 z, .int .i64 u]).run P w = .ok (.int .i64 n) w :=
  ⟨_, fun w => by simp [Builtin.min_, Builtin.min2]; rfl⟩
theorem run_max4 {P : Program} (ts : Array TypeId) (t : TypeId) (x y z u : Int) : ∃ n : Int, ∀ w : World, (Builtin.max_ ts t #[.int .i64 x, .int .i64 y, .int .i64 z, .int .i64 u]).run P w = .ok (.int .i64 n) w :=
  ⟨_, fun w => by simp [Builtin.max_, Builtin.max2]; rfl⟩
/-- what both have, by cases -/
theorem meet_cases (a b : Rc) : (meetR a b = ⟨max a.x0 b.x0, max a.y0 b.y0, min a.x1 b.x1, min a.y1 b.y1⟩ ∧ max a.x0 b.x0 < min a.x1 b.x1 ∧ max a.y0 b.y0 < min a.y1 b.y1) ∨
    (meetR a b = ⟨0, 0, 0, 0⟩ ∧ (min a.x1 b.x1 ≤ max a.x0 b.x0 ∨ min a.y1 b.y1 ≤ max a.y0 b.y0)) := by
  unfold meetR
  simp only
  split
  · rename_i h
    right
    simp [emptyB] at h
    exact ⟨rfl, by omega⟩
  · rename_i h
    left
    simp [emptyB] at h
    exact ⟨rfl, by omega, by omega⟩
theorem in_meet (a b : Rc) (x y : Int) : inB (meetR a b) x y = (inB a x y && inB b x y) := by
  rcases meet_cases a b with ⟨h, p⟩ | ⟨h, p⟩ <;> rw [h] <;> rw [Bool.eq_iff_iff] <;> simp [inB] <;> omega
theorem in_empty {r : Rc} (h : emptyB r = true) (x y : Int) : inB r x y = false := by
  simp [emptyB] at h
  cases hi : inB r x y
  · rfl
  · simp [inB] at hi
    omega
theorem minus_cases (a b : Rc) : (emptyB a = true ∧ minusL a b = []) ∨ (emptyB a = false ∧ emptyB (meetR a b) = true ∧ minusL a b = [a]) ∨
    (emptyB a = false ∧ emptyB (meetR a b) = false ∧ minusL a b = (partsL a (meetR a b)).filter (fun r => !emptyB r)) := by
  cases h1 : emptyB a
  · cases h2 : emptyB (meetR a b)
    · exact .inr (.inr ⟨rfl, rfl, by simp [minusL, h1, h2]⟩)
    · exact .inr (.inl ⟨rfl, rfl, by simp [minusL, h1, h2]⟩)
  · exact .inl ⟨rfl, by simp [minusL, h1]⟩
def cntL (l : List Rc) (x y : Int) : Nat := l.countP (fun r => inB r x y)
theorem cnt_filter (l : List Rc) (x y : Int) : cntL (l.filter (fun r => !emptyB r)) x y = cntL l x y := by
  induction l with
  | nil => rfl
  | cons r l ih =>
    unfold cntL at ih ⊢
    cases h : emptyB r
    · simp [h, List.countP_cons, ih]
    · simp [h, ih, in_empty h]
theorem cnt_parts (a m : Rc) (x y : Int) (h0 : a.x0 ≤ m.x0) (h1 : m.x0 < m.x1) (h2 : m.x1 ≤ a.x1) (h3 : a.y0 ≤ m.y0) (h4 : m.y0 < m.y1) (h5 : m.y1 ≤ a.y1) :
    cntL (partsL a m) x y = if inB a x y && !inB m x y then 1 else 0 := by
  simp only [cntL, partsL, List.countP_cons, List.countP_nil, inB, Bool.and_eq_true, Bool.not_eq_true', Bool.and_eq_false_iff, decide_eq_true_eq, decide_eq_false_iff_not]
  repeat' split
  all_goals omega
theorem minus_count (a b : Rc) (x y : Int) : cntL (minusL a b) x y = if inB a x y && !inB b x y then 1 else 0 := by
  have hi := in_meet a b x y
  rcases minus_cases a b with ⟨h1, h⟩ | ⟨h1, h2, h⟩ | ⟨h1, h2, h⟩ <;> rw [h]
  · simp [cntL, in_empty h1]
  · rw [in_empty h2] at hi
    cases ha : inB a x y <;> cases hb : inB b x y <;> simp [ha, hb] at hi ⊢ <;> simp [cntL, ha]
  · rw [cnt_filter]
    rcases meet_cases a b with ⟨k, p⟩ | ⟨k, p⟩
    · rw [k] at hi ⊢
      rw [cnt_parts _ _ _ _ (by simp; omega) (by simp; omega) (by simp; omega) (by simp; omega) (by simp; omega) (by simp; omega), hi]
      cases ha : inB a x y <;> cases hb : inB b x y <;> simp
    · rw [k] at h2
      simp [emptyB] at h2
end Go.Proofs.YtihmpdjlfpbieaaDoor
