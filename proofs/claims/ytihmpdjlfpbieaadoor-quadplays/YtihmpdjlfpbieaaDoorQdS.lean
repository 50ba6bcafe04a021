/- Contracts of the document's tree over this translation: Move, Drop. Each returns what the plain functions say; nothing else that was there is changed. -/
import Derived.Test.YtihmpdjlfpbieaaDoorQdR
import Derived.Maps.AppendAt
namespace Go.Proofs.YtihmpdjlfpbieaaDoor
open Go.RowKit
set_option linter.unusedVariables false
theorem Tryd.info66 : (Tryd.prog.info? 66).map (fun i => (i.zero, i.size, i.bytes)) = some (some (.agg #[.int .i64 0, .int .i64 0, .int .i64 0]), 3, 24) := by kernel_rfl
theorem marks_cell (S : List Mk) : ∀ u ∈ flatG Mk.cs S, u.oneCell' = true := by
  intro u hu
  obtain ⟨a, _, hu⟩ := List.mem_flatMap.1 hu
  simp [Mk.cs] at hu
  rcases hu with rfl | rfl | rfl <;> rfl
/-- append at a step of a region that draws: whatever is appended, nothing too -/
theorem step_append_any {P : Program} {w : World} {ops : Array Oper} {o : Oper} {a : Act} {K : Act → World → Prop} {Q : Exit → Act → World → Prop} {E : Prop} (hgd : o.guard = none) (s x : Operand) (t : TypeId)
    (ho : o.op = .call { callee := .builtin .append, args := #[s, x], argTypes := #[t, t] })
    (base : Nat) (e : TypeId) (i : TypeInfo) (z : Value) (size bytes : Nat) (ht : P.underlying t = some (.slice e)) (hi : P.info? e = some i) (hz : i.zero = some z)
    (hsize : i.size = size) (hby : i.bytes = bytes) (hzs : z.cells.size = size) (hsz : 0 < size)
    (v : Value) (n : Nat) (xs : List Value) (hs : a.eval s = v) (hown : w.ownsRow base e size v n xs)
    (ad : Addr) (m c : Nat) (news : List Value) (hx : a.eval x = .slice (some ad) m c) (hl : news.length = m * size) (hnews : ∀ j u, news[j]? = some u → w.cell? (ad.add j) = some u) (h1 : ∀ u ∈ news, u.oneCell' = true)
    (h63 : n + m ≤ maxLen) (hbytes : (n + m) * bytes ≤ 140737488355328) (hbase : base ≤ w.heap.size)
    (h : ∀ v' w', w'.ownsRow base e size v' (n + m) (xs ++ news) → w.grownBy w' v.ownBlock → (v'.ownBlock = v.ownBlock ∨ v'.ownBlock = some w.heap.size) → K (a.put o.dst v') w') :
    if Region.wanted o (yielded ops a.tmps) = true then Oper.wp P o a w K Q else E := by
  rw [if_pos (by simp [Region.wanted, hgd])]
  obtain ⟨v', w', hr, h2, h3, _, h5⟩ := run_append_own_at (P := P) w base t o.type e i z size bytes ht hi hz hsize hby hzs hsz v n xs hown ad m c news hl hnews h1 h63 hbytes hbase
  unfold Oper.wp execOp
  simp only [ho, resolve, invoke, builtin, Sem.run_bind, Sem.run_pure, Result.andThen_ok, List.map_toArray, List.map_cons, List.map_nil, hs, hx, hr]
  exact h v' w' h2 h3 h5
def rmvE (id x y : Int) (S : List Mk) : Int := if rfI id S < 0 then 15 else if onB x y = false then 14 else 0
def setM (S : List Mk) (k : Nat) (x y : Int) : List Mk := S.modify k fun s => ⟨s.id, x, y⟩
def rmvS (id x y : Int) (S : List Mk) : List Mk := if rmvE id x y S = 0 then setM S (rfI id S).toNat x y else S
def rdrE (id : Int) (S : List Mk) : Int := if rfI id S < 0 then 15 else 0
def rdrS (id : Int) (S : List Mk) : List Mk := if rfI id S < 0 then S else delS S (rfI id S).toNat
theorem setM_length (S : List Mk) (k : Nat) (x y : Int) : (setM S k x y).length = S.length := by simp [setM]
theorem setM_flat (x y : Int) : ∀ (S : List Mk) (k : Nat), k < S.length → flatG Mk.cs (setM S k x y) = ((flatG Mk.cs S).set (k * 3 + 1) (.int .i64 x)).set (k * 3 + 2) (.int .i64 y)
  | [], k, h => by simp at h
  | a :: l, 0, h => by simp [setM, flatG, Mk.cs]
  | a :: l, k + 1, h => by
    have ih := setM_flat x y l k (by simpa using h)
    have e1 : flatG Mk.cs (a :: l) = .int .i64 a.id :: .int .i64 a.x :: .int .i64 a.y :: flatG Mk.cs l := rfl
    have e2 : flatG Mk.cs (setM (a :: l) (k + 1) x y) = .int .i64 a.id :: .int .i64 a.x :: .int .i64 a.y :: flatG Mk.cs (setM l k x y) := by simp [setM, flatG, Mk.cs]
    rw [e1, e2, ih, show (k + 1) * 3 + 1 = k * 3 + 1 + 3 by omega, show (k + 1) * 3 + 2 = k * 3 + 2 + 3 by omega]
    simp only [List.set_cons_succ]
theorem ron_at {x y : Int} {q : Bool} (h : Hid (onB x y = q)) (w : World) : Calls Tryd.prog 24 #[pt x y] w fun e w' => e = .returned (.bool q) ∧ Below w.heap.size w w' := by
  rw [← h.out]; exact ref_on w x y
set_option maxHeartbeats 1000000 in
set_option maxRecDepth 100000 in
theorem ref_move {w : World} {base tb : Nat} {v : Value} {S : List Mk} (h : RT w base tb v S) (id x y : Int) :
    Calls Tryd.prog 13 #[.pointer (some ⟨tb, 0, none⟩), .int .i64 id, pt x y] w fun e w' => e = .returned (.int .i64 (rmvE id x y S)) ∧ RTurned w base tb v (rmvS id x y S) w' := by
  obtain ⟨W0, hW0⟩ : ∃ W0, W0 = w.alloc (.cells #[.int .i64 x, .int .i64 y] 31) := ⟨_, rfl⟩
  have hB0 : Below w.heap.size w W0 := by rw [hW0]; exact below1 _ _
  have hP := hid (show W0.heap[w.heap.size]? = some (.cells #[.int .i64 x, .int .i64 y] 31 (0, 0)) by rw [hW0]; exact new_at _ _ _ rfl)
  have hlt0 : w.heap.size < W0.heap.size := lt_of_at hP.out
  have HT := hid (h.later hB0)
  have HT0 := hid h
  clear h
  obtain ⟨r, hr⟩ : ∃ r, Hid (rfI id S = r) := ⟨_, rfl⟩
  have C := ref_find HT.out hr
  by_cases h1 : r < 0
  · have he : rmvE id x y S = 15 := by simp [rmvE, hr.out, h1]
    have hs : rmvS id x y S = S := by simp [rmvS, he]
    rw [he, hs]
    clear he hs
    go_enter Tryd.func13, Tryd.ntmps13
    go_wp2_with fail
    rw [← hW0]
    clear hW0
    refine C.mono ?_
    rintro z W1 ⟨rfl, hw1⟩
    rw [hw1]
    clear hw1
    go_wp2
    go_ret
    exact ⟨rfl, RTurned.kept HT0.out hB0⟩
  by_cases h2 : onB x y = false
  · have he : rmvE id x y S = 14 := by simp [rmvE, hr.out, h1, h2]
    have hs : rmvS id x y S = S := by simp [rmvS, he]
    rw [he, hs]
    have h2h := hid h2
    clear he hs h2
    go_enter Tryd.func13, Tryd.ntmps13
    go_wp2_with fail
    rw [← hW0]
    clear hW0
    refine C.mono ?_
    rintro z W1 ⟨rfl, hw1⟩
    rw [hw1]
    clear hw1 C
    have hp := cells_at hP.out
    go_wp2_with fail
    refine (ron_at h2h W0).mono ?_
    rintro z W2 ⟨rfl, hb2⟩
    go_wp2
    go_ret
    exact ⟨rfl, RTurned.kept HT0.out (below_on hB0 hb2)⟩
  have h2' : onB x y = true := by simpa using h2
  have hlt := rfI_lt (id := id) (S := S) (by rw [hr.out]; omega)
  have he : rmvE id x y S = 0 := by simp [rmvE, hr.out, h1, h2']
  have hs : rmvS id x y S = setM S r.toNat x y := by simp [rmvS, he, hr.out]
  rw [he, hs]
  rw [hr.out] at hlt
  have h2h := hid h2'
  clear he hs h2 h2'
  obtain ⟨k, rfl⟩ : ∃ k : Nat, r = k := ⟨r.toNat, by omega⟩
  simp only [Int.toNat_natCast] at hlt ⊢
  obtain ⟨p, cap, rfl, hrow, hcap, hmax⟩ := HT.out.row
  have hmax' : cap ≤ 9223372036854775807 := hmax
  obtain ⟨g, rfl, hg1, hg2, -, -⟩ := owns_some HT0.out.own (by omega)
  have hne : tb ≠ g := fun e => HT0.out.ne (mem_ob.2 (by rw [e]; rfl))
  obtain ⟨n, hn⟩ : ∃ n, Hid (S.length = n) := ⟨_, rfl⟩
  have hkn : (k : Int) < (n : Int) := by rw [← hn.out]; omega
  have hkn' : k < n := by rw [← hn.out]; exact hlt
  have HL := hid hlt
  rw [hn.out] at HT HT0 hcap ⊢
  clear hrow hlt
  go_enter Tryd.func13, Tryd.ntmps13
  go_wp2_with fail
  rw [← hW0]
  clear hW0
  refine C.mono ?_
  rintro z W1 ⟨rfl, hw1⟩
  rw [hw1]
  clear hw1 C
  have hp := cells_at hP.out
  go_wp2_with fail
  refine (ron_at h2h W0).mono ?_
  rintro z W2 ⟨rfl, hb2⟩
  clear hp
  have hT2 := HT.out.later hb2
  have hp := cells_at (var_on hb2 hP.out hlt0)
  have hc := cells_at hT2.at_
  have own2 : W2.ownsRow base 66 3 (.slice (some ⟨g, 0, none⟩) n cap) n (flatG Mk.cs S) := by rw [← hn.out]; rw [← hn.out] at hT2; exact hT2.own
  have fl : (flatG Mk.cs S).length = n * 3 := own2.1
  have d1 : (W2.cell? ⟨g, k * 3 + 1, none⟩).isSome = true := by rw [own2.cellAt _ (by omega), List.getElem?_eq_getElem (by omega)]; rfl
  have d2 : (W2.cell? ⟨g, k * 3 + 2, none⟩).isSome = true := by rw [own2.cellAt _ (by omega), List.getElem?_eq_getElem (by omega)]; rfl
  obtain ⟨u1, d1⟩ := Option.isSome_iff_exists.1 d1
  obtain ⟨u2, d2⟩ := Option.isSome_iff_exists.1 d2
  have z1 := own2.frozenAt (k * 3 + 1)
  have z2 := own2.frozenAt (k * 3 + 2)
  have OWN := hid own2
  have HT2 := hid hT2
  clear hT2 own2 fl
  have hgW : g ≠ w.heap.size := by omega
  go_wp2_with fail
  go_region
  all_goals
    go_wp2
    go_ret
    refine ⟨rfl, ?_⟩
    refine RTurned.behind (below_on hB0 hb2) ?_
    have o1 := (OWN.out.stored (k * 3 + 1) (.int .i64 x)).1
    have o2 := (o1.stored (k * 3 + 2) (.int .i64 y)).1
    have a2 := HT2.out.at_
    have fin : RTurned W2 base tb (.slice (some ⟨g, 0, none⟩) n cap) (setM S k x y) ((W2.setCell ⟨g, k * 3 + 1, none⟩ (.int .i64 x)).setCell ⟨g, k * 3 + 2, none⟩ (.int .i64 y)) := by
      refine ⟨.slice (some ⟨g, 0, none⟩) n cap, ⟨set_off (set_off a2 hne _) hne _, ?_, HT2.out.ne, HT2.out.lo⟩, ?_, fun k hk => .inl hk⟩
      · rw [setM_length, hn.out, setM_flat x y S k HL.out]
        exact o2
      · have hm : ∀ y, y ∈ [g] → y ∈ tb :: ob (.slice (some ⟨g, 0, none⟩) n cap) := fun y hy => by
          rw [List.mem_singleton.1 hy]
          exact List.mem_cons_of_mem _ (mem_ob.2 rfl)
        have t1 : Off (tb :: ob (.slice (some ⟨g, 0, none⟩) n cap)) W2 (W2.setCell ⟨g, k * 3 + 1, none⟩ (.int .i64 x)) := (Off.refl _ W2).trans (Off.setCell W2 g _ _) (fun y hy => .inl (hm y hy))
        exact t1.trans (Off.setCell _ g _ _) (fun y hy => .inl (hm y hy))
    obtain ⟨v', f1, f2, f3⟩ := fin
    exact ⟨v', ⟨f1.at_, f1.own, f1.ne, f1.lo⟩, ⟨f2.os, f2.tape, f2.output, f2.size, f2.block⟩, f3⟩
set_option maxHeartbeats 2000000 in
set_option maxRecDepth 100000 in
theorem ref_drop {w : World} {base tb : Nat} {v : Value} {S : List Mk} (h : RT w base tb v S) (hl : S.length ≤ 1000) (hbase : base ≤ w.heap.size) (id : Int) :
    Calls Tryd.prog 15 #[.pointer (some ⟨tb, 0, none⟩), .int .i64 id] w fun e w' => e = .returned (.int .i64 (rdrE id S)) ∧ RTurned w base tb v (rdrS id S) w' := by
  have HT := hid h
  clear h
  obtain ⟨r, hr⟩ : ∃ r, Hid (rfI id S = r) := ⟨_, rfl⟩
  have C := ref_find HT.out hr
  by_cases h1 : r < 0
  · have he : rdrE id S = 15 := by simp [rdrE, hr.out, h1]
    have hs : rdrS id S = S := by simp [rdrS, hr.out, h1]
    rw [he, hs]
    clear he hs
    go_enter Tryd.func15, Tryd.ntmps15
    go_wp2_with fail
    refine C.mono ?_
    rintro z W1 ⟨rfl, hw1⟩
    rw [hw1]
    clear hw1
    go_wp2
    go_ret
    exact ⟨rfl, RTurned.kept HT.out (Below.refl _ _)⟩
  · have hlt := rfI_lt (id := id) (S := S) (by rw [hr.out]; omega)
    have he : rdrE id S = 0 := by simp [rdrE, hr.out, h1]
    have hs : rdrS id S = delS S r.toNat := by simp [rdrS, hr.out, h1]
    rw [he, hs]
    rw [hr.out] at hlt
    clear he hs
    obtain ⟨k, rfl⟩ : ∃ k : Nat, r = k := ⟨r.toNat, by omega⟩
    simp only [Int.toNat_natCast] at hlt ⊢
    obtain ⟨p, cap, rfl, hrow, hcap, hmax⟩ := HT.out.row
    have hmax' : cap ≤ 9223372036854775807 := hmax
    obtain ⟨g, rfl, hg1, hg2, -, -⟩ := owns_some HT.out.own (by omega)
    have hne : tb ≠ g := fun e => HT.out.ne (mem_ob.2 (by rw [e]; rfl))
    obtain ⟨i0, hi0, hz0, hz1, hz2⟩ := info_parts3 Tryd.info66
    obtain ⟨n, hn⟩ : ∃ n, Hid (S.length = n) := ⟨_, rfl⟩
    obtain ⟨A, hA⟩ : ∃ A, Hid (A = flatG Mk.cs (S.take k)) := ⟨_, rfl⟩
    obtain ⟨B, hB⟩ : ∃ B, Hid (B = flatG Mk.cs (S.drop (k + 1))) := ⟨_, rfl⟩
    have lA : Hid (A.length = k * 3) := by show A.length = k * 3; rw [hA.out, flatG_length Mk.z, List.length_take, Nat.min_eq_left (by omega)]
    have lB : Hid (B.length = (n - (k + 1)) * 3) := by show B.length = _; rw [hB.out, flatG_length Mk.z, List.length_drop, hn.out]
    have cA : Hid (∀ u ∈ A, u.oneCell' = true) := by rw [hA.out]; exact marks_cell _
    have cB : Hid (∀ u ∈ B, u.oneCell' = true) := by rw [hB.out]; exact marks_cell _
    have hread := owns_read HT.out.own
    have nA : Hid (∀ j u, A[j]? = some u → w.cell? ((⟨g, 0, none⟩ : Addr).add j) = some u) := fun j u hu => by
      rw [Addr.add_lit, Nat.zero_add]
      refine hread _ _ ?_
      rw [hA.out, ← flatG_take Mk.z, List.getElem?_take] at hu
      split at hu
      · exact hu
      · cases hu
    obtain ⟨D, hD, nB⟩ : ∃ D : Addr, (if cap = k + 1 then some (⟨g, 0, none⟩ : Addr) else some ⟨g, (k + 1) * 3, none⟩) = some D ∧ Hid (∀ j u, B[j]? = some u → w.cell? (D.add j) = some u ∧ (D.add j).block = g) := by
      by_cases hc : cap = k + 1
      · refine ⟨⟨g, 0, none⟩, by simp [hc], fun t u hu => ?_⟩
        have h0 : B.length = 0 := by rw [lB.out]; rw [hn.out] at hcap; omega
        rw [List.length_eq_zero_iff.1 h0] at hu
        simp at hu
      · refine ⟨⟨g, (k + 1) * 3, none⟩, by simp [hc], fun t u hu => ?_⟩
        rw [Addr.add_lit]
        refine ⟨hread _ _ ?_, rfl⟩
        rw [hB.out, ← flatG_drop Mk.z, List.getElem?_drop] at hu
        exact hu
    have hres : Hid (A ++ B = flatG Mk.cs (delS S k)) := by show A ++ B = _; rw [hA.out, hB.out]; unfold delS; rw [flatG_append]
    have hdl : Hid ((delS S k).length = n - 1) := by show (delS S k).length = _; rw [delS_length hlt, hn.out]
    rw [hn.out] at HT hcap hl hlt ⊢
    clear hrow hread
    have j1 : (k : Int) + 1 ≤ (n : Int) := by omega
    have j2 : (k : Int) ≤ (cap : Int) := by omega
    have j3 : (0 : Int) ≤ (k : Int) + 1 := by omega
    have j4 : k ≤ cap := by omega
    have j5 : k + 1 ≤ n := by omega
    have j6 : k + 1 ≤ cap := by omega
    have j7 : IntKind.i64.wrap ((k : Int) + 1) = (k : Int) + 1 := by rw [IntKind.wrap_i64]; omega
    have j8 : ((k : Int) + 1).toNat = k + 1 := by omega
    have HLT := hid hlt
    have hcell := cells_at HT.out.at_
    go_enter Tryd.func15, Tryd.ntmps15
    go_wp2_with fail
    refine C.mono ?_
    rintro z W1 ⟨rfl, hw1⟩
    rw [hw1]
    clear hw1 C
    go_wp2_with fail
    go_region_law (first
      | (refine step_append_any rfl (.const (.slice none 0 0)) (.tmp 17) 27 rfl base 66 i0 (.agg #[.int .i64 0, .int .i64 0, .int .i64 0]) 3 24 Tryd.underlying27 hi0 hz0 hz1 hz2 rfl (by decide) (.slice none 0 0) 0 [] (by simp [Act.eval]) (World.ownsRow_nil _ _ _ _) ⟨g, 0, none⟩ k cap A (by simp [Act.eval, Act.put]) lA.out nA.out cA.out (by unfold maxLen; omega) (by omega) (by simp; omega) ?_; intro v1 w1 hown1 hgrow1 hor1
         have hc1 := cells_at (show w1.heap[tb]? = some (.cells #[.slice (some ⟨g, 0, none⟩) n cap] 29 (0, 0)) by rw [hgrow1.block tb (lt_of_at HT.out.at_) (by simp [Value.ownBlock])]; exact HT.out.at_)
         have nB1 : Hid (∀ j u, B[j]? = some u → w1.cell? (D.add j) = some u) := fun j u hu => by
           obtain ⟨e1, e2⟩ := nB.out j u hu
           rw [hgrow1.cell_far _ (by rw [e2]; exact hg2) (by simp [Value.ownBlock])]
           exact e1
         have hsz1 : base ≤ w1.heap.size := Nat.le_trans hbase hgrow1.size)
      | (refine step_append_any rfl (.tmp 18) (.tmp 25) 27 rfl base 66 i0 (.agg #[.int .i64 0, .int .i64 0, .int .i64 0]) 3 24 Tryd.underlying27 hi0 hz0 hz1 hz2 rfl (by decide) v1 (0 + k) ([] ++ A) (by simp [Act.eval, Act.put]) hown1 D (n - (k + 1)) (cap - (k + 1)) B (by simp [Act.eval, Act.put]) lB.out nB1.out cB.out (by unfold maxLen; omega) (by omega) hsz1 ?_; intro v2 w2 hown2 hgrow2 hor2
         have hne2 : some tb ≠ v1.ownBlock := fun e => by
           have := hown1.lt tb e.symm
           rcases hor1 with h | h
           · rw [h] at e; simp [Value.ownBlock] at e
           · rw [h] at e
             have := lt_of_at HT.out.at_
             have e' := Option.some.inj e
             simp at e'
             omega
         have hc2 := cells_at (show w2.heap[tb]? = some (.cells #[.slice (some ⟨g, 0, none⟩) n cap] 29 (0, 0)) by rw [hgrow2.block tb (Nat.lt_of_lt_of_le (lt_of_at HT.out.at_) hgrow1.size) hne2, hgrow1.block tb (lt_of_at HT.out.at_) (by simp [Value.ownBlock])]; exact HT.out.at_)
         obtain ⟨p2, c2, rfl⟩ := owns_slice hown2))
    all_goals
      go_wp2
      go_ret
      have hv1 : ∀ q, q < w.heap.size → some q ≠ v1.ownBlock := fun q hq e => by
        rcases hor1 with h | h
        · rw [h] at e; simp [Value.ownBlock] at e
        · rw [h] at e
          have e' := Option.some.inj e
          simp at e'
          omega
      have G : w.grownBy w2 (Value.slice (some ⟨g, 0, none⟩) n cap).ownBlock :=
        ⟨hgrow2.os.trans hgrow1.os, hgrow2.tape.trans hgrow1.tape, hgrow2.output.trans hgrow1.output, Nat.le_trans hgrow1.size hgrow2.size, fun q hq hne' => (hgrow2.block q (Nat.lt_of_lt_of_le hq hgrow1.size) (hv1 q hq)).trans (hgrow1.block q hq (by simp [Value.ownBlock]))⟩
      have e3 : 0 + k + (n - (k + 1)) = n - 1 := by omega
      have own3 : w2.ownsRow base 66 3 (.slice p2 (0 + k + (n - (k + 1))) c2) (delS S k).length (flatG Mk.cs (delS S k)) := by
        rw [hdl.out, ← hres.out, ← e3]
        exact hown2
      have hvv : ∀ q, (Value.slice p2 (0 + k + (n - (k + 1))) c2).ownBlock = some q → (Value.slice (some ⟨g, 0, none⟩) n cap).ownBlock = some q ∨ w.heap.size ≤ q := fun q hq => .inr (by
        rcases hor2 with h | h
        · rw [h] at hq
          rcases Nat.lt_or_ge q w.heap.size with hlt | hge
          · exact absurd hq.symm (hv1 q hlt)
          · exact hge
        · rw [h] at hq
          have e' := Option.some.inj hq
          rw [← e']; exact hgrow1.size)
      have hT0 := HT.out
      have fin := RT.stored (S' := delS S k) hT0 own3 G hvv
      simp only [Nat.zero_add] at fin hvv
      exact ⟨rfl, _, ⟨fin.1.at_, fin.1.own, fin.1.ne, fin.1.lo⟩, ⟨fin.2.os, fin.2.tape, fin.2.output, fin.2.size, fin.2.block⟩, fun q hq => (hvv q (mem_ob.1 hq)).imp (fun h => mem_ob.2 h) (fun h => h)⟩
end Go.Proofs.YtihmpdjlfpbieaaDoor
