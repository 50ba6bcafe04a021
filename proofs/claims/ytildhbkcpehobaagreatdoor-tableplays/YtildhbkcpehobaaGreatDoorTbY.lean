/- Contract of the statements' alike over this translation: a table that holds a row answers all that is asked as the row does. No conditions beyond those typed. -/
import Derived.Test.YtildhbkcpehobaaGreatDoorTbS
import Derived.Test.YtildhbkcpehobaaGreatDoorTbO
import Derived.Test.YtildhbkcpehobaaGreatDoorCells2
namespace Go.Proofs.YtildhbkcpehobaaGreatDoor
open Go.RowKit Go.Maps
set_option linter.unusedVariables false
abbrev St.v (s : St) : Value := .agg #[.int .i64 s.k, .int .i64 s.c, .int .i64 s.t.id, .int .i64 s.t.x, .int .i64 s.t.y, .int .i64 s.t.f0.n, .string s.t.f0.s, .int .i64 s.t.f1.n, .string s.t.f1.s, .int .i64 s.t.f2.n, .string s.t.f2.s, .int .i64 s.t.f3.n, .string s.t.f3.s, .int .i64 s.r0, .int .i64 s.r1, .int .i64 s.r2, .int .i64 s.r3]
abbrev St.o (s : St) : Obj := .cells #[.int .i64 s.k, .int .i64 s.c, .int .i64 s.t.id, .int .i64 s.t.x, .int .i64 s.t.y, .int .i64 s.t.f0.n, .string s.t.f0.s, .int .i64 s.t.f1.n, .string s.t.f1.s, .int .i64 s.t.f2.n, .string s.t.f2.s, .int .i64 s.t.f3.n, .string s.t.f3.s, .int .i64 s.r0, .int .i64 s.r1, .int .i64 s.r2, .int .i64 s.r3] 37 (0, 0)
theorem same_at {w : World} {p p' : Option Addr} {cap cap' : Nat} {L : List Th} {n : Nat} (hr : RowT w p L) (hr' : RowT w p' L) (hn : Hid (L.length = n)) (hl : n ≤ 999) :
    Calls Tryz.prog 16 #[.slice p n cap, .slice p' n cap'] w fun e w' => e = .returned (.bool true) ∧ Below w.heap.size w w' := by
  have h := ref_sameAll w p p' cap cap' L L hr hr' (by rw [hn.out]; unfold maxLen; omega) (by rw [hn.out]; unfold maxLen; omega)
  rw [sameL_self, hn.out] at h
  exact h
/-- the operation of number k -/
def nthIs : List Oper → Nat → Oper → Prop
  | [], _, _ => False
  | a :: _, 0, b => a = b
  | _ :: l, k + 1, b => nthIs l k b
theorem nth_is : ∀ {l : List Oper} {k : Nat} {o : Oper}, nthIs l k o → l.toArray[k]? = some o
  | [], _, _, h => h.elim
  | a :: _, 0, b, h => by cases h; rfl
  | _ :: l, k + 1, b, h => by
    have := nth_is (l := l) h
    simpa using this
section
variable {P : Program} {l : List Oper} {Q : Exit → Act → World → Prop} {md : Region.Mode} {S : World → Prop}
theorem take_yes {i : Nat} {oi : Oper} {v : Value} {fuel : Nat} {listed : Array Bool} {a : Act} {w : World} (hi : nthIs l i oi) (hs : Region.noSelect l.toArray = true) (hf : Region.free md l.toArray listed i = true) (hr : (Region.ready md l.toArray listed).contains i = true)
    (hQ : ∀ c a w, Q (.panic c) (a.put oi.dst v) w → Q (.panic c) a w) (hw : Region.wanted oi (yielded l.toArray a.tmps) = true) (hy : ∀ w, S w → (execOp a.eval oi).run P w = .ok (.value v) w) (hS : S w)
    (h : wpAnyH P md l.toArray Q S fuel (listed.setIfInBounds i true) (a.put oi.dst v) w) : wpAnyH P md l.toArray Q S (fuel + 1) listed a w :=
  wpAnyH_take (nth_is hi) hs hf hr hQ (.inl ⟨hw, hy⟩) hS h
theorem take_no {i : Nat} {oi : Oper} {fuel : Nat} {listed : Array Bool} {a : Act} {w : World} (hi : nthIs l i oi) (hs : Region.noSelect l.toArray = true) (hf : Region.free md l.toArray listed i = true) (hr : (Region.ready md l.toArray listed).contains i = true)
    (hQ : ∀ c a w, Q (.panic c) (a.put oi.dst undef) w → Q (.panic c) a w) (hw : Region.wanted oi (yielded l.toArray a.tmps) = false) (hS : S w)
    (h : wpAnyH P md l.toArray Q S fuel (listed.setIfInBounds i true) (a.put oi.dst undef) w) : wpAnyH P md l.toArray Q S (fuel + 1) listed a w :=
  wpAnyH_take (nth_is hi) hs hf hr hQ (.inr ⟨hw, rfl⟩) hS h
theorem cons_at {fuel : Nat} {listed : Array Bool} {a : Act} {w : World} {i : Nat} {o : Oper} {rs : List Nat} (hi : nthIs l i o)
    (h : ∀ K' : Act → World → Prop, Shut (∀ a w, S w → (S w → wpAnyH P md l.toArray Q S fuel (listed.setIfInBounds i true) a w) → K' a w) → if Region.wanted o (yielded l.toArray a.tmps) = true then Oper.wp P o a w K' Q else K' (a.put o.dst undef) w)
    (hs : AllReadyH P md l.toArray Q S fuel listed a w rs) : AllReadyH P md l.toArray Q S fuel listed a w (i :: rs) := AllReadyH.cons (nth_is hi) h hs
end
/-- what lies ready ahead of the great question -/
structure AL (W0 W : World) (tb sb xb : Nat) (L M : List Th) (K : List Nat) (p pc : Option Addr) (s : St) (x : Th) : Prop where
  tab : TK W0 W tb L K
  row : RowT W p L
  cell : RowT W pc M
  step : W.heap[sb]? = some s.o
  thing : W.heap[xb]? = some x.o
theorem AL.later {W0 W W' : World} {tb sb xb : Nat} {L M : List Th} {K : List Nat} {p pc : Option Addr} {s : St} {x : Th} (h : AL W0 W tb sb xb L M K p pc s x) (hb : Below W.heap.size W W') : AL W0 W' tb sb xb L M K p pc s x :=
  ⟨h.tab.later hb, h.row.later hb, h.cell.later hb, var_on hb h.step (lt_of_at h.step), var_on hb h.thing (lt_of_at h.thing)⟩
theorem al_row {w : World} {b off k : Nat} {L : List Th} {x : Th} (h : RowT w (some ⟨b, off, none⟩) L) (hk : L[k]? = some x) : cellsT w b (off + k * 11) x := by
  obtain ⟨b1, off1, e1, hc⟩ := h.at hk
  simp only [Option.some.injEq, Addr.mk.injEq, and_true] at e1
  obtain ⟨rfl, rfl⟩ := e1
  exact hc
set_option maxRecDepth 100000 in
set_option maxHeartbeats 4000000 in
theorem law_alike {W0 w : World} {tb : Nat} {L : List Th} {K : List Nat} (T : TK W0 w tb L K) {p : Option Addr} {cap : Nat} (hr : RowT w p L) {n : Nat} (hn : Hid (L.length = n)) (s : St) (hs : inS s) :
    Calls Tryz.prog 15 #[.pointer (some ⟨tb, 0, none⟩), .slice p n cap, s.v] w fun e w' => e = .returned (.bool true) ∧ Below w.heap.size w w' := by
  have hl : n ≤ 200 := by rw [← hn.out]; exact T.good.len
  have hl9 : n ≤ 999 := by omega
  have hG := hid T.good
  have HS := hid (show inI s.t.id from hs.2)
  obtain ⟨W1, hW1⟩ : ∃ W1, w.alloc s.o = W1 := ⟨_, rfl⟩
  have hB1 : Below w.heap.size w W1 := by rw [← hW1]; exact below1 _ _
  have K1 := hid (show W1.heap[w.heap.size]? = some s.o by rw [← hW1]; exact new_at _ _ _ rfl)
  have T1 := T.later hB1
  have R1 := hid (hr.later hB1)
  unfold St.o at hW1
  have HW1 := hid hW1
  clear T hr hs hW1
  obtain ⟨M, hM⟩ : ∃ M, Hid (inT_r (cellR s.c) L = M) := ⟨_, rfl⟩
  obtain ⟨nm, hnm⟩ : ∃ nm, Hid (M.length = nm) := ⟨_, rfl⟩
  have hnl : nm ≤ 999 := by
    rw [← hnm.out, ← hM.out]
    exact Nat.le_trans (List.length_filter_le _ _) (by rw [hn.out]; omega)
  obtain ⟨N, hN⟩ : ∃ N, Hid (inT_r ⟨s.r0, s.r1, s.r2, s.r3⟩ L = N) := ⟨_, rfl⟩
  obtain ⟨nn, hnn⟩ : ∃ nn, Hid (N.length = nn) := ⟨_, rfl⟩
  have hnn9 : nn ≤ 999 := by
    rw [← hnn.out, ← hN.out]
    exact Nat.le_trans (List.length_filter_le _ _) (by rw [hn.out]; omega)
  obtain ⟨⟨c0, c1, c2, c3⟩, hcr⟩ : ∃ r, Hid (cellR s.c = r) := ⟨_, rfl⟩
  have hMr := hid hM.out
  rw [hcr.out] at hMr
  obtain ⟨x, hx⟩ : ∃ x, Hid ((findT s.t.id L).getD zT = x) := ⟨_, rfl⟩
  obtain ⟨q, hq⟩ : ∃ q, Hid (hasT s.t.id L = q) := ⟨_, rfl⟩
  obtain ⟨a, ha⟩ : ∃ a, Hid (atI s.t.id L = a) := ⟨_, rfl⟩
  obtain ⟨o, ho⟩ : ∃ o, Hid (isC s.c = o) := ⟨_, rfl⟩
  have CR := ref_rect W1 s.c
  rw [hcr.out, ho.out] at CR
  go_enter Tryz.func15, Tryz.ntmps15
  go_upto_region 1 with fail
  rw [HW1.out]
  clear HW1
  have ck := cells_at K1.out
  go_wp2_with fail
  with_reducible refine CR.mono ?_
  rintro z W2 ⟨rfl, hb2⟩
  have hB2 := below_on hB1 hb2
  have T2 := T1.later hb2
  have R2 := hid (R1.out.later hb2)
  have K2 := hid (var_on hb2 K1.out (lt_of_at K1.out))
  clear CR hb2 hB1 T1 R1 K1 ck
  obtain ⟨W3, hW3⟩ : ∃ W3, W2.alloc (.cells #[.int .i64 c0, .int .i64 c1, .int .i64 c2, .int .i64 c3] 35) = W3 := ⟨_, rfl⟩
  have hb3 : Below W2.heap.size W2 W3 := by rw [← hW3]; exact below1 _ _
  have Q3 := hid (show W3.heap[W2.heap.size]? = some (.cells #[.int .i64 c0, .int .i64 c1, .int .i64 c2, .int .i64 c3] 35 (0, 0)) by rw [← hW3]; exact new_at _ _ _ rfl)
  have hB3 := below_on hB2 hb3
  have T3 := T2.later hb3
  have R3 := hid (R2.out.later hb3)
  have K3 := hid (var_on hb3 K2.out (lt_of_at K2.out))
  have HW3 := hid hW3
  clear hW3 hb3 hB2 T2 R2 K2
  go_upto_region 2 with fail
  rw [HW3.out]
  clear HW3
  cases o
  · have hM0 : M = [] := by rw [← hM.out]; exact cellR_in ho.out L
    subst hM0
    obtain rfl : 0 = nm := hnm.out
    go_upto_region 5 with fail
    have E3 := hid (show RowT W3 none [] from .inl rfl)
    have ck := cells_at K3.out
    go_wp2_with fail
    with_reducible refine (tk_get T3 HS.out hx hq).mono ?_
    rintro z W5 ⟨rfl, hb5⟩
    obtain ⟨W6, hW6⟩ : ∃ W6, W5.alloc x.o = W6 := ⟨_, rfl⟩
    have hb6 : Below W3.heap.size W3 W6 := by rw [← hW6]; exact hb5.alloc hb5.size _
    have X6 := hid (show W6.heap[W5.heap.size]? = some x.o by rw [← hW6]; exact new_at _ _ _ rfl)
    have hB6 := below_on hB3 hb6
    have A6 : AL W0 W6 tb w.heap.size W5.heap.size L [] K p none s x := ⟨T3.later hb6, R3.out.later hb6, E3.out.later hb6, var_on hb6 K3.out (lt_of_at K3.out), X6.out⟩
    have HW6 := hid hW6
    clear hW6 hb5 hb6 hB3 T3 R3 E3 K3 X6 ck
    go_upto_region 6 with fail
    rw [show W5.alloc (.cells #[.int .i64 x.id, .int .i64 x.x, .int .i64 x.y, .int .i64 x.f0.n, .string x.f0.s, .int .i64 x.f1.n, .string x.f1.s, .int .i64 x.f2.n, .string x.f2.s, .int .i64 x.f3.n, .string x.f3.s] 33) = W6 from HW6.out]
    clear HW6
    obtain ⟨xb, hxb⟩ : ∃ xb, W5.heap.size = xb := ⟨_, rfl⟩
    rw [hxb] at A6 ⊢
    clear hxb
    have ck := cells_at A6.step
    go_wp2_with fail
    with_reducible refine (ref_at6 A6.row hn hl9 ha).mono ?_
    rintro z W7 ⟨rfl, hw⟩
    rw [hw]
    clear hw ck
    have HA := hid A6
    clear A6
    cases q
    · have hna : a = -1 := by rw [← ha.out]; exact atI_not hq.out
      subst hna
      go_upto_region 7 with fail
      refine wp_region_held_drew (S := fun w' => (∀ i, w'.cell? ⟨w.heap.size, i, none⟩ = (#[.int .i64 s.k, .int .i64 s.c, .int .i64 s.t.id, .int .i64 s.t.x, .int .i64 s.t.y, .int .i64 s.t.f0.n, .string s.t.f0.s, .int .i64 s.t.f1.n, .string s.t.f1.s, .int .i64 s.t.f2.n, .string s.t.f2.s, .int .i64 s.t.f3.n, .string s.t.f3.s, .int .i64 s.r0, .int .i64 s.r1, .int .i64 s.r2, .int .i64 s.r3] : Array Value)[i]?)) (by kernel_rfl) (cells_at HA.out.step).1 (fun hHeld => ?_)
      refine take_yes (i := 0) (v := ?vc0) rfl (by kernel_rfl) (by kernel_rfl) (by kernel_rfl) (fun _ _ _ h => h) (by rfl) ?hyc0 hHeld ?restc0
      case hyc0 =>
        intro w' hSw
        try dsimp only at hSw
        go_simp <;> with_reducible rfl
      try simp only [Act.put, List.setIfInBounds_toArray, List.set_cons_zero, List.set_cons_succ]
      refine take_yes (i := 2) (v := ?vc2) rfl (by kernel_rfl) (by kernel_rfl) (by kernel_rfl) (fun _ _ _ h => h) (by rfl) ?hyc2 hHeld ?restc2
      case hyc2 =>
        intro w' hSw
        try dsimp only at hSw
        go_simp <;> with_reducible rfl
      try simp only [Act.put, List.setIfInBounds_toArray, List.set_cons_zero, List.set_cons_succ]
      clear hHeld
      refine wpAnyH_ready (rs := [1]) (by kernel_rfl) (by simp) (cons_at (i := 1) rfl (fun K hK => ?_) AllReadyH.nil)
      go_simp
      go_at_call 18
      with_reducible refine (tk_all (HA.out.later (by first | exact Below.refl _ _ | exact (Below.refl _ _).drew)).tab hn).mono ?_
      rintro z W8 ⟨p8, c8, rfl, R8, hbK⟩
      have H8 := (HA.out.later (by first | exact (Below.refl _ _).drew | exact Below.refl _ _)).later hbK
      have hB8 : Below w.heap.size w W8 := (by first | exact below_on hB6 hbK | exact below_on hB6.drew hbK)
      have HK := hid H8
      go_wp2_with fail
      refine hK.out _ _ (cells_at HK.out.step).1 (fun hHeld => ?_)
      clear hK K
      try simp only [Act.put, List.setIfInBounds_toArray, List.set_cons_zero, List.set_cons_succ]
      clear hHeld
      refine wpAnyH_ready (rs := [3]) (by kernel_rfl) (by simp) (cons_at (i := 3) rfl (fun K hK => ?_) AllReadyH.nil)
      go_simp
      go_at_call 16
      with_reducible refine (same_at R8 H8.row hn hl9).mono ?_
      rintro z W9 ⟨rfl, hbK⟩
      have H9 := H8.later hbK
      have hB9 := below_on hB8 hbK
      have HK := hid H9
      go_wp2_with fail
      refine hK.out _ _ (cells_at HK.out.step).1 (fun hHeld => ?_)
      clear hK K
      try simp only [Act.put, List.setIfInBounds_toArray, List.set_cons_zero, List.set_cons_succ]
      refine take_yes (i := 4) (v := ?vc4) rfl (by kernel_rfl) (by kernel_rfl) (by kernel_rfl) (fun _ _ _ h => h) (by rfl) ?hyc4 hHeld ?restc4
      case hyc4 =>
        intro w' hSw
        try dsimp only at hSw
        go_simp <;> with_reducible rfl
      try simp only [Act.put, List.setIfInBounds_toArray, List.set_cons_zero, List.set_cons_succ]
      refine take_yes (i := 5) (v := ?vc5) rfl (by kernel_rfl) (by kernel_rfl) (by kernel_rfl) (fun _ _ _ h => h) (by rfl) ?hyc5 hHeld ?restc5
      case hyc5 =>
        intro w' hSw
        try dsimp only at hSw
        go_simp <;> with_reducible rfl
      try simp only [Act.put, List.setIfInBounds_toArray, List.set_cons_zero, List.set_cons_succ]
      refine take_yes (i := 6) (v := ?vc6) rfl (by kernel_rfl) (by kernel_rfl) (by kernel_rfl) (fun _ _ _ h => h) (by rfl) ?hyc6 hHeld ?restc6
      case hyc6 =>
        intro w' hSw
        try dsimp only at hSw
        go_simp <;> with_reducible rfl
      try simp only [Act.put, List.setIfInBounds_toArray, List.set_cons_zero, List.set_cons_succ]
      refine take_yes (i := 7) (v := ?vc7) rfl (by kernel_rfl) (by kernel_rfl) (by kernel_rfl) (fun _ _ _ h => h) (by rfl) ?hyc7 hHeld ?restc7
      case hyc7 =>
        intro w' hSw
        try dsimp only at hSw
        go_simp <;> with_reducible rfl
      try simp only [Act.put, List.setIfInBounds_toArray, List.set_cons_zero, List.set_cons_succ]
      refine take_yes (i := 9) (v := ?vc9) rfl (by kernel_rfl) (by kernel_rfl) (by kernel_rfl) (fun _ _ _ h => h) (by rfl) ?hyc9 hHeld ?restc9
      case hyc9 =>
        intro w' hSw
        try dsimp only at hSw
        go_simp <;> with_reducible rfl
      try simp only [Act.put, List.setIfInBounds_toArray, List.set_cons_zero, List.set_cons_succ]
      refine take_yes (i := 10) (v := ?vc10) rfl (by kernel_rfl) (by kernel_rfl) (by kernel_rfl) (fun _ _ _ h => h) (by rfl) ?hyc10 hHeld ?restc10
      case hyc10 =>
        intro w' hSw
        try dsimp only at hSw
        go_simp <;> with_reducible rfl
      try simp only [Act.put, List.setIfInBounds_toArray, List.set_cons_zero, List.set_cons_succ]
      refine take_yes (i := 11) (v := ?vc11) rfl (by kernel_rfl) (by kernel_rfl) (by kernel_rfl) (fun _ _ _ h => h) (by rfl) ?hyc11 hHeld ?restc11
      case hyc11 =>
        intro w' hSw
        try dsimp only at hSw
        go_simp <;> with_reducible rfl
      try simp only [Act.put, List.setIfInBounds_toArray, List.set_cons_zero, List.set_cons_succ]
      clear hHeld
      refine wpAnyH_ready (rs := [8]) (by kernel_rfl) (by simp) (cons_at (i := 8) rfl (fun K hK => ?_) AllReadyH.nil)
      go_simp
      go_at_call 22
      with_reducible refine (tk_in H9.tab s.r0 s.r1 s.r2 s.r3 hN hnn).mono ?_
      rintro z W10 ⟨p10, c10, rfl, R10, hbK⟩
      have H10 := H9.later hbK
      have hB10 := below_on hB9 hbK
      have HK := hid H10
      go_wp2_with fail
      refine hK.out _ _ (cells_at HK.out.step).1 (fun hHeld => ?_)
      clear hK K
      try simp only [Act.put, List.setIfInBounds_toArray, List.set_cons_zero, List.set_cons_succ]
      clear hHeld
      refine wpAnyH_ready (rs := [12]) (by kernel_rfl) (by simp) (cons_at (i := 12) rfl (fun K hK => ?_) AllReadyH.nil)
      go_simp
      go_at_call 35
      with_reducible refine (ref_seen H10.row hn hl9 s.r0 s.r1 s.r2 s.r3 hN hnn).mono ?_
      rintro z W11 ⟨p11, c11, rfl, R11, hbK⟩
      have H11 := H10.later hbK
      have R10 := R10.later hbK
      have hB11 := below_on hB10 hbK
      have HK := hid H11
      go_wp2_with fail
      refine hK.out _ _ (cells_at HK.out.step).1 (fun hHeld => ?_)
      clear hK K
      try simp only [Act.put, List.setIfInBounds_toArray, List.set_cons_zero, List.set_cons_succ]
      clear hHeld
      refine wpAnyH_ready (rs := [13]) (by kernel_rfl) (by simp) (cons_at (i := 13) rfl (fun K hK => ?_) AllReadyH.nil)
      go_simp
      go_at_call 16
      with_reducible refine (same_at R10 R11 hnn hnn9).mono ?_
      rintro z W12 ⟨rfl, hbK⟩
      have H12 := H11.later hbK
      have hB12 := below_on hB11 hbK
      have HK := hid H12
      go_wp2_with fail
      refine hK.out _ _ (cells_at HK.out.step).1 (fun hHeld => ?_)
      clear hK K
      try simp only [Act.put, List.setIfInBounds_toArray, List.set_cons_zero, List.set_cons_succ]
      refine take_yes (i := 14) (v := ?vc14) rfl (by kernel_rfl) (by kernel_rfl) (by kernel_rfl) (fun _ _ _ h => h) (by rfl) ?hyc14 hHeld ?restc14
      case hyc14 =>
        intro w' hSw
        try dsimp only at hSw
        go_simp <;> with_reducible rfl
      try simp only [Act.put, List.setIfInBounds_toArray, List.set_cons_zero, List.set_cons_succ]
      refine take_yes (i := 15) (v := ?vc15) rfl (by kernel_rfl) (by kernel_rfl) (by kernel_rfl) (fun _ _ _ h => h) (by rfl) ?hyc15 hHeld ?restc15
      case hyc15 =>
        intro w' hSw
        try dsimp only at hSw
        go_simp <;> with_reducible rfl
      try simp only [Act.put, List.setIfInBounds_toArray, List.set_cons_zero, List.set_cons_succ]
      refine take_yes (i := 16) (v := ?vc16) rfl (by kernel_rfl) (by kernel_rfl) (by kernel_rfl) (fun _ _ _ h => h) (by rfl) ?hyc16 hHeld ?restc16
      case hyc16 =>
        intro w' hSw
        try dsimp only at hSw
        go_simp <;> with_reducible rfl
      try simp only [Act.put, List.setIfInBounds_toArray, List.set_cons_zero, List.set_cons_succ]
      refine take_yes (i := 17) (v := ?vc17) rfl (by kernel_rfl) (by kernel_rfl) (by kernel_rfl) (fun _ _ _ h => h) (by rfl) ?hyc17 hHeld ?restc17
      case hyc17 =>
        intro w' hSw
        try dsimp only at hSw
        go_simp <;> with_reducible rfl
      try simp only [Act.put, List.setIfInBounds_toArray, List.set_cons_zero, List.set_cons_succ]
      refine take_yes (i := 18) (v := ?vc18) rfl (by kernel_rfl) (by kernel_rfl) (by kernel_rfl) (fun _ _ _ h => h) (by rfl) ?hyc18 hHeld ?restc18
      case hyc18 =>
        intro w' hSw
        try dsimp only at hSw
        go_simp <;> with_reducible rfl
      try simp only [Act.put, List.setIfInBounds_toArray, List.set_cons_zero, List.set_cons_succ]
      refine take_yes (i := 20) (v := ?vc20) rfl (by kernel_rfl) (by kernel_rfl) (by kernel_rfl) (fun _ _ _ h => h) (by rfl) ?hyc20 hHeld ?restc20
      case hyc20 =>
        intro w' hSw
        try dsimp only at hSw
        go_simp <;> with_reducible rfl
      try simp only [Act.put, List.setIfInBounds_toArray, List.set_cons_zero, List.set_cons_succ]
      clear hHeld
      refine wpAnyH_ready (rs := [19]) (by kernel_rfl) (by simp) (cons_at (i := 19) rfl (fun K hK => ?_) AllReadyH.nil)
      go_simp
      go_at_call 21
      with_reducible refine (tk_cell H12.tab s.c hM hnm).mono ?_
      rintro z W13 ⟨p13, c13, rfl, R13, hbK⟩
      have H13 := H12.later hbK
      have hB13 := below_on hB12 hbK
      have HK := hid H13
      go_wp2_with fail
      refine hK.out _ _ (cells_at HK.out.step).1 (fun hHeld => ?_)
      clear hK K
      try simp only [Act.put, List.setIfInBounds_toArray, List.set_cons_zero, List.set_cons_succ]
      clear hHeld
      refine wpAnyH_ready (rs := [21]) (by kernel_rfl) (by simp) (cons_at (i := 21) rfl (fun K hK => ?_) AllReadyH.nil)
      go_simp
      go_at_call 16
      with_reducible refine (same_at R13 H13.cell hnm hnl).mono ?_
      rintro z W14 ⟨rfl, hbK⟩
      have H14 := H13.later hbK
      have hB14 := below_on hB13 hbK
      have HK := hid H14
      go_wp2_with fail
      refine hK.out _ _ (cells_at HK.out.step).1 (fun hHeld => ?_)
      clear hK K
      try simp only [Act.put, List.setIfInBounds_toArray, List.set_cons_zero, List.set_cons_succ]
      refine take_yes (i := 22) (v := ?vc22) rfl (by kernel_rfl) (by kernel_rfl) (by kernel_rfl) (fun _ _ _ h => h) (by rfl) ?hyc22 hHeld ?restc22
      case hyc22 =>
        intro w' hSw
        try dsimp only at hSw
        go_simp <;> with_reducible rfl
      try simp only [Act.put, List.setIfInBounds_toArray, List.set_cons_zero, List.set_cons_succ]
      refine take_yes (i := 23) (v := ?vc23) rfl (by kernel_rfl) (by kernel_rfl) (by kernel_rfl) (fun _ _ _ h => h) (by rfl) ?hyc23 hHeld ?restc23
      case hyc23 =>
        intro w' hSw
        try dsimp only at hSw
        go_simp <;> with_reducible rfl
      try simp only [Act.put, List.setIfInBounds_toArray, List.set_cons_zero, List.set_cons_succ]
      refine take_yes (i := 24) (v := ?vc24) rfl (by kernel_rfl) (by kernel_rfl) (by kernel_rfl) (fun _ _ _ h => h) (by rfl) ?hyc24 hHeld ?restc24
      case hyc24 =>
        intro w' hSw
        try dsimp only at hSw
        go_simp <;> with_reducible rfl
      try simp only [Act.put, List.setIfInBounds_toArray, List.set_cons_zero, List.set_cons_succ]
      refine take_yes (i := 26) (v := ?vc26) rfl (by kernel_rfl) (by kernel_rfl) (by kernel_rfl) (fun _ _ _ h => h) (by rfl) ?hyc26 hHeld ?restc26
      case hyc26 =>
        intro w' hSw
        try dsimp only at hSw
        go_simp <;> with_reducible rfl
      try simp only [Act.put, List.setIfInBounds_toArray, List.set_cons_zero, List.set_cons_succ]
      refine take_yes (i := 27) (v := ?vc27) rfl (by kernel_rfl) (by kernel_rfl) (by kernel_rfl) (fun _ _ _ h => h) (by rfl) ?hyc27 hHeld ?restc27
      case hyc27 =>
        intro w' hSw
        try dsimp only at hSw
        go_simp <;> with_reducible rfl
      try simp only [Act.put, List.setIfInBounds_toArray, List.set_cons_zero, List.set_cons_succ]
      clear hHeld
      refine wpAnyH_ready (rs := [25]) (by kernel_rfl) (by simp) (cons_at (i := 25) rfl (fun K hK => ?_) AllReadyH.nil)
      go_simp
      go_at_call 20
      with_reducible refine (tk_len H14.tab hn).mono ?_
      rintro z W15 ⟨rfl, hw⟩
      have hbK : Below W14.heap.size W14 W15 := (by rw [hw]; exact Below.refl _ _)
      have H15 := H14.later hbK
      have hB15 := below_on hB14 hbK
      have HK := hid H15
      clear hw
      go_wp2_with fail
      refine hK.out _ _ (cells_at HK.out.step).1 (fun hHeld => ?_)
      clear hK K
      try simp only [Act.put, List.setIfInBounds_toArray, List.set_cons_zero, List.set_cons_succ]
      refine take_yes (i := 28) (v := ?vc28) rfl (by kernel_rfl) (by kernel_rfl) (by kernel_rfl) (fun _ _ _ h => h) (by rfl) ?hyc28 hHeld ?restc28
      case hyc28 =>
        intro w' hSw
        try dsimp only at hSw
        go_simp <;> with_reducible rfl
      try simp only [Act.put, List.setIfInBounds_toArray, List.set_cons_zero, List.set_cons_succ]
      refine take_yes (i := 29) (v := ?vc29) rfl (by kernel_rfl) (by kernel_rfl) (by kernel_rfl) (fun _ _ _ h => h) (by rfl) ?hyc29 hHeld ?restc29
      case hyc29 =>
        intro w' hSw
        try dsimp only at hSw
        go_simp <;> with_reducible rfl
      try simp only [Act.put, List.setIfInBounds_toArray, List.set_cons_zero, List.set_cons_succ]
      refine take_yes (i := 30) (v := ?vc30) rfl (by kernel_rfl) (by kernel_rfl) (by kernel_rfl) (fun _ _ _ h => h) (by rfl) ?hyc30 hHeld ?restc30
      case hyc30 =>
        intro w' hSw
        try dsimp only at hSw
        go_simp <;> with_reducible rfl
      try simp only [Act.put, List.setIfInBounds_toArray, List.set_cons_zero, List.set_cons_succ]
      refine take_yes (i := 31) (v := ?vc31) rfl (by kernel_rfl) (by kernel_rfl) (by kernel_rfl) (fun _ _ _ h => h) (by rfl) ?hyc31 hHeld ?restc31
      case hyc31 =>
        intro w' hSw
        try dsimp only at hSw
        go_simp <;> with_reducible rfl
      try simp only [Act.put, List.setIfInBounds_toArray, List.set_cons_zero, List.set_cons_succ]
      refine take_yes (i := 32) (v := ?vc32) rfl (by kernel_rfl) (by kernel_rfl) (by kernel_rfl) (fun _ _ _ h => h) (by rfl) ?hyc32 hHeld ?restc32
      case hyc32 =>
        intro w' hSw
        try dsimp only at hSw
        go_simp <;> with_reducible rfl
      try simp only [Act.put, List.setIfInBounds_toArray, List.set_cons_zero, List.set_cons_succ]
      refine take_yes (i := 33) (v := ?vc33) rfl (by kernel_rfl) (by kernel_rfl) (by kernel_rfl) (fun _ _ _ h => h) (by rfl) ?hyc33 hHeld ?restc33
      case hyc33 =>
        intro w' hSw
        try dsimp only at hSw
        go_simp <;> with_reducible rfl
      try simp only [Act.put, List.setIfInBounds_toArray, List.set_cons_zero, List.set_cons_succ]
      refine take_yes (i := 34) (v := ?vc34) rfl (by kernel_rfl) (by kernel_rfl) (by kernel_rfl) (fun _ _ _ h => h) (by rfl) ?hyc34 hHeld ?restc34
      case hyc34 =>
        intro w' hSw
        try dsimp only at hSw
        go_simp <;> with_reducible rfl
      try simp only [Act.put, List.setIfInBounds_toArray, List.set_cons_zero, List.set_cons_succ]
      refine take_yes (i := 35) (v := ?vc35) rfl (by kernel_rfl) (by kernel_rfl) (by kernel_rfl) (fun _ _ _ h => h) (by rfl) ?hyc35 hHeld ?restc35
      case hyc35 =>
        intro w' hSw
        try dsimp only at hSw
        go_simp <;> with_reducible rfl
      try simp only [Act.put, List.setIfInBounds_toArray, List.set_cons_zero, List.set_cons_succ]
      refine take_yes (i := 36) (v := ?vc36) rfl (by kernel_rfl) (by kernel_rfl) (by kernel_rfl) (fun _ _ _ h => h) (by rfl) ?hyc36 hHeld ?restc36
      case hyc36 =>
        intro w' hSw
        try dsimp only at hSw
        go_simp <;> with_reducible rfl
      try simp only [Act.put, List.setIfInBounds_toArray, List.set_cons_zero, List.set_cons_succ]
      refine take_yes (i := 37) (v := ?vc37) rfl (by kernel_rfl) (by kernel_rfl) (by kernel_rfl) (fun _ _ _ h => h) (by rfl) ?hyc37 hHeld ?restc37
      case hyc37 =>
        intro w' hSw
        try dsimp only at hSw
        go_simp <;> with_reducible rfl
      try simp only [Act.put, List.setIfInBounds_toArray, List.set_cons_zero, List.set_cons_succ]
      refine take_yes (i := 38) (v := ?vc38) rfl (by kernel_rfl) (by kernel_rfl) (by kernel_rfl) (fun _ _ _ h => h) (by rfl) ?hyc38 hHeld ?restc38
      case hyc38 =>
        intro w' hSw
        try dsimp only at hSw
        go_simp <;> with_reducible rfl
      try simp only [Act.put, List.setIfInBounds_toArray, List.set_cons_zero, List.set_cons_succ]
      refine take_yes (i := 39) (v := ?vc39) rfl (by kernel_rfl) (by kernel_rfl) (by kernel_rfl) (fun _ _ _ h => h) (by rfl) ?hyc39 hHeld ?restc39
      case hyc39 =>
        intro w' hSw
        try dsimp only at hSw
        go_simp <;> with_reducible rfl
      try simp only [Act.put, List.setIfInBounds_toArray, List.set_cons_zero, List.set_cons_succ]
      refine take_no (i := 40) rfl (by kernel_rfl) (by kernel_rfl) (by kernel_rfl) (fun _ _ _ h => h) (by rfl) hHeld ?_
      try simp only [Act.put, List.setIfInBounds_toArray, List.set_cons_zero, List.set_cons_succ]
      refine take_no (i := 41) rfl (by kernel_rfl) (by kernel_rfl) (by kernel_rfl) (fun _ _ _ h => h) (by rfl) hHeld ?_
      try simp only [Act.put, List.setIfInBounds_toArray, List.set_cons_zero, List.set_cons_succ]
      refine take_no (i := 42) rfl (by kernel_rfl) (by kernel_rfl) (by kernel_rfl) (fun _ _ _ h => h) (by rfl) hHeld ?_
      try simp only [Act.put, List.setIfInBounds_toArray, List.set_cons_zero, List.set_cons_succ]
      refine take_no (i := 43) rfl (by kernel_rfl) (by kernel_rfl) (by kernel_rfl) (fun _ _ _ h => h) (by rfl) hHeld ?_
      try simp only [Act.put, List.setIfInBounds_toArray, List.set_cons_zero, List.set_cons_succ]
      refine take_no (i := 44) rfl (by kernel_rfl) (by kernel_rfl) (by kernel_rfl) (fun _ _ _ h => h) (by rfl) hHeld ?_
      try simp only [Act.put, List.setIfInBounds_toArray, List.set_cons_zero, List.set_cons_succ]
      refine take_no (i := 45) rfl (by kernel_rfl) (by kernel_rfl) (by kernel_rfl) (fun _ _ _ h => h) (by rfl) hHeld ?_
      try simp only [Act.put, List.setIfInBounds_toArray, List.set_cons_zero, List.set_cons_succ]
      refine take_yes (i := 46) (v := ?vc46) rfl (by kernel_rfl) (by kernel_rfl) (by kernel_rfl) (fun _ _ _ h => h) (by rfl) ?hyc46 hHeld ?restc46
      case hyc46 =>
        intro w' hSw
        try dsimp only at hSw
        go_simp <;> with_reducible rfl
      try simp only [Act.put, List.setIfInBounds_toArray, List.set_cons_zero, List.set_cons_succ]
      refine take_yes (i := 47) (v := ?vc47) rfl (by kernel_rfl) (by kernel_rfl) (by kernel_rfl) (fun _ _ _ h => h) (by rfl) ?hyc47 hHeld ?restc47
      case hyc47 =>
        intro w' hSw
        try dsimp only at hSw
        go_simp <;> with_reducible rfl
      try simp only [Act.put, List.setIfInBounds_toArray, List.set_cons_zero, List.set_cons_succ]
      refine take_yes (i := 48) (v := ?vc48) rfl (by kernel_rfl) (by kernel_rfl) (by kernel_rfl) (fun _ _ _ h => h) (by rfl) ?hyc48 hHeld ?restc48
      case hyc48 =>
        intro w' hSw
        try dsimp only at hSw
        go_simp <;> with_reducible rfl
      try simp only [Act.put, List.setIfInBounds_toArray, List.set_cons_zero, List.set_cons_succ]
      refine wpAnyH_done (by kernel_rfl) ?_ _
      go_wp2_with fail
      go_ret
      exact ⟨rfl, hB15⟩
    · obtain ⟨k, t, k1, k2, k3⟩ := atI_has hq.out
      obtain rfl : a = (k : Nat) := by rw [← ha.out]; exact k1
      obtain rfl : x = t := by rw [← hx.out, k3]; rfl
      have hkn : k < n := by rw [← hn.out]; exact (List.getElem?_eq_some_iff.1 k2).1
      have HK2 := hid k2
      clear k1 k2 k3
      go_upto_region 7 with fail
      have hQ := equal_th_at (eqT_self x)
      obtain ⟨b, off, rfl, hc⟩ := HA.out.row.at HK2.out
      clear hc
      have hkn' : (k : Int) < (n : Int) := by omega
      refine wp_region_held_drew (S := fun w' => (∀ i, w'.cell? ⟨w.heap.size, i, none⟩ = (#[.int .i64 s.k, .int .i64 s.c, .int .i64 s.t.id, .int .i64 s.t.x, .int .i64 s.t.y, .int .i64 s.t.f0.n, .string s.t.f0.s, .int .i64 s.t.f1.n, .string s.t.f1.s, .int .i64 s.t.f2.n, .string s.t.f2.s, .int .i64 s.t.f3.n, .string s.t.f3.s, .int .i64 s.r0, .int .i64 s.r1, .int .i64 s.r2, .int .i64 s.r3] : Array Value)[i]?) ∧ (∀ i, w'.cell? ⟨xb, i, none⟩ = (#[.int .i64 x.id, .int .i64 x.x, .int .i64 x.y, .int .i64 x.f0.n, .string x.f0.s, .int .i64 x.f1.n, .string x.f1.s, .int .i64 x.f2.n, .string x.f2.s, .int .i64 x.f3.n, .string x.f3.s] : Array Value)[i]?) ∧ cellsT w' b (off + k * 11) x) (by kernel_rfl) ⟨(cells_at HA.out.step).1, (cells_at HA.out.thing).1, al_row HA.out.row HK2.out⟩ (fun hHeld => ?_)
      refine take_yes (i := 0) (v := ?vb0) rfl (by kernel_rfl) (by kernel_rfl) (by kernel_rfl) (fun _ _ _ h => h) (by rfl) ?hyb0 hHeld ?restb0
      case hyb0 =>
        intro w' hSw
        try dsimp only at hSw
        go_simp <;> with_reducible rfl
      try simp only [Act.put, List.setIfInBounds_toArray, List.set_cons_zero, List.set_cons_succ]
      refine take_yes (i := 2) (v := ?vb2) rfl (by kernel_rfl) (by kernel_rfl) (by kernel_rfl) (fun _ _ _ h => h) (by rfl) ?hyb2 hHeld ?restb2
      case hyb2 =>
        intro w' hSw
        try dsimp only at hSw
        go_simp <;> with_reducible rfl
      try simp only [Act.put, List.setIfInBounds_toArray, List.set_cons_zero, List.set_cons_succ]
      clear hHeld
      refine wpAnyH_ready (rs := [1]) (by kernel_rfl) (by simp) (cons_at (i := 1) rfl (fun K hK => ?_) AllReadyH.nil)
      go_simp
      go_at_call 18
      with_reducible refine (tk_all (HA.out.later (by first | exact Below.refl _ _ | exact (Below.refl _ _).drew)).tab hn).mono ?_
      rintro z W8 ⟨p8, c8, rfl, R8, hbK⟩
      have H8 := (HA.out.later (by first | exact (Below.refl _ _).drew | exact Below.refl _ _)).later hbK
      have hB8 : Below w.heap.size w W8 := (by first | exact below_on hB6 hbK | exact below_on hB6.drew hbK)
      have HK := hid H8
      go_wp2_with fail
      refine hK.out _ _ ⟨(cells_at HK.out.step).1, (cells_at HK.out.thing).1, al_row HK.out.row HK2.out⟩ (fun hHeld => ?_)
      clear hK K
      try simp only [Act.put, List.setIfInBounds_toArray, List.set_cons_zero, List.set_cons_succ]
      clear hHeld
      refine wpAnyH_ready (rs := [3]) (by kernel_rfl) (by simp) (cons_at (i := 3) rfl (fun K hK => ?_) AllReadyH.nil)
      go_simp
      go_at_call 16
      with_reducible refine (same_at R8 H8.row hn hl9).mono ?_
      rintro z W9 ⟨rfl, hbK⟩
      have H9 := H8.later hbK
      have hB9 := below_on hB8 hbK
      have HK := hid H9
      go_wp2_with fail
      refine hK.out _ _ ⟨(cells_at HK.out.step).1, (cells_at HK.out.thing).1, al_row HK.out.row HK2.out⟩ (fun hHeld => ?_)
      clear hK K
      try simp only [Act.put, List.setIfInBounds_toArray, List.set_cons_zero, List.set_cons_succ]
      refine take_yes (i := 4) (v := ?vb4) rfl (by kernel_rfl) (by kernel_rfl) (by kernel_rfl) (fun _ _ _ h => h) (by rfl) ?hyb4 hHeld ?restb4
      case hyb4 =>
        intro w' hSw
        try dsimp only at hSw
        go_simp <;> with_reducible rfl
      try simp only [Act.put, List.setIfInBounds_toArray, List.set_cons_zero, List.set_cons_succ]
      refine take_yes (i := 5) (v := ?vb5) rfl (by kernel_rfl) (by kernel_rfl) (by kernel_rfl) (fun _ _ _ h => h) (by rfl) ?hyb5 hHeld ?restb5
      case hyb5 =>
        intro w' hSw
        try dsimp only at hSw
        go_simp <;> with_reducible rfl
      try simp only [Act.put, List.setIfInBounds_toArray, List.set_cons_zero, List.set_cons_succ]
      refine take_yes (i := 6) (v := ?vb6) rfl (by kernel_rfl) (by kernel_rfl) (by kernel_rfl) (fun _ _ _ h => h) (by rfl) ?hyb6 hHeld ?restb6
      case hyb6 =>
        intro w' hSw
        try dsimp only at hSw
        go_simp <;> with_reducible rfl
      try simp only [Act.put, List.setIfInBounds_toArray, List.set_cons_zero, List.set_cons_succ]
      refine take_yes (i := 7) (v := ?vb7) rfl (by kernel_rfl) (by kernel_rfl) (by kernel_rfl) (fun _ _ _ h => h) (by rfl) ?hyb7 hHeld ?restb7
      case hyb7 =>
        intro w' hSw
        try dsimp only at hSw
        go_simp <;> with_reducible rfl
      try simp only [Act.put, List.setIfInBounds_toArray, List.set_cons_zero, List.set_cons_succ]
      refine take_yes (i := 9) (v := ?vb9) rfl (by kernel_rfl) (by kernel_rfl) (by kernel_rfl) (fun _ _ _ h => h) (by rfl) ?hyb9 hHeld ?restb9
      case hyb9 =>
        intro w' hSw
        try dsimp only at hSw
        go_simp <;> with_reducible rfl
      try simp only [Act.put, List.setIfInBounds_toArray, List.set_cons_zero, List.set_cons_succ]
      refine take_yes (i := 10) (v := ?vb10) rfl (by kernel_rfl) (by kernel_rfl) (by kernel_rfl) (fun _ _ _ h => h) (by rfl) ?hyb10 hHeld ?restb10
      case hyb10 =>
        intro w' hSw
        try dsimp only at hSw
        go_simp <;> with_reducible rfl
      try simp only [Act.put, List.setIfInBounds_toArray, List.set_cons_zero, List.set_cons_succ]
      refine take_yes (i := 11) (v := ?vb11) rfl (by kernel_rfl) (by kernel_rfl) (by kernel_rfl) (fun _ _ _ h => h) (by rfl) ?hyb11 hHeld ?restb11
      case hyb11 =>
        intro w' hSw
        try dsimp only at hSw
        go_simp <;> with_reducible rfl
      try simp only [Act.put, List.setIfInBounds_toArray, List.set_cons_zero, List.set_cons_succ]
      clear hHeld
      refine wpAnyH_ready (rs := [8]) (by kernel_rfl) (by simp) (cons_at (i := 8) rfl (fun K hK => ?_) AllReadyH.nil)
      go_simp
      go_at_call 22
      with_reducible refine (tk_in H9.tab s.r0 s.r1 s.r2 s.r3 hN hnn).mono ?_
      rintro z W10 ⟨p10, c10, rfl, R10, hbK⟩
      have H10 := H9.later hbK
      have hB10 := below_on hB9 hbK
      have HK := hid H10
      go_wp2_with fail
      refine hK.out _ _ ⟨(cells_at HK.out.step).1, (cells_at HK.out.thing).1, al_row HK.out.row HK2.out⟩ (fun hHeld => ?_)
      clear hK K
      try simp only [Act.put, List.setIfInBounds_toArray, List.set_cons_zero, List.set_cons_succ]
      clear hHeld
      refine wpAnyH_ready (rs := [12]) (by kernel_rfl) (by simp) (cons_at (i := 12) rfl (fun K hK => ?_) AllReadyH.nil)
      go_simp
      go_at_call 35
      with_reducible refine (ref_seen H10.row hn hl9 s.r0 s.r1 s.r2 s.r3 hN hnn).mono ?_
      rintro z W11 ⟨p11, c11, rfl, R11, hbK⟩
      have H11 := H10.later hbK
      have R10 := R10.later hbK
      have hB11 := below_on hB10 hbK
      have HK := hid H11
      go_wp2_with fail
      refine hK.out _ _ ⟨(cells_at HK.out.step).1, (cells_at HK.out.thing).1, al_row HK.out.row HK2.out⟩ (fun hHeld => ?_)
      clear hK K
      try simp only [Act.put, List.setIfInBounds_toArray, List.set_cons_zero, List.set_cons_succ]
      clear hHeld
      refine wpAnyH_ready (rs := [13]) (by kernel_rfl) (by simp) (cons_at (i := 13) rfl (fun K hK => ?_) AllReadyH.nil)
      go_simp
      go_at_call 16
      with_reducible refine (same_at R10 R11 hnn hnn9).mono ?_
      rintro z W12 ⟨rfl, hbK⟩
      have H12 := H11.later hbK
      have hB12 := below_on hB11 hbK
      have HK := hid H12
      go_wp2_with fail
      refine hK.out _ _ ⟨(cells_at HK.out.step).1, (cells_at HK.out.thing).1, al_row HK.out.row HK2.out⟩ (fun hHeld => ?_)
      clear hK K
      try simp only [Act.put, List.setIfInBounds_toArray, List.set_cons_zero, List.set_cons_succ]
      refine take_yes (i := 14) (v := ?vb14) rfl (by kernel_rfl) (by kernel_rfl) (by kernel_rfl) (fun _ _ _ h => h) (by rfl) ?hyb14 hHeld ?restb14
      case hyb14 =>
        intro w' hSw
        try dsimp only at hSw
        go_simp <;> with_reducible rfl
      try simp only [Act.put, List.setIfInBounds_toArray, List.set_cons_zero, List.set_cons_succ]
      refine take_yes (i := 15) (v := ?vb15) rfl (by kernel_rfl) (by kernel_rfl) (by kernel_rfl) (fun _ _ _ h => h) (by rfl) ?hyb15 hHeld ?restb15
      case hyb15 =>
        intro w' hSw
        try dsimp only at hSw
        go_simp <;> with_reducible rfl
      try simp only [Act.put, List.setIfInBounds_toArray, List.set_cons_zero, List.set_cons_succ]
      refine take_yes (i := 16) (v := ?vb16) rfl (by kernel_rfl) (by kernel_rfl) (by kernel_rfl) (fun _ _ _ h => h) (by rfl) ?hyb16 hHeld ?restb16
      case hyb16 =>
        intro w' hSw
        try dsimp only at hSw
        go_simp <;> with_reducible rfl
      try simp only [Act.put, List.setIfInBounds_toArray, List.set_cons_zero, List.set_cons_succ]
      refine take_yes (i := 17) (v := ?vb17) rfl (by kernel_rfl) (by kernel_rfl) (by kernel_rfl) (fun _ _ _ h => h) (by rfl) ?hyb17 hHeld ?restb17
      case hyb17 =>
        intro w' hSw
        try dsimp only at hSw
        go_simp <;> with_reducible rfl
      try simp only [Act.put, List.setIfInBounds_toArray, List.set_cons_zero, List.set_cons_succ]
      refine take_yes (i := 18) (v := ?vb18) rfl (by kernel_rfl) (by kernel_rfl) (by kernel_rfl) (fun _ _ _ h => h) (by rfl) ?hyb18 hHeld ?restb18
      case hyb18 =>
        intro w' hSw
        try dsimp only at hSw
        go_simp <;> with_reducible rfl
      try simp only [Act.put, List.setIfInBounds_toArray, List.set_cons_zero, List.set_cons_succ]
      refine take_yes (i := 20) (v := ?vb20) rfl (by kernel_rfl) (by kernel_rfl) (by kernel_rfl) (fun _ _ _ h => h) (by rfl) ?hyb20 hHeld ?restb20
      case hyb20 =>
        intro w' hSw
        try dsimp only at hSw
        go_simp <;> with_reducible rfl
      try simp only [Act.put, List.setIfInBounds_toArray, List.set_cons_zero, List.set_cons_succ]
      clear hHeld
      refine wpAnyH_ready (rs := [19]) (by kernel_rfl) (by simp) (cons_at (i := 19) rfl (fun K hK => ?_) AllReadyH.nil)
      go_simp
      go_at_call 21
      with_reducible refine (tk_cell H12.tab s.c hM hnm).mono ?_
      rintro z W13 ⟨p13, c13, rfl, R13, hbK⟩
      have H13 := H12.later hbK
      have hB13 := below_on hB12 hbK
      have HK := hid H13
      go_wp2_with fail
      refine hK.out _ _ ⟨(cells_at HK.out.step).1, (cells_at HK.out.thing).1, al_row HK.out.row HK2.out⟩ (fun hHeld => ?_)
      clear hK K
      try simp only [Act.put, List.setIfInBounds_toArray, List.set_cons_zero, List.set_cons_succ]
      clear hHeld
      refine wpAnyH_ready (rs := [21]) (by kernel_rfl) (by simp) (cons_at (i := 21) rfl (fun K hK => ?_) AllReadyH.nil)
      go_simp
      go_at_call 16
      with_reducible refine (same_at R13 H13.cell hnm hnl).mono ?_
      rintro z W14 ⟨rfl, hbK⟩
      have H14 := H13.later hbK
      have hB14 := below_on hB13 hbK
      have HK := hid H14
      go_wp2_with fail
      refine hK.out _ _ ⟨(cells_at HK.out.step).1, (cells_at HK.out.thing).1, al_row HK.out.row HK2.out⟩ (fun hHeld => ?_)
      clear hK K
      try simp only [Act.put, List.setIfInBounds_toArray, List.set_cons_zero, List.set_cons_succ]
      refine take_yes (i := 22) (v := ?vb22) rfl (by kernel_rfl) (by kernel_rfl) (by kernel_rfl) (fun _ _ _ h => h) (by rfl) ?hyb22 hHeld ?restb22
      case hyb22 =>
        intro w' hSw
        try dsimp only at hSw
        go_simp <;> with_reducible rfl
      try simp only [Act.put, List.setIfInBounds_toArray, List.set_cons_zero, List.set_cons_succ]
      refine take_yes (i := 23) (v := ?vb23) rfl (by kernel_rfl) (by kernel_rfl) (by kernel_rfl) (fun _ _ _ h => h) (by rfl) ?hyb23 hHeld ?restb23
      case hyb23 =>
        intro w' hSw
        try dsimp only at hSw
        go_simp <;> with_reducible rfl
      try simp only [Act.put, List.setIfInBounds_toArray, List.set_cons_zero, List.set_cons_succ]
      refine take_yes (i := 24) (v := ?vb24) rfl (by kernel_rfl) (by kernel_rfl) (by kernel_rfl) (fun _ _ _ h => h) (by rfl) ?hyb24 hHeld ?restb24
      case hyb24 =>
        intro w' hSw
        try dsimp only at hSw
        go_simp <;> with_reducible rfl
      try simp only [Act.put, List.setIfInBounds_toArray, List.set_cons_zero, List.set_cons_succ]
      refine take_yes (i := 26) (v := ?vb26) rfl (by kernel_rfl) (by kernel_rfl) (by kernel_rfl) (fun _ _ _ h => h) (by rfl) ?hyb26 hHeld ?restb26
      case hyb26 =>
        intro w' hSw
        try dsimp only at hSw
        go_simp <;> with_reducible rfl
      try simp only [Act.put, List.setIfInBounds_toArray, List.set_cons_zero, List.set_cons_succ]
      refine take_yes (i := 27) (v := ?vb27) rfl (by kernel_rfl) (by kernel_rfl) (by kernel_rfl) (fun _ _ _ h => h) (by rfl) ?hyb27 hHeld ?restb27
      case hyb27 =>
        intro w' hSw
        try dsimp only at hSw
        go_simp <;> with_reducible rfl
      try simp only [Act.put, List.setIfInBounds_toArray, List.set_cons_zero, List.set_cons_succ]
      clear hHeld
      refine wpAnyH_ready (rs := [25]) (by kernel_rfl) (by simp) (cons_at (i := 25) rfl (fun K hK => ?_) AllReadyH.nil)
      go_simp
      go_at_call 20
      with_reducible refine (tk_len H14.tab hn).mono ?_
      rintro z W15 ⟨rfl, hw⟩
      have hbK : Below W14.heap.size W14 W15 := (by rw [hw]; exact Below.refl _ _)
      have H15 := H14.later hbK
      have hB15 := below_on hB14 hbK
      have HK := hid H15
      clear hw
      go_wp2_with fail
      refine hK.out _ _ ⟨(cells_at HK.out.step).1, (cells_at HK.out.thing).1, al_row HK.out.row HK2.out⟩ (fun hHeld => ?_)
      clear hK K
      try simp only [Act.put, List.setIfInBounds_toArray, List.set_cons_zero, List.set_cons_succ]
      refine take_yes (i := 28) (v := ?vb28) rfl (by kernel_rfl) (by kernel_rfl) (by kernel_rfl) (fun _ _ _ h => h) (by rfl) ?hyb28 hHeld ?restb28
      case hyb28 =>
        intro w' hSw
        try dsimp only at hSw
        go_simp <;> with_reducible rfl
      try simp only [Act.put, List.setIfInBounds_toArray, List.set_cons_zero, List.set_cons_succ]
      refine take_yes (i := 29) (v := ?vb29) rfl (by kernel_rfl) (by kernel_rfl) (by kernel_rfl) (fun _ _ _ h => h) (by rfl) ?hyb29 hHeld ?restb29
      case hyb29 =>
        intro w' hSw
        try dsimp only at hSw
        go_simp <;> with_reducible rfl
      try simp only [Act.put, List.setIfInBounds_toArray, List.set_cons_zero, List.set_cons_succ]
      refine take_yes (i := 30) (v := ?vb30) rfl (by kernel_rfl) (by kernel_rfl) (by kernel_rfl) (fun _ _ _ h => h) (by rfl) ?hyb30 hHeld ?restb30
      case hyb30 =>
        intro w' hSw
        try dsimp only at hSw
        go_simp <;> with_reducible rfl
      try simp only [Act.put, List.setIfInBounds_toArray, List.set_cons_zero, List.set_cons_succ]
      refine take_yes (i := 31) (v := ?vb31) rfl (by kernel_rfl) (by kernel_rfl) (by kernel_rfl) (fun _ _ _ h => h) (by rfl) ?hyb31 hHeld ?restb31
      case hyb31 =>
        intro w' hSw
        try dsimp only at hSw
        go_simp <;> with_reducible rfl
      try simp only [Act.put, List.setIfInBounds_toArray, List.set_cons_zero, List.set_cons_succ]
      refine take_yes (i := 32) (v := ?vb32) rfl (by kernel_rfl) (by kernel_rfl) (by kernel_rfl) (fun _ _ _ h => h) (by rfl) ?hyb32 hHeld ?restb32
      case hyb32 =>
        intro w' hSw
        try dsimp only at hSw
        go_simp <;> with_reducible rfl
      try simp only [Act.put, List.setIfInBounds_toArray, List.set_cons_zero, List.set_cons_succ]
      refine take_yes (i := 33) (v := ?vb33) rfl (by kernel_rfl) (by kernel_rfl) (by kernel_rfl) (fun _ _ _ h => h) (by rfl) ?hyb33 hHeld ?restb33
      case hyb33 =>
        intro w' hSw
        try dsimp only at hSw
        go_simp <;> with_reducible rfl
      try simp only [Act.put, List.setIfInBounds_toArray, List.set_cons_zero, List.set_cons_succ]
      refine take_yes (i := 34) (v := ?vb34) rfl (by kernel_rfl) (by kernel_rfl) (by kernel_rfl) (fun _ _ _ h => h) (by rfl) ?hyb34 hHeld ?restb34
      case hyb34 =>
        intro w' hSw
        try dsimp only at hSw
        go_simp <;> with_reducible rfl
      try simp only [Act.put, List.setIfInBounds_toArray, List.set_cons_zero, List.set_cons_succ]
      refine take_yes (i := 35) (v := ?vb35) rfl (by kernel_rfl) (by kernel_rfl) (by kernel_rfl) (fun _ _ _ h => h) (by rfl) ?hyb35 hHeld ?restb35
      case hyb35 =>
        intro w' hSw
        try dsimp only at hSw
        go_simp <;> with_reducible rfl
      try simp only [Act.put, List.setIfInBounds_toArray, List.set_cons_zero, List.set_cons_succ]
      refine take_yes (i := 36) (v := ?vb36) rfl (by kernel_rfl) (by kernel_rfl) (by kernel_rfl) (fun _ _ _ h => h) (by rfl) ?hyb36 hHeld ?restb36
      case hyb36 =>
        intro w' hSw
        try dsimp only at hSw
        go_simp <;> with_reducible rfl
      try simp only [Act.put, List.setIfInBounds_toArray, List.set_cons_zero, List.set_cons_succ]
      refine take_yes (i := 37) (v := ?vb37) rfl (by kernel_rfl) (by kernel_rfl) (by kernel_rfl) (fun _ _ _ h => h) (by rfl) ?hyb37 hHeld ?restb37
      case hyb37 =>
        intro w' hSw
        try dsimp only at hSw
        go_simp <;> with_reducible rfl
      try simp only [Act.put, List.setIfInBounds_toArray, List.set_cons_zero, List.set_cons_succ]
      refine take_yes (i := 38) (v := ?vb38) rfl (by kernel_rfl) (by kernel_rfl) (by kernel_rfl) (fun _ _ _ h => h) (by rfl) ?hyb38 hHeld ?restb38
      case hyb38 =>
        intro w' hSw
        try dsimp only at hSw
        go_simp <;> with_reducible rfl
      try simp only [Act.put, List.setIfInBounds_toArray, List.set_cons_zero, List.set_cons_succ]
      refine take_yes (i := 39) (v := ?vb39) rfl (by kernel_rfl) (by kernel_rfl) (by kernel_rfl) (fun _ _ _ h => h) (by rfl) ?hyb39 hHeld ?restb39
      case hyb39 =>
        intro w' hSw
        try dsimp only at hSw
        go_simp <;> with_reducible rfl
      try simp only [Act.put, List.setIfInBounds_toArray, List.set_cons_zero, List.set_cons_succ]
      refine take_yes (i := 40) (v := ?vb40) rfl (by kernel_rfl) (by kernel_rfl) (by kernel_rfl) (fun _ _ _ h => h) (by rfl) ?hyb40 hHeld ?restb40
      case hyb40 =>
        intro w' hSw
        try dsimp only at hSw
        go_simp <;> with_reducible rfl
      try simp only [Act.put, List.setIfInBounds_toArray, List.set_cons_zero, List.set_cons_succ]
      refine take_yes (i := 41) (v := ?vb41) rfl (by kernel_rfl) (by kernel_rfl) (by kernel_rfl) (fun _ _ _ h => h) (by rfl) ?hyb41 hHeld ?restb41
      case hyb41 =>
        intro w' hSw
        try dsimp only at hSw
        go_simp <;> with_reducible rfl
      try simp only [Act.put, List.setIfInBounds_toArray, List.set_cons_zero, List.set_cons_succ]
      refine take_yes (i := 42) (v := ?vb42) rfl (by kernel_rfl) (by kernel_rfl) (by kernel_rfl) (fun _ _ _ h => h) (by rfl) ?hyb42 hHeld ?restb42
      case hyb42 =>
        intro w' hSw
        try dsimp only at hSw
        go_simp <;> with_reducible rfl
      try simp only [Act.put, List.setIfInBounds_toArray, List.set_cons_zero, List.set_cons_succ]
      refine take_yes (i := 43) (v := ?vb43) rfl (by kernel_rfl) (by kernel_rfl) (by kernel_rfl) (fun _ _ _ h => h) (by rfl) ?hyb43 hHeld ?restb43
      case hyb43 =>
        intro w' hSw
        try dsimp only at hSw
        go_simp <;> with_reducible rfl
      try simp only [Act.put, List.setIfInBounds_toArray, List.set_cons_zero, List.set_cons_succ]
      refine take_yes (i := 44) (v := ?vb44) rfl (by kernel_rfl) (by kernel_rfl) (by kernel_rfl) (fun _ _ _ h => h) (by rfl) ?hyb44 hHeld ?restb44
      case hyb44 =>
        intro w' hSw
        try dsimp only at hSw
        go_simp <;> with_reducible rfl
      try simp only [Act.put, List.setIfInBounds_toArray, List.set_cons_zero, List.set_cons_succ]
      refine take_yes (i := 45) (v := ?vb45) rfl (by kernel_rfl) (by kernel_rfl) (by kernel_rfl) (fun _ _ _ h => h) (by rfl) ?hyb45 hHeld ?restb45
      case hyb45 =>
        intro w' hSw
        try dsimp only at hSw
        go_simp <;> with_reducible rfl
      try simp only [Act.put, List.setIfInBounds_toArray, List.set_cons_zero, List.set_cons_succ]
      refine take_yes (i := 46) (v := ?vb46) rfl (by kernel_rfl) (by kernel_rfl) (by kernel_rfl) (fun _ _ _ h => h) (by rfl) ?hyb46 hHeld ?restb46
      case hyb46 =>
        intro w' hSw
        try dsimp only at hSw
        go_simp <;> with_reducible rfl
      try simp only [Act.put, List.setIfInBounds_toArray, List.set_cons_zero, List.set_cons_succ]
      refine take_yes (i := 47) (v := ?vb47) rfl (by kernel_rfl) (by kernel_rfl) (by kernel_rfl) (fun _ _ _ h => h) (by rfl) ?hyb47 hHeld ?restb47
      case hyb47 =>
        intro w' hSw
        try dsimp only at hSw
        go_simp <;> with_reducible rfl
      try simp only [Act.put, List.setIfInBounds_toArray, List.set_cons_zero, List.set_cons_succ]
      refine take_yes (i := 48) (v := ?vb48) rfl (by kernel_rfl) (by kernel_rfl) (by kernel_rfl) (fun _ _ _ h => h) (by rfl) ?hyb48 hHeld ?restb48
      case hyb48 =>
        intro w' hSw
        try dsimp only at hSw
        go_simp <;> with_reducible rfl
      try simp only [Act.put, List.setIfInBounds_toArray, List.set_cons_zero, List.set_cons_succ]
      refine wpAnyH_done (by kernel_rfl) ?_ _
      go_wp2_with fail
      go_ret
      exact ⟨rfl, hB15⟩
  · go_upto_region 4 with fail
    have cq := cells_at Q3.out
    go_wp2_with fail
    with_reducible refine (ref_seen R3.out hn hl9 c0 c1 c2 c3 hMr hnm).mono ?_
    rintro z W4 ⟨pc, cc, rfl, hrc, hb4⟩
    have hB4 := below_on hB3 hb4
    have T4 := T3.later hb4
    have R4 := hid (R3.out.later hb4)
    have K4 := hid (var_on hb4 K3.out (lt_of_at K3.out))
    have E4 := hid hrc
    clear hb4 hB3 T3 R3 K3 Q3 cq hrc
    go_upto_region 5 with fail
    have ck := cells_at K4.out
    go_wp2_with fail
    with_reducible refine (tk_get T4 HS.out hx hq).mono ?_
    rintro z W5 ⟨rfl, hb5⟩
    obtain ⟨W6, hW6⟩ : ∃ W6, W5.alloc x.o = W6 := ⟨_, rfl⟩
    have hb6 : Below W4.heap.size W4 W6 := by rw [← hW6]; exact hb5.alloc hb5.size _
    have X6 := hid (show W6.heap[W5.heap.size]? = some x.o by rw [← hW6]; exact new_at _ _ _ rfl)
    have hB6 := below_on hB4 hb6
    have A6 : AL W0 W6 tb w.heap.size W5.heap.size L M K p pc s x := ⟨T4.later hb6, R4.out.later hb6, E4.out.later hb6, var_on hb6 K4.out (lt_of_at K4.out), X6.out⟩
    have HW6 := hid hW6
    clear hW6 hb5 hb6 hB4 T4 R4 E4 K4 X6 ck
    go_upto_region 6 with fail
    rw [show W5.alloc (.cells #[.int .i64 x.id, .int .i64 x.x, .int .i64 x.y, .int .i64 x.f0.n, .string x.f0.s, .int .i64 x.f1.n, .string x.f1.s, .int .i64 x.f2.n, .string x.f2.s, .int .i64 x.f3.n, .string x.f3.s] 33) = W6 from HW6.out]
    clear HW6
    obtain ⟨xb, hxb⟩ : ∃ xb, W5.heap.size = xb := ⟨_, rfl⟩
    rw [hxb] at A6 ⊢
    clear hxb
    have ck := cells_at A6.step
    go_wp2_with fail
    with_reducible refine (ref_at6 A6.row hn hl9 ha).mono ?_
    rintro z W7 ⟨rfl, hw⟩
    rw [hw]
    clear hw ck
    have HA := hid A6
    clear A6
    cases q
    · have hna : a = -1 := by rw [← ha.out]; exact atI_not hq.out
      subst hna
      go_upto_region 7 with fail
      refine wp_region_held_drew (S := fun w' => (∀ i, w'.cell? ⟨w.heap.size, i, none⟩ = (#[.int .i64 s.k, .int .i64 s.c, .int .i64 s.t.id, .int .i64 s.t.x, .int .i64 s.t.y, .int .i64 s.t.f0.n, .string s.t.f0.s, .int .i64 s.t.f1.n, .string s.t.f1.s, .int .i64 s.t.f2.n, .string s.t.f2.s, .int .i64 s.t.f3.n, .string s.t.f3.s, .int .i64 s.r0, .int .i64 s.r1, .int .i64 s.r2, .int .i64 s.r3] : Array Value)[i]?)) (by kernel_rfl) (cells_at HA.out.step).1 (fun hHeld => ?_)
      refine take_yes (i := 0) (v := ?ve0) rfl (by kernel_rfl) (by kernel_rfl) (by kernel_rfl) (fun _ _ _ h => h) (by rfl) ?hye0 hHeld ?reste0
      case hye0 =>
        intro w' hSw
        try dsimp only at hSw
        go_simp <;> with_reducible rfl
      try simp only [Act.put, List.setIfInBounds_toArray, List.set_cons_zero, List.set_cons_succ]
      refine take_yes (i := 2) (v := ?ve2) rfl (by kernel_rfl) (by kernel_rfl) (by kernel_rfl) (fun _ _ _ h => h) (by rfl) ?hye2 hHeld ?reste2
      case hye2 =>
        intro w' hSw
        try dsimp only at hSw
        go_simp <;> with_reducible rfl
      try simp only [Act.put, List.setIfInBounds_toArray, List.set_cons_zero, List.set_cons_succ]
      clear hHeld
      refine wpAnyH_ready (rs := [1]) (by kernel_rfl) (by simp) (cons_at (i := 1) rfl (fun K hK => ?_) AllReadyH.nil)
      go_simp
      go_at_call 18
      with_reducible refine (tk_all (HA.out.later (by first | exact Below.refl _ _ | exact (Below.refl _ _).drew)).tab hn).mono ?_
      rintro z W8 ⟨p8, c8, rfl, R8, hbK⟩
      have H8 := (HA.out.later (by first | exact (Below.refl _ _).drew | exact Below.refl _ _)).later hbK
      have hB8 : Below w.heap.size w W8 := (by first | exact below_on hB6 hbK | exact below_on hB6.drew hbK)
      have HK := hid H8
      go_wp2_with fail
      refine hK.out _ _ (cells_at HK.out.step).1 (fun hHeld => ?_)
      clear hK K
      try simp only [Act.put, List.setIfInBounds_toArray, List.set_cons_zero, List.set_cons_succ]
      clear hHeld
      refine wpAnyH_ready (rs := [3]) (by kernel_rfl) (by simp) (cons_at (i := 3) rfl (fun K hK => ?_) AllReadyH.nil)
      go_simp
      go_at_call 16
      with_reducible refine (same_at R8 H8.row hn hl9).mono ?_
      rintro z W9 ⟨rfl, hbK⟩
      have H9 := H8.later hbK
      have hB9 := below_on hB8 hbK
      have HK := hid H9
      go_wp2_with fail
      refine hK.out _ _ (cells_at HK.out.step).1 (fun hHeld => ?_)
      clear hK K
      try simp only [Act.put, List.setIfInBounds_toArray, List.set_cons_zero, List.set_cons_succ]
      refine take_yes (i := 4) (v := ?ve4) rfl (by kernel_rfl) (by kernel_rfl) (by kernel_rfl) (fun _ _ _ h => h) (by rfl) ?hye4 hHeld ?reste4
      case hye4 =>
        intro w' hSw
        try dsimp only at hSw
        go_simp <;> with_reducible rfl
      try simp only [Act.put, List.setIfInBounds_toArray, List.set_cons_zero, List.set_cons_succ]
      refine take_yes (i := 5) (v := ?ve5) rfl (by kernel_rfl) (by kernel_rfl) (by kernel_rfl) (fun _ _ _ h => h) (by rfl) ?hye5 hHeld ?reste5
      case hye5 =>
        intro w' hSw
        try dsimp only at hSw
        go_simp <;> with_reducible rfl
      try simp only [Act.put, List.setIfInBounds_toArray, List.set_cons_zero, List.set_cons_succ]
      refine take_yes (i := 6) (v := ?ve6) rfl (by kernel_rfl) (by kernel_rfl) (by kernel_rfl) (fun _ _ _ h => h) (by rfl) ?hye6 hHeld ?reste6
      case hye6 =>
        intro w' hSw
        try dsimp only at hSw
        go_simp <;> with_reducible rfl
      try simp only [Act.put, List.setIfInBounds_toArray, List.set_cons_zero, List.set_cons_succ]
      refine take_yes (i := 7) (v := ?ve7) rfl (by kernel_rfl) (by kernel_rfl) (by kernel_rfl) (fun _ _ _ h => h) (by rfl) ?hye7 hHeld ?reste7
      case hye7 =>
        intro w' hSw
        try dsimp only at hSw
        go_simp <;> with_reducible rfl
      try simp only [Act.put, List.setIfInBounds_toArray, List.set_cons_zero, List.set_cons_succ]
      refine take_yes (i := 9) (v := ?ve9) rfl (by kernel_rfl) (by kernel_rfl) (by kernel_rfl) (fun _ _ _ h => h) (by rfl) ?hye9 hHeld ?reste9
      case hye9 =>
        intro w' hSw
        try dsimp only at hSw
        go_simp <;> with_reducible rfl
      try simp only [Act.put, List.setIfInBounds_toArray, List.set_cons_zero, List.set_cons_succ]
      refine take_yes (i := 10) (v := ?ve10) rfl (by kernel_rfl) (by kernel_rfl) (by kernel_rfl) (fun _ _ _ h => h) (by rfl) ?hye10 hHeld ?reste10
      case hye10 =>
        intro w' hSw
        try dsimp only at hSw
        go_simp <;> with_reducible rfl
      try simp only [Act.put, List.setIfInBounds_toArray, List.set_cons_zero, List.set_cons_succ]
      refine take_yes (i := 11) (v := ?ve11) rfl (by kernel_rfl) (by kernel_rfl) (by kernel_rfl) (fun _ _ _ h => h) (by rfl) ?hye11 hHeld ?reste11
      case hye11 =>
        intro w' hSw
        try dsimp only at hSw
        go_simp <;> with_reducible rfl
      try simp only [Act.put, List.setIfInBounds_toArray, List.set_cons_zero, List.set_cons_succ]
      clear hHeld
      refine wpAnyH_ready (rs := [8]) (by kernel_rfl) (by simp) (cons_at (i := 8) rfl (fun K hK => ?_) AllReadyH.nil)
      go_simp
      go_at_call 22
      with_reducible refine (tk_in H9.tab s.r0 s.r1 s.r2 s.r3 hN hnn).mono ?_
      rintro z W10 ⟨p10, c10, rfl, R10, hbK⟩
      have H10 := H9.later hbK
      have hB10 := below_on hB9 hbK
      have HK := hid H10
      go_wp2_with fail
      refine hK.out _ _ (cells_at HK.out.step).1 (fun hHeld => ?_)
      clear hK K
      try simp only [Act.put, List.setIfInBounds_toArray, List.set_cons_zero, List.set_cons_succ]
      clear hHeld
      refine wpAnyH_ready (rs := [12]) (by kernel_rfl) (by simp) (cons_at (i := 12) rfl (fun K hK => ?_) AllReadyH.nil)
      go_simp
      go_at_call 35
      with_reducible refine (ref_seen H10.row hn hl9 s.r0 s.r1 s.r2 s.r3 hN hnn).mono ?_
      rintro z W11 ⟨p11, c11, rfl, R11, hbK⟩
      have H11 := H10.later hbK
      have R10 := R10.later hbK
      have hB11 := below_on hB10 hbK
      have HK := hid H11
      go_wp2_with fail
      refine hK.out _ _ (cells_at HK.out.step).1 (fun hHeld => ?_)
      clear hK K
      try simp only [Act.put, List.setIfInBounds_toArray, List.set_cons_zero, List.set_cons_succ]
      clear hHeld
      refine wpAnyH_ready (rs := [13]) (by kernel_rfl) (by simp) (cons_at (i := 13) rfl (fun K hK => ?_) AllReadyH.nil)
      go_simp
      go_at_call 16
      with_reducible refine (same_at R10 R11 hnn hnn9).mono ?_
      rintro z W12 ⟨rfl, hbK⟩
      have H12 := H11.later hbK
      have hB12 := below_on hB11 hbK
      have HK := hid H12
      go_wp2_with fail
      refine hK.out _ _ (cells_at HK.out.step).1 (fun hHeld => ?_)
      clear hK K
      try simp only [Act.put, List.setIfInBounds_toArray, List.set_cons_zero, List.set_cons_succ]
      refine take_yes (i := 14) (v := ?ve14) rfl (by kernel_rfl) (by kernel_rfl) (by kernel_rfl) (fun _ _ _ h => h) (by rfl) ?hye14 hHeld ?reste14
      case hye14 =>
        intro w' hSw
        try dsimp only at hSw
        go_simp <;> with_reducible rfl
      try simp only [Act.put, List.setIfInBounds_toArray, List.set_cons_zero, List.set_cons_succ]
      refine take_yes (i := 15) (v := ?ve15) rfl (by kernel_rfl) (by kernel_rfl) (by kernel_rfl) (fun _ _ _ h => h) (by rfl) ?hye15 hHeld ?reste15
      case hye15 =>
        intro w' hSw
        try dsimp only at hSw
        go_simp <;> with_reducible rfl
      try simp only [Act.put, List.setIfInBounds_toArray, List.set_cons_zero, List.set_cons_succ]
      refine take_yes (i := 16) (v := ?ve16) rfl (by kernel_rfl) (by kernel_rfl) (by kernel_rfl) (fun _ _ _ h => h) (by rfl) ?hye16 hHeld ?reste16
      case hye16 =>
        intro w' hSw
        try dsimp only at hSw
        go_simp <;> with_reducible rfl
      try simp only [Act.put, List.setIfInBounds_toArray, List.set_cons_zero, List.set_cons_succ]
      refine take_yes (i := 17) (v := ?ve17) rfl (by kernel_rfl) (by kernel_rfl) (by kernel_rfl) (fun _ _ _ h => h) (by rfl) ?hye17 hHeld ?reste17
      case hye17 =>
        intro w' hSw
        try dsimp only at hSw
        go_simp <;> with_reducible rfl
      try simp only [Act.put, List.setIfInBounds_toArray, List.set_cons_zero, List.set_cons_succ]
      refine take_yes (i := 18) (v := ?ve18) rfl (by kernel_rfl) (by kernel_rfl) (by kernel_rfl) (fun _ _ _ h => h) (by rfl) ?hye18 hHeld ?reste18
      case hye18 =>
        intro w' hSw
        try dsimp only at hSw
        go_simp <;> with_reducible rfl
      try simp only [Act.put, List.setIfInBounds_toArray, List.set_cons_zero, List.set_cons_succ]
      refine take_yes (i := 20) (v := ?ve20) rfl (by kernel_rfl) (by kernel_rfl) (by kernel_rfl) (fun _ _ _ h => h) (by rfl) ?hye20 hHeld ?reste20
      case hye20 =>
        intro w' hSw
        try dsimp only at hSw
        go_simp <;> with_reducible rfl
      try simp only [Act.put, List.setIfInBounds_toArray, List.set_cons_zero, List.set_cons_succ]
      clear hHeld
      refine wpAnyH_ready (rs := [19]) (by kernel_rfl) (by simp) (cons_at (i := 19) rfl (fun K hK => ?_) AllReadyH.nil)
      go_simp
      go_at_call 21
      with_reducible refine (tk_cell H12.tab s.c hM hnm).mono ?_
      rintro z W13 ⟨p13, c13, rfl, R13, hbK⟩
      have H13 := H12.later hbK
      have hB13 := below_on hB12 hbK
      have HK := hid H13
      go_wp2_with fail
      refine hK.out _ _ (cells_at HK.out.step).1 (fun hHeld => ?_)
      clear hK K
      try simp only [Act.put, List.setIfInBounds_toArray, List.set_cons_zero, List.set_cons_succ]
      clear hHeld
      refine wpAnyH_ready (rs := [21]) (by kernel_rfl) (by simp) (cons_at (i := 21) rfl (fun K hK => ?_) AllReadyH.nil)
      go_simp
      go_at_call 16
      with_reducible refine (same_at R13 H13.cell hnm hnl).mono ?_
      rintro z W14 ⟨rfl, hbK⟩
      have H14 := H13.later hbK
      have hB14 := below_on hB13 hbK
      have HK := hid H14
      go_wp2_with fail
      refine hK.out _ _ (cells_at HK.out.step).1 (fun hHeld => ?_)
      clear hK K
      try simp only [Act.put, List.setIfInBounds_toArray, List.set_cons_zero, List.set_cons_succ]
      refine take_yes (i := 22) (v := ?ve22) rfl (by kernel_rfl) (by kernel_rfl) (by kernel_rfl) (fun _ _ _ h => h) (by rfl) ?hye22 hHeld ?reste22
      case hye22 =>
        intro w' hSw
        try dsimp only at hSw
        go_simp <;> with_reducible rfl
      try simp only [Act.put, List.setIfInBounds_toArray, List.set_cons_zero, List.set_cons_succ]
      refine take_yes (i := 23) (v := ?ve23) rfl (by kernel_rfl) (by kernel_rfl) (by kernel_rfl) (fun _ _ _ h => h) (by rfl) ?hye23 hHeld ?reste23
      case hye23 =>
        intro w' hSw
        try dsimp only at hSw
        go_simp <;> with_reducible rfl
      try simp only [Act.put, List.setIfInBounds_toArray, List.set_cons_zero, List.set_cons_succ]
      refine take_yes (i := 24) (v := ?ve24) rfl (by kernel_rfl) (by kernel_rfl) (by kernel_rfl) (fun _ _ _ h => h) (by rfl) ?hye24 hHeld ?reste24
      case hye24 =>
        intro w' hSw
        try dsimp only at hSw
        go_simp <;> with_reducible rfl
      try simp only [Act.put, List.setIfInBounds_toArray, List.set_cons_zero, List.set_cons_succ]
      refine take_yes (i := 26) (v := ?ve26) rfl (by kernel_rfl) (by kernel_rfl) (by kernel_rfl) (fun _ _ _ h => h) (by rfl) ?hye26 hHeld ?reste26
      case hye26 =>
        intro w' hSw
        try dsimp only at hSw
        go_simp <;> with_reducible rfl
      try simp only [Act.put, List.setIfInBounds_toArray, List.set_cons_zero, List.set_cons_succ]
      refine take_yes (i := 27) (v := ?ve27) rfl (by kernel_rfl) (by kernel_rfl) (by kernel_rfl) (fun _ _ _ h => h) (by rfl) ?hye27 hHeld ?reste27
      case hye27 =>
        intro w' hSw
        try dsimp only at hSw
        go_simp <;> with_reducible rfl
      try simp only [Act.put, List.setIfInBounds_toArray, List.set_cons_zero, List.set_cons_succ]
      clear hHeld
      refine wpAnyH_ready (rs := [25]) (by kernel_rfl) (by simp) (cons_at (i := 25) rfl (fun K hK => ?_) AllReadyH.nil)
      go_simp
      go_at_call 20
      with_reducible refine (tk_len H14.tab hn).mono ?_
      rintro z W15 ⟨rfl, hw⟩
      have hbK : Below W14.heap.size W14 W15 := (by rw [hw]; exact Below.refl _ _)
      have H15 := H14.later hbK
      have hB15 := below_on hB14 hbK
      have HK := hid H15
      clear hw
      go_wp2_with fail
      refine hK.out _ _ (cells_at HK.out.step).1 (fun hHeld => ?_)
      clear hK K
      try simp only [Act.put, List.setIfInBounds_toArray, List.set_cons_zero, List.set_cons_succ]
      refine take_yes (i := 28) (v := ?ve28) rfl (by kernel_rfl) (by kernel_rfl) (by kernel_rfl) (fun _ _ _ h => h) (by rfl) ?hye28 hHeld ?reste28
      case hye28 =>
        intro w' hSw
        try dsimp only at hSw
        go_simp <;> with_reducible rfl
      try simp only [Act.put, List.setIfInBounds_toArray, List.set_cons_zero, List.set_cons_succ]
      refine take_yes (i := 29) (v := ?ve29) rfl (by kernel_rfl) (by kernel_rfl) (by kernel_rfl) (fun _ _ _ h => h) (by rfl) ?hye29 hHeld ?reste29
      case hye29 =>
        intro w' hSw
        try dsimp only at hSw
        go_simp <;> with_reducible rfl
      try simp only [Act.put, List.setIfInBounds_toArray, List.set_cons_zero, List.set_cons_succ]
      refine take_yes (i := 30) (v := ?ve30) rfl (by kernel_rfl) (by kernel_rfl) (by kernel_rfl) (fun _ _ _ h => h) (by rfl) ?hye30 hHeld ?reste30
      case hye30 =>
        intro w' hSw
        try dsimp only at hSw
        go_simp <;> with_reducible rfl
      try simp only [Act.put, List.setIfInBounds_toArray, List.set_cons_zero, List.set_cons_succ]
      refine take_yes (i := 31) (v := ?ve31) rfl (by kernel_rfl) (by kernel_rfl) (by kernel_rfl) (fun _ _ _ h => h) (by rfl) ?hye31 hHeld ?reste31
      case hye31 =>
        intro w' hSw
        try dsimp only at hSw
        go_simp <;> with_reducible rfl
      try simp only [Act.put, List.setIfInBounds_toArray, List.set_cons_zero, List.set_cons_succ]
      refine take_yes (i := 32) (v := ?ve32) rfl (by kernel_rfl) (by kernel_rfl) (by kernel_rfl) (fun _ _ _ h => h) (by rfl) ?hye32 hHeld ?reste32
      case hye32 =>
        intro w' hSw
        try dsimp only at hSw
        go_simp <;> with_reducible rfl
      try simp only [Act.put, List.setIfInBounds_toArray, List.set_cons_zero, List.set_cons_succ]
      refine take_yes (i := 33) (v := ?ve33) rfl (by kernel_rfl) (by kernel_rfl) (by kernel_rfl) (fun _ _ _ h => h) (by rfl) ?hye33 hHeld ?reste33
      case hye33 =>
        intro w' hSw
        try dsimp only at hSw
        go_simp <;> with_reducible rfl
      try simp only [Act.put, List.setIfInBounds_toArray, List.set_cons_zero, List.set_cons_succ]
      refine take_yes (i := 34) (v := ?ve34) rfl (by kernel_rfl) (by kernel_rfl) (by kernel_rfl) (fun _ _ _ h => h) (by rfl) ?hye34 hHeld ?reste34
      case hye34 =>
        intro w' hSw
        try dsimp only at hSw
        go_simp <;> with_reducible rfl
      try simp only [Act.put, List.setIfInBounds_toArray, List.set_cons_zero, List.set_cons_succ]
      refine take_yes (i := 35) (v := ?ve35) rfl (by kernel_rfl) (by kernel_rfl) (by kernel_rfl) (fun _ _ _ h => h) (by rfl) ?hye35 hHeld ?reste35
      case hye35 =>
        intro w' hSw
        try dsimp only at hSw
        go_simp <;> with_reducible rfl
      try simp only [Act.put, List.setIfInBounds_toArray, List.set_cons_zero, List.set_cons_succ]
      refine take_yes (i := 36) (v := ?ve36) rfl (by kernel_rfl) (by kernel_rfl) (by kernel_rfl) (fun _ _ _ h => h) (by rfl) ?hye36 hHeld ?reste36
      case hye36 =>
        intro w' hSw
        try dsimp only at hSw
        go_simp <;> with_reducible rfl
      try simp only [Act.put, List.setIfInBounds_toArray, List.set_cons_zero, List.set_cons_succ]
      refine take_yes (i := 37) (v := ?ve37) rfl (by kernel_rfl) (by kernel_rfl) (by kernel_rfl) (fun _ _ _ h => h) (by rfl) ?hye37 hHeld ?reste37
      case hye37 =>
        intro w' hSw
        try dsimp only at hSw
        go_simp <;> with_reducible rfl
      try simp only [Act.put, List.setIfInBounds_toArray, List.set_cons_zero, List.set_cons_succ]
      refine take_yes (i := 38) (v := ?ve38) rfl (by kernel_rfl) (by kernel_rfl) (by kernel_rfl) (fun _ _ _ h => h) (by rfl) ?hye38 hHeld ?reste38
      case hye38 =>
        intro w' hSw
        try dsimp only at hSw
        go_simp <;> with_reducible rfl
      try simp only [Act.put, List.setIfInBounds_toArray, List.set_cons_zero, List.set_cons_succ]
      refine take_yes (i := 39) (v := ?ve39) rfl (by kernel_rfl) (by kernel_rfl) (by kernel_rfl) (fun _ _ _ h => h) (by rfl) ?hye39 hHeld ?reste39
      case hye39 =>
        intro w' hSw
        try dsimp only at hSw
        go_simp <;> with_reducible rfl
      try simp only [Act.put, List.setIfInBounds_toArray, List.set_cons_zero, List.set_cons_succ]
      refine take_no (i := 40) rfl (by kernel_rfl) (by kernel_rfl) (by kernel_rfl) (fun _ _ _ h => h) (by rfl) hHeld ?_
      try simp only [Act.put, List.setIfInBounds_toArray, List.set_cons_zero, List.set_cons_succ]
      refine take_no (i := 41) rfl (by kernel_rfl) (by kernel_rfl) (by kernel_rfl) (fun _ _ _ h => h) (by rfl) hHeld ?_
      try simp only [Act.put, List.setIfInBounds_toArray, List.set_cons_zero, List.set_cons_succ]
      refine take_no (i := 42) rfl (by kernel_rfl) (by kernel_rfl) (by kernel_rfl) (fun _ _ _ h => h) (by rfl) hHeld ?_
      try simp only [Act.put, List.setIfInBounds_toArray, List.set_cons_zero, List.set_cons_succ]
      refine take_no (i := 43) rfl (by kernel_rfl) (by kernel_rfl) (by kernel_rfl) (fun _ _ _ h => h) (by rfl) hHeld ?_
      try simp only [Act.put, List.setIfInBounds_toArray, List.set_cons_zero, List.set_cons_succ]
      refine take_no (i := 44) rfl (by kernel_rfl) (by kernel_rfl) (by kernel_rfl) (fun _ _ _ h => h) (by rfl) hHeld ?_
      try simp only [Act.put, List.setIfInBounds_toArray, List.set_cons_zero, List.set_cons_succ]
      refine take_no (i := 45) rfl (by kernel_rfl) (by kernel_rfl) (by kernel_rfl) (fun _ _ _ h => h) (by rfl) hHeld ?_
      try simp only [Act.put, List.setIfInBounds_toArray, List.set_cons_zero, List.set_cons_succ]
      refine take_yes (i := 46) (v := ?ve46) rfl (by kernel_rfl) (by kernel_rfl) (by kernel_rfl) (fun _ _ _ h => h) (by rfl) ?hye46 hHeld ?reste46
      case hye46 =>
        intro w' hSw
        try dsimp only at hSw
        go_simp <;> with_reducible rfl
      try simp only [Act.put, List.setIfInBounds_toArray, List.set_cons_zero, List.set_cons_succ]
      refine take_yes (i := 47) (v := ?ve47) rfl (by kernel_rfl) (by kernel_rfl) (by kernel_rfl) (fun _ _ _ h => h) (by rfl) ?hye47 hHeld ?reste47
      case hye47 =>
        intro w' hSw
        try dsimp only at hSw
        go_simp <;> with_reducible rfl
      try simp only [Act.put, List.setIfInBounds_toArray, List.set_cons_zero, List.set_cons_succ]
      refine take_yes (i := 48) (v := ?ve48) rfl (by kernel_rfl) (by kernel_rfl) (by kernel_rfl) (fun _ _ _ h => h) (by rfl) ?hye48 hHeld ?reste48
      case hye48 =>
        intro w' hSw
        try dsimp only at hSw
        go_simp <;> with_reducible rfl
      try simp only [Act.put, List.setIfInBounds_toArray, List.set_cons_zero, List.set_cons_succ]
      refine wpAnyH_done (by kernel_rfl) ?_ _
      go_wp2_with fail
      go_ret
      exact ⟨rfl, hB15⟩
    · obtain ⟨k, t, k1, k2, k3⟩ := atI_has hq.out
      obtain rfl : a = (k : Nat) := by rw [← ha.out]; exact k1
      obtain rfl : x = t := by rw [← hx.out, k3]; rfl
      have hkn : k < n := by rw [← hn.out]; exact (List.getElem?_eq_some_iff.1 k2).1
      have HK2 := hid k2
      clear k1 k2 k3
      go_upto_region 7 with fail
      have hQ := equal_th_at (eqT_self x)
      obtain ⟨b, off, rfl, hc⟩ := HA.out.row.at HK2.out
      clear hc
      have hkn' : (k : Int) < (n : Int) := by omega
      refine wp_region_held_drew (S := fun w' => (∀ i, w'.cell? ⟨w.heap.size, i, none⟩ = (#[.int .i64 s.k, .int .i64 s.c, .int .i64 s.t.id, .int .i64 s.t.x, .int .i64 s.t.y, .int .i64 s.t.f0.n, .string s.t.f0.s, .int .i64 s.t.f1.n, .string s.t.f1.s, .int .i64 s.t.f2.n, .string s.t.f2.s, .int .i64 s.t.f3.n, .string s.t.f3.s, .int .i64 s.r0, .int .i64 s.r1, .int .i64 s.r2, .int .i64 s.r3] : Array Value)[i]?) ∧ (∀ i, w'.cell? ⟨xb, i, none⟩ = (#[.int .i64 x.id, .int .i64 x.x, .int .i64 x.y, .int .i64 x.f0.n, .string x.f0.s, .int .i64 x.f1.n, .string x.f1.s, .int .i64 x.f2.n, .string x.f2.s, .int .i64 x.f3.n, .string x.f3.s] : Array Value)[i]?) ∧ cellsT w' b (off + k * 11) x) (by kernel_rfl) ⟨(cells_at HA.out.step).1, (cells_at HA.out.thing).1, al_row HA.out.row HK2.out⟩ (fun hHeld => ?_)
      refine take_yes (i := 0) (v := ?vd0) rfl (by kernel_rfl) (by kernel_rfl) (by kernel_rfl) (fun _ _ _ h => h) (by rfl) ?hyd0 hHeld ?restd0
      case hyd0 =>
        intro w' hSw
        try dsimp only at hSw
        go_simp <;> with_reducible rfl
      try simp only [Act.put, List.setIfInBounds_toArray, List.set_cons_zero, List.set_cons_succ]
      refine take_yes (i := 2) (v := ?vd2) rfl (by kernel_rfl) (by kernel_rfl) (by kernel_rfl) (fun _ _ _ h => h) (by rfl) ?hyd2 hHeld ?restd2
      case hyd2 =>
        intro w' hSw
        try dsimp only at hSw
        go_simp <;> with_reducible rfl
      try simp only [Act.put, List.setIfInBounds_toArray, List.set_cons_zero, List.set_cons_succ]
      clear hHeld
      refine wpAnyH_ready (rs := [1]) (by kernel_rfl) (by simp) (cons_at (i := 1) rfl (fun K hK => ?_) AllReadyH.nil)
      go_simp
      go_at_call 18
      with_reducible refine (tk_all (HA.out.later (by first | exact Below.refl _ _ | exact (Below.refl _ _).drew)).tab hn).mono ?_
      rintro z W8 ⟨p8, c8, rfl, R8, hbK⟩
      have H8 := (HA.out.later (by first | exact (Below.refl _ _).drew | exact Below.refl _ _)).later hbK
      have hB8 : Below w.heap.size w W8 := (by first | exact below_on hB6 hbK | exact below_on hB6.drew hbK)
      have HK := hid H8
      go_wp2_with fail
      refine hK.out _ _ ⟨(cells_at HK.out.step).1, (cells_at HK.out.thing).1, al_row HK.out.row HK2.out⟩ (fun hHeld => ?_)
      clear hK K
      try simp only [Act.put, List.setIfInBounds_toArray, List.set_cons_zero, List.set_cons_succ]
      clear hHeld
      refine wpAnyH_ready (rs := [3]) (by kernel_rfl) (by simp) (cons_at (i := 3) rfl (fun K hK => ?_) AllReadyH.nil)
      go_simp
      go_at_call 16
      with_reducible refine (same_at R8 H8.row hn hl9).mono ?_
      rintro z W9 ⟨rfl, hbK⟩
      have H9 := H8.later hbK
      have hB9 := below_on hB8 hbK
      have HK := hid H9
      go_wp2_with fail
      refine hK.out _ _ ⟨(cells_at HK.out.step).1, (cells_at HK.out.thing).1, al_row HK.out.row HK2.out⟩ (fun hHeld => ?_)
      clear hK K
      try simp only [Act.put, List.setIfInBounds_toArray, List.set_cons_zero, List.set_cons_succ]
      refine take_yes (i := 4) (v := ?vd4) rfl (by kernel_rfl) (by kernel_rfl) (by kernel_rfl) (fun _ _ _ h => h) (by rfl) ?hyd4 hHeld ?restd4
      case hyd4 =>
        intro w' hSw
        try dsimp only at hSw
        go_simp <;> with_reducible rfl
      try simp only [Act.put, List.setIfInBounds_toArray, List.set_cons_zero, List.set_cons_succ]
      refine take_yes (i := 5) (v := ?vd5) rfl (by kernel_rfl) (by kernel_rfl) (by kernel_rfl) (fun _ _ _ h => h) (by rfl) ?hyd5 hHeld ?restd5
      case hyd5 =>
        intro w' hSw
        try dsimp only at hSw
        go_simp <;> with_reducible rfl
      try simp only [Act.put, List.setIfInBounds_toArray, List.set_cons_zero, List.set_cons_succ]
      refine take_yes (i := 6) (v := ?vd6) rfl (by kernel_rfl) (by kernel_rfl) (by kernel_rfl) (fun _ _ _ h => h) (by rfl) ?hyd6 hHeld ?restd6
      case hyd6 =>
        intro w' hSw
        try dsimp only at hSw
        go_simp <;> with_reducible rfl
      try simp only [Act.put, List.setIfInBounds_toArray, List.set_cons_zero, List.set_cons_succ]
      refine take_yes (i := 7) (v := ?vd7) rfl (by kernel_rfl) (by kernel_rfl) (by kernel_rfl) (fun _ _ _ h => h) (by rfl) ?hyd7 hHeld ?restd7
      case hyd7 =>
        intro w' hSw
        try dsimp only at hSw
        go_simp <;> with_reducible rfl
      try simp only [Act.put, List.setIfInBounds_toArray, List.set_cons_zero, List.set_cons_succ]
      refine take_yes (i := 9) (v := ?vd9) rfl (by kernel_rfl) (by kernel_rfl) (by kernel_rfl) (fun _ _ _ h => h) (by rfl) ?hyd9 hHeld ?restd9
      case hyd9 =>
        intro w' hSw
        try dsimp only at hSw
        go_simp <;> with_reducible rfl
      try simp only [Act.put, List.setIfInBounds_toArray, List.set_cons_zero, List.set_cons_succ]
      refine take_yes (i := 10) (v := ?vd10) rfl (by kernel_rfl) (by kernel_rfl) (by kernel_rfl) (fun _ _ _ h => h) (by rfl) ?hyd10 hHeld ?restd10
      case hyd10 =>
        intro w' hSw
        try dsimp only at hSw
        go_simp <;> with_reducible rfl
      try simp only [Act.put, List.setIfInBounds_toArray, List.set_cons_zero, List.set_cons_succ]
      refine take_yes (i := 11) (v := ?vd11) rfl (by kernel_rfl) (by kernel_rfl) (by kernel_rfl) (fun _ _ _ h => h) (by rfl) ?hyd11 hHeld ?restd11
      case hyd11 =>
        intro w' hSw
        try dsimp only at hSw
        go_simp <;> with_reducible rfl
      try simp only [Act.put, List.setIfInBounds_toArray, List.set_cons_zero, List.set_cons_succ]
      clear hHeld
      refine wpAnyH_ready (rs := [8]) (by kernel_rfl) (by simp) (cons_at (i := 8) rfl (fun K hK => ?_) AllReadyH.nil)
      go_simp
      go_at_call 22
      with_reducible refine (tk_in H9.tab s.r0 s.r1 s.r2 s.r3 hN hnn).mono ?_
      rintro z W10 ⟨p10, c10, rfl, R10, hbK⟩
      have H10 := H9.later hbK
      have hB10 := below_on hB9 hbK
      have HK := hid H10
      go_wp2_with fail
      refine hK.out _ _ ⟨(cells_at HK.out.step).1, (cells_at HK.out.thing).1, al_row HK.out.row HK2.out⟩ (fun hHeld => ?_)
      clear hK K
      try simp only [Act.put, List.setIfInBounds_toArray, List.set_cons_zero, List.set_cons_succ]
      clear hHeld
      refine wpAnyH_ready (rs := [12]) (by kernel_rfl) (by simp) (cons_at (i := 12) rfl (fun K hK => ?_) AllReadyH.nil)
      go_simp
      go_at_call 35
      with_reducible refine (ref_seen H10.row hn hl9 s.r0 s.r1 s.r2 s.r3 hN hnn).mono ?_
      rintro z W11 ⟨p11, c11, rfl, R11, hbK⟩
      have H11 := H10.later hbK
      have R10 := R10.later hbK
      have hB11 := below_on hB10 hbK
      have HK := hid H11
      go_wp2_with fail
      refine hK.out _ _ ⟨(cells_at HK.out.step).1, (cells_at HK.out.thing).1, al_row HK.out.row HK2.out⟩ (fun hHeld => ?_)
      clear hK K
      try simp only [Act.put, List.setIfInBounds_toArray, List.set_cons_zero, List.set_cons_succ]
      clear hHeld
      refine wpAnyH_ready (rs := [13]) (by kernel_rfl) (by simp) (cons_at (i := 13) rfl (fun K hK => ?_) AllReadyH.nil)
      go_simp
      go_at_call 16
      with_reducible refine (same_at R10 R11 hnn hnn9).mono ?_
      rintro z W12 ⟨rfl, hbK⟩
      have H12 := H11.later hbK
      have hB12 := below_on hB11 hbK
      have HK := hid H12
      go_wp2_with fail
      refine hK.out _ _ ⟨(cells_at HK.out.step).1, (cells_at HK.out.thing).1, al_row HK.out.row HK2.out⟩ (fun hHeld => ?_)
      clear hK K
      try simp only [Act.put, List.setIfInBounds_toArray, List.set_cons_zero, List.set_cons_succ]
      refine take_yes (i := 14) (v := ?vd14) rfl (by kernel_rfl) (by kernel_rfl) (by kernel_rfl) (fun _ _ _ h => h) (by rfl) ?hyd14 hHeld ?restd14
      case hyd14 =>
        intro w' hSw
        try dsimp only at hSw
        go_simp <;> with_reducible rfl
      try simp only [Act.put, List.setIfInBounds_toArray, List.set_cons_zero, List.set_cons_succ]
      refine take_yes (i := 15) (v := ?vd15) rfl (by kernel_rfl) (by kernel_rfl) (by kernel_rfl) (fun _ _ _ h => h) (by rfl) ?hyd15 hHeld ?restd15
      case hyd15 =>
        intro w' hSw
        try dsimp only at hSw
        go_simp <;> with_reducible rfl
      try simp only [Act.put, List.setIfInBounds_toArray, List.set_cons_zero, List.set_cons_succ]
      refine take_yes (i := 16) (v := ?vd16) rfl (by kernel_rfl) (by kernel_rfl) (by kernel_rfl) (fun _ _ _ h => h) (by rfl) ?hyd16 hHeld ?restd16
      case hyd16 =>
        intro w' hSw
        try dsimp only at hSw
        go_simp <;> with_reducible rfl
      try simp only [Act.put, List.setIfInBounds_toArray, List.set_cons_zero, List.set_cons_succ]
      refine take_yes (i := 17) (v := ?vd17) rfl (by kernel_rfl) (by kernel_rfl) (by kernel_rfl) (fun _ _ _ h => h) (by rfl) ?hyd17 hHeld ?restd17
      case hyd17 =>
        intro w' hSw
        try dsimp only at hSw
        go_simp <;> with_reducible rfl
      try simp only [Act.put, List.setIfInBounds_toArray, List.set_cons_zero, List.set_cons_succ]
      refine take_yes (i := 18) (v := ?vd18) rfl (by kernel_rfl) (by kernel_rfl) (by kernel_rfl) (fun _ _ _ h => h) (by rfl) ?hyd18 hHeld ?restd18
      case hyd18 =>
        intro w' hSw
        try dsimp only at hSw
        go_simp <;> with_reducible rfl
      try simp only [Act.put, List.setIfInBounds_toArray, List.set_cons_zero, List.set_cons_succ]
      refine take_yes (i := 20) (v := ?vd20) rfl (by kernel_rfl) (by kernel_rfl) (by kernel_rfl) (fun _ _ _ h => h) (by rfl) ?hyd20 hHeld ?restd20
      case hyd20 =>
        intro w' hSw
        try dsimp only at hSw
        go_simp <;> with_reducible rfl
      try simp only [Act.put, List.setIfInBounds_toArray, List.set_cons_zero, List.set_cons_succ]
      clear hHeld
      refine wpAnyH_ready (rs := [19]) (by kernel_rfl) (by simp) (cons_at (i := 19) rfl (fun K hK => ?_) AllReadyH.nil)
      go_simp
      go_at_call 21
      with_reducible refine (tk_cell H12.tab s.c hM hnm).mono ?_
      rintro z W13 ⟨p13, c13, rfl, R13, hbK⟩
      have H13 := H12.later hbK
      have hB13 := below_on hB12 hbK
      have HK := hid H13
      go_wp2_with fail
      refine hK.out _ _ ⟨(cells_at HK.out.step).1, (cells_at HK.out.thing).1, al_row HK.out.row HK2.out⟩ (fun hHeld => ?_)
      clear hK K
      try simp only [Act.put, List.setIfInBounds_toArray, List.set_cons_zero, List.set_cons_succ]
      clear hHeld
      refine wpAnyH_ready (rs := [21]) (by kernel_rfl) (by simp) (cons_at (i := 21) rfl (fun K hK => ?_) AllReadyH.nil)
      go_simp
      go_at_call 16
      with_reducible refine (same_at R13 H13.cell hnm hnl).mono ?_
      rintro z W14 ⟨rfl, hbK⟩
      have H14 := H13.later hbK
      have hB14 := below_on hB13 hbK
      have HK := hid H14
      go_wp2_with fail
      refine hK.out _ _ ⟨(cells_at HK.out.step).1, (cells_at HK.out.thing).1, al_row HK.out.row HK2.out⟩ (fun hHeld => ?_)
      clear hK K
      try simp only [Act.put, List.setIfInBounds_toArray, List.set_cons_zero, List.set_cons_succ]
      refine take_yes (i := 22) (v := ?vd22) rfl (by kernel_rfl) (by kernel_rfl) (by kernel_rfl) (fun _ _ _ h => h) (by rfl) ?hyd22 hHeld ?restd22
      case hyd22 =>
        intro w' hSw
        try dsimp only at hSw
        go_simp <;> with_reducible rfl
      try simp only [Act.put, List.setIfInBounds_toArray, List.set_cons_zero, List.set_cons_succ]
      refine take_yes (i := 23) (v := ?vd23) rfl (by kernel_rfl) (by kernel_rfl) (by kernel_rfl) (fun _ _ _ h => h) (by rfl) ?hyd23 hHeld ?restd23
      case hyd23 =>
        intro w' hSw
        try dsimp only at hSw
        go_simp <;> with_reducible rfl
      try simp only [Act.put, List.setIfInBounds_toArray, List.set_cons_zero, List.set_cons_succ]
      refine take_yes (i := 24) (v := ?vd24) rfl (by kernel_rfl) (by kernel_rfl) (by kernel_rfl) (fun _ _ _ h => h) (by rfl) ?hyd24 hHeld ?restd24
      case hyd24 =>
        intro w' hSw
        try dsimp only at hSw
        go_simp <;> with_reducible rfl
      try simp only [Act.put, List.setIfInBounds_toArray, List.set_cons_zero, List.set_cons_succ]
      refine take_yes (i := 26) (v := ?vd26) rfl (by kernel_rfl) (by kernel_rfl) (by kernel_rfl) (fun _ _ _ h => h) (by rfl) ?hyd26 hHeld ?restd26
      case hyd26 =>
        intro w' hSw
        try dsimp only at hSw
        go_simp <;> with_reducible rfl
      try simp only [Act.put, List.setIfInBounds_toArray, List.set_cons_zero, List.set_cons_succ]
      refine take_yes (i := 27) (v := ?vd27) rfl (by kernel_rfl) (by kernel_rfl) (by kernel_rfl) (fun _ _ _ h => h) (by rfl) ?hyd27 hHeld ?restd27
      case hyd27 =>
        intro w' hSw
        try dsimp only at hSw
        go_simp <;> with_reducible rfl
      try simp only [Act.put, List.setIfInBounds_toArray, List.set_cons_zero, List.set_cons_succ]
      clear hHeld
      refine wpAnyH_ready (rs := [25]) (by kernel_rfl) (by simp) (cons_at (i := 25) rfl (fun K hK => ?_) AllReadyH.nil)
      go_simp
      go_at_call 20
      with_reducible refine (tk_len H14.tab hn).mono ?_
      rintro z W15 ⟨rfl, hw⟩
      have hbK : Below W14.heap.size W14 W15 := (by rw [hw]; exact Below.refl _ _)
      have H15 := H14.later hbK
      have hB15 := below_on hB14 hbK
      have HK := hid H15
      clear hw
      go_wp2_with fail
      refine hK.out _ _ ⟨(cells_at HK.out.step).1, (cells_at HK.out.thing).1, al_row HK.out.row HK2.out⟩ (fun hHeld => ?_)
      clear hK K
      try simp only [Act.put, List.setIfInBounds_toArray, List.set_cons_zero, List.set_cons_succ]
      refine take_yes (i := 28) (v := ?vd28) rfl (by kernel_rfl) (by kernel_rfl) (by kernel_rfl) (fun _ _ _ h => h) (by rfl) ?hyd28 hHeld ?restd28
      case hyd28 =>
        intro w' hSw
        try dsimp only at hSw
        go_simp <;> with_reducible rfl
      try simp only [Act.put, List.setIfInBounds_toArray, List.set_cons_zero, List.set_cons_succ]
      refine take_yes (i := 29) (v := ?vd29) rfl (by kernel_rfl) (by kernel_rfl) (by kernel_rfl) (fun _ _ _ h => h) (by rfl) ?hyd29 hHeld ?restd29
      case hyd29 =>
        intro w' hSw
        try dsimp only at hSw
        go_simp <;> with_reducible rfl
      try simp only [Act.put, List.setIfInBounds_toArray, List.set_cons_zero, List.set_cons_succ]
      refine take_yes (i := 30) (v := ?vd30) rfl (by kernel_rfl) (by kernel_rfl) (by kernel_rfl) (fun _ _ _ h => h) (by rfl) ?hyd30 hHeld ?restd30
      case hyd30 =>
        intro w' hSw
        try dsimp only at hSw
        go_simp <;> with_reducible rfl
      try simp only [Act.put, List.setIfInBounds_toArray, List.set_cons_zero, List.set_cons_succ]
      refine take_yes (i := 31) (v := ?vd31) rfl (by kernel_rfl) (by kernel_rfl) (by kernel_rfl) (fun _ _ _ h => h) (by rfl) ?hyd31 hHeld ?restd31
      case hyd31 =>
        intro w' hSw
        try dsimp only at hSw
        go_simp <;> with_reducible rfl
      try simp only [Act.put, List.setIfInBounds_toArray, List.set_cons_zero, List.set_cons_succ]
      refine take_yes (i := 32) (v := ?vd32) rfl (by kernel_rfl) (by kernel_rfl) (by kernel_rfl) (fun _ _ _ h => h) (by rfl) ?hyd32 hHeld ?restd32
      case hyd32 =>
        intro w' hSw
        try dsimp only at hSw
        go_simp <;> with_reducible rfl
      try simp only [Act.put, List.setIfInBounds_toArray, List.set_cons_zero, List.set_cons_succ]
      refine take_yes (i := 33) (v := ?vd33) rfl (by kernel_rfl) (by kernel_rfl) (by kernel_rfl) (fun _ _ _ h => h) (by rfl) ?hyd33 hHeld ?restd33
      case hyd33 =>
        intro w' hSw
        try dsimp only at hSw
        go_simp <;> with_reducible rfl
      try simp only [Act.put, List.setIfInBounds_toArray, List.set_cons_zero, List.set_cons_succ]
      refine take_yes (i := 34) (v := ?vd34) rfl (by kernel_rfl) (by kernel_rfl) (by kernel_rfl) (fun _ _ _ h => h) (by rfl) ?hyd34 hHeld ?restd34
      case hyd34 =>
        intro w' hSw
        try dsimp only at hSw
        go_simp <;> with_reducible rfl
      try simp only [Act.put, List.setIfInBounds_toArray, List.set_cons_zero, List.set_cons_succ]
      refine take_yes (i := 35) (v := ?vd35) rfl (by kernel_rfl) (by kernel_rfl) (by kernel_rfl) (fun _ _ _ h => h) (by rfl) ?hyd35 hHeld ?restd35
      case hyd35 =>
        intro w' hSw
        try dsimp only at hSw
        go_simp <;> with_reducible rfl
      try simp only [Act.put, List.setIfInBounds_toArray, List.set_cons_zero, List.set_cons_succ]
      refine take_yes (i := 36) (v := ?vd36) rfl (by kernel_rfl) (by kernel_rfl) (by kernel_rfl) (fun _ _ _ h => h) (by rfl) ?hyd36 hHeld ?restd36
      case hyd36 =>
        intro w' hSw
        try dsimp only at hSw
        go_simp <;> with_reducible rfl
      try simp only [Act.put, List.setIfInBounds_toArray, List.set_cons_zero, List.set_cons_succ]
      refine take_yes (i := 37) (v := ?vd37) rfl (by kernel_rfl) (by kernel_rfl) (by kernel_rfl) (fun _ _ _ h => h) (by rfl) ?hyd37 hHeld ?restd37
      case hyd37 =>
        intro w' hSw
        try dsimp only at hSw
        go_simp <;> with_reducible rfl
      try simp only [Act.put, List.setIfInBounds_toArray, List.set_cons_zero, List.set_cons_succ]
      refine take_yes (i := 38) (v := ?vd38) rfl (by kernel_rfl) (by kernel_rfl) (by kernel_rfl) (fun _ _ _ h => h) (by rfl) ?hyd38 hHeld ?restd38
      case hyd38 =>
        intro w' hSw
        try dsimp only at hSw
        go_simp <;> with_reducible rfl
      try simp only [Act.put, List.setIfInBounds_toArray, List.set_cons_zero, List.set_cons_succ]
      refine take_yes (i := 39) (v := ?vd39) rfl (by kernel_rfl) (by kernel_rfl) (by kernel_rfl) (fun _ _ _ h => h) (by rfl) ?hyd39 hHeld ?restd39
      case hyd39 =>
        intro w' hSw
        try dsimp only at hSw
        go_simp <;> with_reducible rfl
      try simp only [Act.put, List.setIfInBounds_toArray, List.set_cons_zero, List.set_cons_succ]
      refine take_yes (i := 40) (v := ?vd40) rfl (by kernel_rfl) (by kernel_rfl) (by kernel_rfl) (fun _ _ _ h => h) (by rfl) ?hyd40 hHeld ?restd40
      case hyd40 =>
        intro w' hSw
        try dsimp only at hSw
        go_simp <;> with_reducible rfl
      try simp only [Act.put, List.setIfInBounds_toArray, List.set_cons_zero, List.set_cons_succ]
      refine take_yes (i := 41) (v := ?vd41) rfl (by kernel_rfl) (by kernel_rfl) (by kernel_rfl) (fun _ _ _ h => h) (by rfl) ?hyd41 hHeld ?restd41
      case hyd41 =>
        intro w' hSw
        try dsimp only at hSw
        go_simp <;> with_reducible rfl
      try simp only [Act.put, List.setIfInBounds_toArray, List.set_cons_zero, List.set_cons_succ]
      refine take_yes (i := 42) (v := ?vd42) rfl (by kernel_rfl) (by kernel_rfl) (by kernel_rfl) (fun _ _ _ h => h) (by rfl) ?hyd42 hHeld ?restd42
      case hyd42 =>
        intro w' hSw
        try dsimp only at hSw
        go_simp <;> with_reducible rfl
      try simp only [Act.put, List.setIfInBounds_toArray, List.set_cons_zero, List.set_cons_succ]
      refine take_yes (i := 43) (v := ?vd43) rfl (by kernel_rfl) (by kernel_rfl) (by kernel_rfl) (fun _ _ _ h => h) (by rfl) ?hyd43 hHeld ?restd43
      case hyd43 =>
        intro w' hSw
        try dsimp only at hSw
        go_simp <;> with_reducible rfl
      try simp only [Act.put, List.setIfInBounds_toArray, List.set_cons_zero, List.set_cons_succ]
      refine take_yes (i := 44) (v := ?vd44) rfl (by kernel_rfl) (by kernel_rfl) (by kernel_rfl) (fun _ _ _ h => h) (by rfl) ?hyd44 hHeld ?restd44
      case hyd44 =>
        intro w' hSw
        try dsimp only at hSw
        go_simp <;> with_reducible rfl
      try simp only [Act.put, List.setIfInBounds_toArray, List.set_cons_zero, List.set_cons_succ]
      refine take_yes (i := 45) (v := ?vd45) rfl (by kernel_rfl) (by kernel_rfl) (by kernel_rfl) (fun _ _ _ h => h) (by rfl) ?hyd45 hHeld ?restd45
      case hyd45 =>
        intro w' hSw
        try dsimp only at hSw
        go_simp <;> with_reducible rfl
      try simp only [Act.put, List.setIfInBounds_toArray, List.set_cons_zero, List.set_cons_succ]
      refine take_yes (i := 46) (v := ?vd46) rfl (by kernel_rfl) (by kernel_rfl) (by kernel_rfl) (fun _ _ _ h => h) (by rfl) ?hyd46 hHeld ?restd46
      case hyd46 =>
        intro w' hSw
        try dsimp only at hSw
        go_simp <;> with_reducible rfl
      try simp only [Act.put, List.setIfInBounds_toArray, List.set_cons_zero, List.set_cons_succ]
      refine take_yes (i := 47) (v := ?vd47) rfl (by kernel_rfl) (by kernel_rfl) (by kernel_rfl) (fun _ _ _ h => h) (by rfl) ?hyd47 hHeld ?restd47
      case hyd47 =>
        intro w' hSw
        try dsimp only at hSw
        go_simp <;> with_reducible rfl
      try simp only [Act.put, List.setIfInBounds_toArray, List.set_cons_zero, List.set_cons_succ]
      refine take_yes (i := 48) (v := ?vd48) rfl (by kernel_rfl) (by kernel_rfl) (by kernel_rfl) (fun _ _ _ h => h) (by rfl) ?hyd48 hHeld ?restd48
      case hyd48 =>
        intro w' hSw
        try dsimp only at hSw
        go_simp <;> with_reducible rfl
      try simp only [Act.put, List.setIfInBounds_toArray, List.set_cons_zero, List.set_cons_succ]
      refine wpAnyH_done (by kernel_rfl) ?_ _
      go_wp2_with fail
      go_ret
      exact ⟨rfl, hB15⟩
end Go.Proofs.YtildhbkcpehobaaGreatDoor

