/- Contracts of Seen of the package diff and of the reference: each returns those that the plain function says, in new memory; nothing that was there is changed. The contract of ahead of the package diff: whether the next of one row comes ahead of all that is left of the other. Laws of their own at single operations of regions that draw: a thing loaded, an event built, the rest of a row taken; what is left of a row in memory. -/
import Derived.Test.YtjdlcocncacmlaaEO
import Derived.Test.YtjdlcocncacmlaaDA
import Derived.WalkMore
import Derived.Deep.Cut
namespace Go.Proofs.Ytjdlcocncacmlaa
section
open Go.RowKit
set_option linter.unusedVariables false
abbrev rcO (x0 y0 x1 y1 : Int) : Obj := .cells #[.int .i64 x0, .int .i64 y0, .int .i64 x1, .int .i64 y1] 24 (0, 0)
theorem ownsD_mono {w : World} {base base' : Nat} {e : TypeId} {size : Nat} {v : Value} {n : Nat} {xs : List Value} (h : w.ownsRow base e size v n xs) (hb : base' ≤ base) : w.ownsRow base' e size v n xs := by
  refine ⟨h.1, ?_⟩
  rcases h.2 with h1 | ⟨g, cap, cur, h1, h2, h3⟩
  · exact .inl h1
  · exact .inr ⟨g, cap, cur, h1, by omega, h3⟩
theorem seenIn_at {r : Rc} {x y : Int} {q : Bool} (h : Hid (inB r x y = q)) (w : World) : Calls Try.prog 25 #[rc r.x0 r.y0 r.x1 r.y1, pt x y] w fun e w' => e = .returned (.bool q) ∧ Below w.heap.size w w' := by
  have := geom_in w r.x0 r.y0 r.x1 r.y1 x y
  rw [show inB ⟨r.x0, r.y0, r.x1, r.y1⟩ x y = q from h.out] at this
  exact this
theorem seenRef_at {r : Rc} {x y : Int} {q : Bool} (h : Hid (inB r x y = q)) (w : World) : Calls Try.prog 19 #[rc r.x0 r.y0 r.x1 r.y1, pt x y] w fun e w' => e = .returned (.bool q) ∧ Below w.heap.size w w' := by
  have := ref_in w r.x0 r.y0 r.x1 r.y1 x y
  rw [show inB ⟨r.x0, r.y0, r.x1, r.y1⟩ x y = q from h.out] at this
  exact this
def SeenPost (w : World) (M : List Th) (m : Nat) : Ending → World → Prop := fun x w' => ∃ p cap, x = .returned (.slice p m cap) ∧ w'.ownsRow w.heap.size 40 11 (.slice p m cap) m (flatT M) ∧ Below w.heap.size w w'
set_option maxRecDepth 100000 in
set_option maxHeartbeats 2000000 in
theorem diff_seen {w : World} {p : Option Addr} {cap : Nat} {L : List Th} (hr : RowT w p L) {n : Nat} (hn : Hid (L.length = n)) (hl : n ≤ 400) {r : Rc} {M : List Th} (hM : Hid (seenL r L = M)) {m : Nat} (hm : Hid (M.length = m)) :
    Calls Try.prog 15 #[.slice p n cap, rc r.x0 r.y0 r.x1 r.y1] w (SeenPost w M m) := by
  obtain ⟨i0, hi, hz0, hz1, hz2⟩ := info_parts Try.infoT
  obtain ⟨W0, hW0⟩ : ∃ W0, w.alloc (rcO r.x0 r.y0 r.x1 r.y1) = W0 := ⟨_, rfl⟩
  have hE : Below w.heap.size w W0 := by rw [← hW0]; exact below1 _ _
  have K := hid (show W0.heap[w.heap.size]? = some (rcO r.x0 r.y0 r.x1 r.y1) by rw [← hW0]; exact new_at _ _ _ rfl)
  have HR := hid (hr.later hE)
  clear hr
  obtain ⟨g0, hg0⟩ : ∃ g, Hid (w.heap.size = g) := ⟨_, rfl⟩
  obtain ⟨Q, hQ⟩ : ∃ Q, Hid (SeenPost w M m = Q) := ⟨_, rfl⟩
  rw [hQ.out]
  go_enter Try.func15, Try.ntmps15
  go_upto_region 1 with fail
  try rw [hW0]
  clear hW0
  rw [hg0.out] at K ⊢
  have hE0 := hid hE
  clear hE
  go_wp2_with fail
  go_loopw [10, 5] (fun s10 s5 wr => ∃ (k : Nat) (A : List Th), k ≤ n ∧ s10 = .int .i64 (k : Nat) ∧ Hid (seenL r (L.take k) = A) ∧ A.length ≤ k ∧ wr.ownsRow W0.heap.size 40 11 s5 A.length (flatT A) ∧ Below W0.heap.size W0 wr) (fun s10 _ _ => n - (intOf s10).toNat)
  case atStart => exact ⟨0, [], by omega, rfl, (show Hid _ from rfl), by simp, World.ownsRow_nil _ _ _ _, Below.refl _ _⟩
  case round =>
    obtain ⟨k, A, hk, rfl, hA, hAl, ho, hb⟩ := hrel
    obtain ⟨p5, c5, rfl⟩ := owns_slice ho
    by_cases hlt : k < n
    · have hlt' : (k : Int) < (n : Int) := by omega
      obtain ⟨t, ht⟩ := get_th L k (by rw [hn.out]; exact hlt)
      obtain ⟨b, off, rfl, hc⟩ := (HR.out.later hb).at ht
      have HT := hid ht
      clear ht
      have hs := hb.size
      go_upto_region 5 with fail
      obtain ⟨W1, hW1⟩ : ∃ W1, wr.alloc t.o = W1 := ⟨_, rfl⟩
      have hb1 : Below W0.heap.size W0 W1 := by rw [← hW1]; exact hb.alloc hs _
      have ho1 : W1.ownsRow W0.heap.size 40 11 (.slice p5 A.length c5) A.length (flatT A) := by rw [← hW1]; exact ho.alloc _
      have KT := hid (show W1.heap[wr.heap.size]? = some t.o by rw [← hW1]; exact new_at _ _ _ rfl)
      have KR := hid (var_on hb1 K.out (at_lt K.out))
      try rw [hW1]
      clear hW1 hc hb ho
      obtain ⟨gT, hgT⟩ : ∃ g, Hid (wr.heap.size = g) := ⟨_, rfl⟩
      rw [hgT.out] at KT ⊢
      clear hgT hs
      have ct := (cells_at KT.out).1
      have cr := (cells_at KR.out).1
      obtain ⟨q, hq⟩ : ∃ q, Hid (inB r t.x t.y = q) := ⟨_, rfl⟩
      go_wp2_with fail
      refine (seenIn_at hq _).mono ?_
      rintro x w2 ⟨rfl, hb2⟩
      have KT2 := hid (var_on hb2 KT.out (at_lt KT.out))
      have ho2 := owns_on ho1 hb2
      have hb3 := below_on hb1 hb2
      have hs3 := hb3.size
      clear ct cr hb2 hb1 ho1 KT KR
      cases q
      · have e := hid (show seenL r (L.take (k + 1)) = A by rw [seen_take HT.out, if_neg (by rw [hq.out]; decide), hA.out])
        go_wp2_with fail
        go_roundw
        case rel => exact ⟨k + 1, A, by omega, by go_num, e, by omega, ho2, hb3⟩
        case measure => simp [intOf]; omega
      · have e := hid (show seenL r (L.take (k + 1)) = A ++ [t] by rw [seen_take HT.out, if_pos hq.out, hA.out])
        have ct := (cells_at KT2.out).1
        go_wp2_with (at_builtin; refine wpList_append_lies _ rfl _ _ 22 rfl W0.heap.size 40 i0 zT.v 11 120 Try.underlying22 hi hz0 hz1 hz2 rfl (by decide) _ _ _ rfl (ho2.alloc _) ⟨w2.heap.size, 0, none⟩ 1 1 t.cs rfl rfl (World.news_of_block (heap_alloc_new _ _)) (cs_one t) (by decide) (by unfold maxLen; omega) (by omega) (by simp; omega) (w2.heap.size + 1) (by simp) ?_; intro g cap' w5 hown hgrow hat hg5)
        go_roundw
        case rel =>
          refine ⟨k + 1, A ++ [t], by omega, by go_num, e, by simp; omega, ?_, ?_⟩
          · rw [flatT_append, flatT_one, List.length_append]; exact hown
          · exact (hb3.alloc hs3 _).grown hgrow (by simp; omega) (fun k hk => (ho2.lt k hk).1)
        case measure => simp [intOf]; omega
    · obtain rfl : k = n := by omega
      have hlt' : ¬ (k : Int) < (k : Int) := by omega
      have e : A = M := by rw [← hA.out, List.take_of_length_le (by rw [hn.out]; omega), hM.out]
      subst e
      rw [hm.out] at ho
      have hm2 := hm.out
      go_wp2_with fail
      rw [← hQ.out]
      exact ⟨p5, c5, by rw [← hm2], ownsD_mono ho (by have := hE0.out.size; omega), below_on hE0.out hb⟩
set_option maxRecDepth 100000 in
set_option maxHeartbeats 2000000 in
theorem ref_seen {w : World} {p : Option Addr} {cap : Nat} {L : List Th} (hr : RowT w p L) {n : Nat} (hn : Hid (L.length = n)) (hl : n ≤ 400) {r : Rc} {M : List Th} (hM : Hid (seenL r L = M)) {m : Nat} (hm : Hid (M.length = m)) :
    Calls Try.prog 16 #[.slice p n cap, rc r.x0 r.y0 r.x1 r.y1] w (SeenPost w M m) := by
  obtain ⟨i0, hi, hz0, hz1, hz2⟩ := info_parts Try.infoT
  obtain ⟨W0, hW0⟩ : ∃ W0, w.alloc (rcO r.x0 r.y0 r.x1 r.y1) = W0 := ⟨_, rfl⟩
  have hE : Below w.heap.size w W0 := by rw [← hW0]; exact below1 _ _
  have K := hid (show W0.heap[w.heap.size]? = some (rcO r.x0 r.y0 r.x1 r.y1) by rw [← hW0]; exact new_at _ _ _ rfl)
  have HR := hid (hr.later hE)
  clear hr
  obtain ⟨g0, hg0⟩ : ∃ g, Hid (w.heap.size = g) := ⟨_, rfl⟩
  obtain ⟨Q, hQ⟩ : ∃ Q, Hid (SeenPost w M m = Q) := ⟨_, rfl⟩
  rw [hQ.out]
  go_enter Try.func16, Try.ntmps16
  go_upto_region 1 with fail
  try rw [hW0]
  clear hW0
  rw [hg0.out] at K ⊢
  have hE0 := hid hE
  clear hE
  go_wp2_with fail
  go_loopw [6, 5] (fun s10 s5 wr => ∃ (k : Nat) (A : List Th), k ≤ n ∧ s10 = .int .i64 (k : Nat) ∧ Hid (seenL r (L.take k) = A) ∧ A.length ≤ k ∧ wr.ownsRow W0.heap.size 40 11 s5 A.length (flatT A) ∧ Below W0.heap.size W0 wr) (fun s10 _ _ => n - (intOf s10).toNat)
  case atStart => exact ⟨0, [], by omega, rfl, (show Hid _ from rfl), by simp, World.ownsRow_nil _ _ _ _, Below.refl _ _⟩
  case round =>
    obtain ⟨k, A, hk, rfl, hA, hAl, ho, hb⟩ := hrel
    obtain ⟨p5, c5, rfl⟩ := owns_slice ho
    by_cases hlt : k < n
    · have hlt' : (k : Int) < (n : Int) := by omega
      obtain ⟨t, ht⟩ := get_th L k (by rw [hn.out]; exact hlt)
      obtain ⟨b, off, rfl, hc⟩ := (HR.out.later hb).at ht
      have HT := hid ht
      have HC := hid hc
      clear ht
      have hs := hb.size
      have KR := hid (var_on hb K.out (at_lt K.out))
      obtain ⟨q, hq⟩ : ∃ q, Hid (inB r t.x t.y = q) := ⟨_, rfl⟩
      have gp := grown_cells KR.out
      have gx := cell_regrown hc.2.1
      have gy := cell_regrown hc.2.2.1
      have C2 := fun W => seenRef_at hq W
      clear hc
      go_upto_region 5 with fail
      refine wp_region_quiet_below (by kernel_rfl) (by kernel_rfl) ?_
      repeat (first | go_big_quiet_skip | (go_big_quiet_want; go_big_quiet_op; first | go_big_quiet_on | go_big_quiet_call (first | with_reducible exact Calls.regrown_of (C2 _))))
      refine wpQuiet_nil ?_
      intro w2 hw'
      obtain ⟨⟨dq, osq⟩, hw''⟩ := hw'
      have hb2 : Below wr.heap.size wr w2 := by rw [hw'']; exact below_regrown _ _ _
      have hc2 := cellsT_later HC.out hb2
      have ho2 := owns_on ho hb2
      have hb3 := below_on hb hb2
      have hs3 := hb3.size
      clear hw'' gp gx gy C2 hb2 hb ho KR HC hs
      cases q
      · have e := hid (show seenL r (L.take (k + 1)) = A by rw [seen_take HT.out, if_neg (by rw [hq.out]; decide), hA.out])
        go_wp2_with fail
        go_roundw
        case rel => exact ⟨k + 1, A, by omega, by go_num, e, by omega, ho2, hb3⟩
        case measure => simp [intOf]; omega
      · have e := hid (show seenL r (L.take (k + 1)) = A ++ [t] by rw [seen_take HT.out, if_pos hq.out, hA.out])
        go_wp2_with (at_builtin; refine wpList_append_lies _ rfl _ _ 22 rfl W0.heap.size 40 i0 zT.v 11 120 Try.underlying22 hi hz0 hz1 hz2 rfl (by decide) _ _ _ rfl (ho2.alloc _) ⟨w2.heap.size, 0, none⟩ 1 1 t.cs rfl rfl (World.news_of_block (heap_alloc_new _ _)) (cs_one t) (by decide) (by unfold maxLen; omega) (by omega) (by simp; omega) (w2.heap.size + 1) (by simp) ?_; intro g cap' w5 hown hgrow hat hg5)
        go_roundw
        case rel =>
          refine ⟨k + 1, A ++ [t], by omega, by go_num, e, by simp; omega, ?_, ?_⟩
          · rw [flatT_append, flatT_one, List.length_append]; exact hown
          · exact (hb3.alloc hs3 _).grown hgrow (by simp; omega) (fun k hk => (ho2.lt k hk).1)
        case measure => simp [intOf]; omega
    · obtain rfl : k = n := by omega
      have hlt' : ¬ (k : Int) < (k : Int) := by omega
      have e : A = M := by rw [← hA.out, List.take_of_length_le (by rw [hn.out]; omega), hM.out]
      subst e
      rw [hm.out] at ho
      have hm2 := hm.out
      go_wp2_with fail
      rw [← hQ.out]
      exact ⟨p5, c5, by rw [← hm2], ownsD_mono ho (by have := hE0.out.size; omega), below_on hE0.out hb⟩
end
section
open Go.RowKit
set_option linter.unusedVariables false
def aheadB : List Th → List Th → Bool
  | [], _ => false
  | _ :: _, [] => true
  | a :: _, b :: _ => decide (a.id < b.id)
set_option maxRecDepth 100000 in
set_option maxHeartbeats 1000000 in
theorem diff_ahead {w : World} {p p' : Option Addr} {cap cap' : Nat} {A B : List Th} (hA : RowT w p A) (hB : RowT w p' B) {n m : Nat} (hn : Hid (A.length = n)) (hm : Hid (B.length = m)) {q : Bool} (hq : Hid (aheadB A B = q)) :
    Calls Try.prog 22 #[.slice p n cap, .slice p' m cap'] w fun e w' => e = .returned (.bool q) ∧ Below w.heap.size w w' := by
  have HA := hid hA
  have HB := hid hB
  clear hA hB
  obtain ⟨Q, hQ⟩ : ∃ Q : Ending → World → Prop, Hid ((fun e w' => e = .returned (.bool q) ∧ Below w.heap.size w w') = Q) := ⟨_, rfl⟩
  rw [hQ.out]
  go_enter Try.func22, Try.ntmps22
  go_upto_region 1 with fail
  cases A with
  | nil =>
    obtain rfl : q = false := hq.out.symm
    have d1 : decide (0 < n) = false := by have := hn.out; simp at this; simp; omega
    go_quiet (fail)
    go_wp2_with fail
    rw [← hQ.out]
    exact ⟨rfl, below_drewN (Below.refl _ _) _⟩
  | cons a A =>
    have d1 : decide (0 < n) = true := by have := hn.out; simp at this; simp; omega
    cases B with
    | nil =>
      obtain rfl : q = true := hq.out.symm
      have d2 : ((m : Int) == 0) = true := by have := hm.out; simp at this; simp; omega
      go_quiet (fail)
      go_wp2_with fail
      rw [← hQ.out]
      exact ⟨rfl, below_drewN (Below.refl _ _) _⟩
    | cons b B =>
      have hq' : decide (a.id < b.id) = q := hq.out
      have d2 : ((m : Int) == 0) = false := by have := hm.out; simp at this; simp; omega
      have n1 : (0 : Int) < (n : Int) := by simpa using d1
      have m1 : (0 : Int) < (m : Int) := by have := hm.out; simp at this; omega
      obtain ⟨ba, oa, rfl, ca⟩ := HA.out.at (k := 0) (t := a) rfl
      obtain ⟨bb, ob, rfl, cb⟩ := HB.out.at (k := 0) (t := b) rfl
      have c1 : w.cell? ⟨ba, oa, none⟩ = some (.int .i64 a.id) := by have := ca.1; rwa [Nat.zero_mul, Nat.add_zero] at this
      have c2 : w.cell? ⟨bb, ob, none⟩ = some (.int .i64 b.id) := by have := cb.1; rwa [Nat.zero_mul, Nat.add_zero] at this
      clear ca cb
      go_quiet (fail)
      go_wp2_with fail
      rw [← hQ.out]
      exact ⟨rfl, below_drewN (Below.refl _ _) _⟩
end
section
open Go.RowKit
set_option linter.unusedVariables false
theorem exec_load_mid_th {o : Oper} {a : Act} {W : World} (x : Operand) (ho : o.op = .load 40 x) {b p : Nat} {c : Th} (hx : a.eval x = .pointer (some ⟨b, p, none⟩)) (h : W.rangeAt b p c.cs) : (execOp a.eval o).run Try.prog W = .ok (.value c.v) W := by
  have e0 : (Instr.loadAt 40 (.pointer (some ⟨b, p, none⟩))).run Try.prog W = .ok c.v W := run_loadAt_mid W b p _ c.cs _ h Try.underlying40 rfl Try.sizeT11
  unfold execOp
  simp only [ho, hx, Sem.run_bind, e0, Result.andThen_ok, Sem.run_pure]
theorem exec_build_ev {o : Oper} {a : Act} {W : World} (parts : Array (Nat × Operand)) (ho : o.op = .build 44 parts) {c : Ev} (hb : Try.prog.built 44 (parts.map fun (i, x) => (i, a.eval x)).toList = some c.a) : (execOp a.eval o).run Try.prog W = .ok (.value c.v) W := by
  unfold execOp
  simp only [ho, Sem.run_bind, run_build W 44 _ c.a hb, Result.andThen_ok]
  rfl
theorem exec_build_1 {o : Oper} {a : Act} {W : World} (x y z : Operand) (ho : o.op = .build 44 #[(0, x), (1, y), (2, z)]) {m i : Int} {t : Th} (hx : a.eval x = .int .i64 m) (hy : a.eval y = .int .i64 i) (hz : a.eval z = t.v) : (execOp a.eval o).run Try.prog W = .ok (.value (⟨m, i, t, zD⟩ : Ev).v) W :=
  exec_build_ev _ ho (by simp only [List.map_toArray, List.map_cons, List.map_nil, hx, hy, hz]; exact built_1 m i t)
theorem wpList_load_dl {ops : Array Oper} {rest : List Oper} {o : Oper} {a : Act} {W : World} {Q : Exit → Act → World → Prop} (hgd : o.guard = none) (x : Operand) (ho : o.op = .load 42 x)
    {g : Nat} {c : Dl} (hx : a.eval x = .pointer (some ⟨g, 0, none⟩)) (h : W.heap[g]? = some c.o) (k : wpList Try.prog ops Q rest (a.put o.dst c.v) W) : wpList Try.prog ops Q (o :: rest) a W :=
  wpList_load_row hgd _ x ho g hx _ _ _ _ h Try.underlying42 rfl Try.sizeD12 k
theorem range_th {W : World} {b o : Nat} {t : Th} (h : cellsT W b o t) : W.rangeAt b o t.cs := fun j v hv => by
  obtain ⟨h0, h1, h2, h3, h4, h5, h6, h7, h8, h9, h10⟩ := h
  match j, hv with
  | 0, hv => cases hv; exact h0
  | 1, hv => cases hv; exact h1
  | 2, hv => cases hv; exact h2
  | 3, hv => cases hv; exact h3
  | 4, hv => cases hv; exact h4
  | 5, hv => cases hv; exact h5
  | 6, hv => cases hv; exact h6
  | 7, hv => cases hv; exact h7
  | 8, hv => cases hv; exact h8
  | 9, hv => cases hv; exact h9
  | 10, hv => cases hv; exact h10
  | j + 11, hv => simp [Th.cs] at hv
/-- the rest of a row -/
def tailP (p : Option Addr) (c : Nat) : Option Addr := if c = 1 then p else p.map (·.add 11)
theorem run_tail {n c : Nat} {p : Option Addr} (h1 : 1 ≤ n) (h2 : n ≤ c) (W : World) : (Instr.slice 22 (.slice p n c) (some (.int .i64 1)) none none).run Try.prog W = .ok (.slice (tailP p c) (n - 1) (c - 1)) W := by
  have hs : ∀ W, (Go.sizeOf 40).run Try.prog W = .ok 11 W := fun W => by kernel_rfl
  have hb : ∀ (W : World) (code : BoundsCode), (Instr.sliceBound (.int .i64 1) n code).run Try.prog W = .ok 1 W := fun W code => run_sliceBound W .i64 1 n code (by omega) (by omega)
  simp [Instr.slice, run_underlying Try.underlying22, Instr.sliceBounds, hb, hs, tailP]
theorem RowT.tail {w : World} {p : Option Addr} {a : Th} {A : List Th} {c : Nat} (h : RowT w p (a :: A)) (hc : (a :: A).length ≤ c) : RowT w (tailP p c) A := by
  by_cases h0 : A = []
  · exact .inl h0
  · right
    rcases h with h | ⟨b, off, rfl, h⟩
    · cases h
    · have h1 : 0 < A.length := List.length_pos_iff.2 h0
      simp only [List.length_cons] at hc
      refine ⟨b, off + 11, ?_, fun k t hk => ?_⟩
      · unfold tailP
        rw [if_neg (by omega)]
        simp [Addr.add]
      · have := h (k + 1) t (by simpa using hk)
        rw [show off + 11 + k * 11 = off + (k + 1) * 11 by omega]
        exact this
def lenV : Value → Nat
  | .slice _ n _ => n
  | _ => 0
theorem owns_cap {W : World} {base : Nat} {e : TypeId} {size : Nat} {p : Option Addr} {n cap : Nat} {xs : List Value} (h : W.ownsRow base e size (.slice p n cap) n xs) : n ≤ cap := by
  by_cases h0 : n = 0
  · omega
  · obtain ⟨g, -, -, -, h1, -⟩ := owns_some h (by omega)
    exact h1
theorem diffE_at {a b : Th} {x : Dl} {q : Bool} (h : Hid (diff a b = (x, q))) (w : World) : Calls Try.prog 23 #[a.v, b.v] w fun e w' => e = .returned (.tuple #[x.v, .bool q]) ∧ Below w.heap.size w w' := by
  have := fields_diff w a b
  rw [h.out] at this
  exact this
theorem refdiffE_at {a b : Th} {y : Dl} {q : Bool} (h1 : Hid (dK a b 4 = y)) (h2 : Hid (decide (¬ y.m = 0) = q)) (w : World) : Calls Try.prog 24 #[a.v, b.v] w fun e w' => e = .returned (.tuple #[y.v, .bool q]) ∧ Below w.heap.size w w' := by
  have := ref_diff w a b
  rw [h1.out, h2.out] at this
  exact this
theorem step_store_dl {ops : Array Oper} {o : Oper} {a : Act} {W : World} {K : Act → World → Prop} {Q : Exit → Act → World → Prop} {E : Prop} (hgd : o.guard = none) (x y : Operand) (ho : o.op = .store 42 x y)
    {g : Nat} {c d : Dl} (hx : a.eval x = .pointer (some ⟨g, 0, none⟩)) (hy : a.eval y = c.v) (h : W.heap[g]? = some d.o) (k : ∀ W', W'.heap[g]? = some c.o → But g W W' → W'.heap.size = W.heap.size → K (a.put o.dst undef) W') :
    if Region.wanted o (yielded ops a.tmps) = true then Oper.wp Try.prog o a W K Q else E := by
  have hw : Region.wanted o (yielded ops a.tmps) = true := by simp [Region.wanted, hgd]
  rw [if_pos hw]
  exact wp_store_row 42 x y ho g _ hx hy _ _ h Try.sizeD12 rfl (by simp [Value.oneCell']) (k _ (setRow_heap W g _ _ _ _ h) ⟨rfl, rfl, rfl, by simp, fun i hi hg => setRow_other W g i _ hg⟩ (by simp))
end
end Go.Proofs.Ytjdlcocncacmlaa
