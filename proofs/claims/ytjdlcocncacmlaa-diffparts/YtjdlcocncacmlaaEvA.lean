/- Contracts of Is of the package event and of the reference: both say what the plain function says; nothing that was there is changed. -/
import Derived.Test.YtjdlcocncacmlaaEvM
import Derived.Test.YtjdlcocncacmlaaHA
namespace Go.Proofs.Ytjdlcocncacmlaa
open Go.RowKit
set_option linter.unusedVariables false
def Ev.a (e : Ev) : Array Value := #[.int .i64 e.k, .int .i64 e.i, .int .i64 e.t.id, .int .i64 e.t.x, .int .i64 e.t.y, .int .i64 e.t.f0.n, .string e.t.f0.s, .int .i64 e.t.f1.n, .string e.t.f1.s, .int .i64 e.t.f2.n, .string e.t.f2.s, .int .i64 e.t.f3.n, .string e.t.f3.s, .int .i64 e.d.id, .int .u8 e.d.m, .int .i64 e.d.x, .int .i64 e.d.y, .int .i64 e.d.f0.n, .string e.d.f0.s, .int .i64 e.d.f1.n, .string e.d.f1.s, .int .i64 e.d.f2.n, .string e.d.f2.s, .int .i64 e.d.f3.n, .string e.d.f3.s]
theorem built_1 (k i : Int) (t : Th) : Try.prog.built 44 [(0, .int .i64 k), (1, .int .i64 i), (2, t.v)] = some (Ev.a ⟨k, i, t, zD⟩) := by kernel_rfl
theorem built_2 (k i : Int) (d : Dl) : Try.prog.built 44 [(0, .int .i64 k), (1, .int .i64 i), (3, d.v)] = some (Ev.a ⟨k, i, zT, d⟩) := by kernel_rfl
theorem built_3 (k i : Int) : Try.prog.built 44 [(0, .int .i64 k), (1, .int .i64 i)] = some (Ev.a ⟨k, i, zT, zD⟩) := by kernel_rfl
theorem built_0 : Try.prog.built 44 [] = some (Ev.a zE) := by kernel_rfl
theorem wpList_build_ev {ops : Array Oper} {rest : List Oper} {o : Oper} {a : Act} {W : World} {Q : Exit → Act → World → Prop} (hw : Region.wanted o (yielded ops a.tmps) = true) (parts : Array (Nat × Operand)) (ho : o.op = .build 44 parts)
    {c : Ev} (hb : Try.prog.built 44 (parts.map fun (i, x) => (i, a.eval x)).toList = some c.a) (k : wpList Try.prog ops Q rest (a.put o.dst c.v) W) : wpList Try.prog ops Q (o :: rest) a W := by
  rw [wpList, if_pos hw]
  exact .inl (wp_build _ _ ho (by rw [hb]; rfl) (by rw [hb]; exact k))
theorem wpList_build_1 {ops : Array Oper} {rest : List Oper} {o : Oper} {a : Act} {W : World} {Q : Exit → Act → World → Prop} (hw : Region.wanted o (yielded ops a.tmps) = true) (x y z : Operand) (ho : o.op = .build 44 #[(0, x), (1, y), (2, z)])
    {m i : Int} {t : Th} (hx : a.eval x = .int .i64 m) (hy : a.eval y = .int .i64 i) (hz : a.eval z = t.v) (k : wpList Try.prog ops Q rest (a.put o.dst (⟨m, i, t, zD⟩ : Ev).v) W) : wpList Try.prog ops Q (o :: rest) a W :=
  wpList_build_ev hw _ ho (by simp only [List.map_toArray, List.map_cons, List.map_nil, hx, hy, hz]; exact built_1 m i t) k
theorem wpList_build_2 {ops : Array Oper} {rest : List Oper} {o : Oper} {a : Act} {W : World} {Q : Exit → Act → World → Prop} (hw : Region.wanted o (yielded ops a.tmps) = true) (x y z : Operand) (ho : o.op = .build 44 #[(0, x), (1, y), (3, z)])
    {m i : Int} {t : Dl} (hx : a.eval x = .int .i64 m) (hy : a.eval y = .int .i64 i) (hz : a.eval z = t.v) (k : wpList Try.prog ops Q rest (a.put o.dst (⟨m, i, zT, t⟩ : Ev).v) W) : wpList Try.prog ops Q (o :: rest) a W :=
  wpList_build_ev hw _ ho (by simp only [List.map_toArray, List.map_cons, List.map_nil, hx, hy, hz]; exact built_2 m i t) k
theorem wpList_build_3 {ops : Array Oper} {rest : List Oper} {o : Oper} {a : Act} {W : World} {Q : Exit → Act → World → Prop} (hw : Region.wanted o (yielded ops a.tmps) = true) (x y : Operand) (ho : o.op = .build 44 #[(0, x), (1, y)])
    {m i : Int} (hx : a.eval x = .int .i64 m) (hy : a.eval y = .int .i64 i) (k : wpList Try.prog ops Q rest (a.put o.dst (⟨m, i, zT, zD⟩ : Ev).v) W) : wpList Try.prog ops Q (o :: rest) a W :=
  wpList_build_ev hw _ ho (by simp only [List.map_toArray, List.map_cons, List.map_nil, hx, hy]; exact built_3 m i) k
theorem wpList_build_0 {ops : Array Oper} {rest : List Oper} {o : Oper} {a : Act} {W : World} {Q : Exit → Act → World → Prop} (hw : Region.wanted o (yielded ops a.tmps) = true) (ho : o.op = .build 44 #[])
    (k : wpList Try.prog ops Q rest (a.put o.dst zE.v) W) : wpList Try.prog ops Q (o :: rest) a W :=
  wpList_build_ev hw _ ho (by simp only [List.map_toArray, List.map_nil]; exact built_0) k
theorem dD_at {d : Dl} {q : Bool} (h : Hid (isD d = q)) (hi : inD d) (w : World) : Calls Try.prog 27 #[d.v] w fun e w' => e = .returned (.bool q) ∧ Below w.heap.size w w' := by
  obtain ⟨hm, i0, i1, i2, i3⟩ := hi
  have hs : ∀ k, (d.f k).s.size ≤ maxLen := fun k => by
    match k with
    | 0 => exact i0.1
    | 1 => exact i1.1
    | 2 => exact i2.1
    | k + 3 => exact i3.1
  have := fields_isDelta w d hm hs
  rw [h.out] at this
  exact this
theorem ret_b {a b : Bool} (h : a = b) : Ending.returned (.bool a) = .returned (.bool b) := by rw [h]
set_option maxRecDepth 100000 in
set_option maxHeartbeats 4000000 in
theorem event_is1 {e : Ev} {q : Bool} (h : Hid (isE e = q)) (hi : inE e) (k1 : e.k = 1) (w : World) : Calls Try.prog 17 #[e.v] w fun x w' => x = .returned (.bool q) ∧ Below w.heap.size w w' := by
  obtain ⟨W, hW⟩ : ∃ W, W = w.alloc e.o := ⟨_, rfl⟩
  have hE : Below w.heap.size w W := by rw [hW]; exact below1 _ _
  have K := hid (show W.heap[w.heap.size]? = some e.o by rw [hW]; exact new_at _ _ _ rfl)
  have lK := at_lt K.out
  have c := cells_at K.out
  obtain ⟨it, id⟩ := hi
  obtain ⟨p, hp⟩ : ∃ p, Hid (isT e.t = p) := ⟨_, rfl⟩
  obtain ⟨r, hr⟩ : ∃ r, Hid (eqE e ⟨e.k, e.t.id, e.t, zD⟩ = r) := ⟨_, rfl⟩
  have hq : Hid ((p && r) = q) := by show (p && r) = q; rw [← h.out, isE_1 k1, hp.out, ← hr.out, k1]
  have hQ := equal_ev_at hr.out
  clear h hr
  have HT := fun w => isT_at hp w it
  clear hp
  have e1 : (e.k == 1) = true := by simp [k1]
  clear k1
  go_enter Try.func17, Try.ntmps17
  go_upto_region 1 with fail
  rw [← hW]
  clear hW
  go_wp2_with fail
  refine (HT _).mono ?_
  rintro x w1 ⟨rfl, hb1⟩
  have K2 := hid (var_on hb1 K.out lK)
  have hB := below_on hE hb1
  clear hb1 hE K c lK HT
  have c := cells_at K2.out
  cases p
  · go_wp2_with fail
    go_ret
    exact ⟨ret_b (by rw [← hq.out]; rfl), hB⟩
  · go_wp2_with (first
      | ((with_reducible refine wpList_load_evG ?_ (.tmp 1) rfl rfl K2.out ?_); · rfl)
      | ((with_reducible refine wpList_build_1 ?_ (.tmp 13) (.tmp 16) (.tmp 18) rfl rfl rfl rfl ?_); · rfl))
    go_ret
    exact ⟨ret_b (by rw [← hq.out]; rfl), hB⟩
set_option maxRecDepth 100000 in
set_option maxHeartbeats 4000000 in
theorem event_is2 {e : Ev} {q : Bool} (h : Hid (isE e = q)) (hi : inE e) (k1 : ¬ e.k = 1) (k2 : e.k = 2) (w : World) : Calls Try.prog 17 #[e.v] w fun x w' => x = .returned (.bool q) ∧ Below w.heap.size w w' := by
  obtain ⟨W, hW⟩ : ∃ W, W = w.alloc e.o := ⟨_, rfl⟩
  have hE : Below w.heap.size w W := by rw [hW]; exact below1 _ _
  have K := hid (show W.heap[w.heap.size]? = some e.o by rw [hW]; exact new_at _ _ _ rfl)
  have lK := at_lt K.out
  have c := cells_at K.out
  obtain ⟨it, id⟩ := hi
  obtain ⟨p, hp⟩ : ∃ p, Hid (isD e.d = p) := ⟨_, rfl⟩
  obtain ⟨r, hr⟩ : ∃ r, Hid (eqE e ⟨e.k, e.d.id, zT, e.d⟩ = r) := ⟨_, rfl⟩
  have hq : Hid ((p && r) = q) := by show (p && r) = q; rw [← h.out, isE_2 k2, hp.out, ← hr.out, k2]
  have hQ := equal_ev_at hr.out
  clear h hr
  have HT := fun w => dD_at hp id w
  clear hp
  have e1 : (e.k == 1) = false := by simp [k2]
  have e2 : (e.k == 2) = true := by simp [k2]
  clear k1 k2
  go_enter Try.func17, Try.ntmps17
  go_upto_region 1 with fail
  rw [← hW]
  clear hW
  go_wp2_with fail
  refine (HT _).mono ?_
  rintro x w1 ⟨rfl, hb1⟩
  have K2 := hid (var_on hb1 K.out lK)
  have hB := below_on hE hb1
  clear hb1 hE K c lK HT
  have c := cells_at K2.out
  cases p
  · go_wp2_with fail
    go_ret
    exact ⟨ret_b (by rw [← hq.out]; rfl), hB⟩
  · go_wp2_with (first
      | ((with_reducible refine wpList_load_evG ?_ (.tmp 1) rfl rfl K2.out ?_); · rfl)
      | ((with_reducible refine wpList_build_2 ?_ (.tmp 30) (.tmp 33) (.tmp 35) rfl rfl rfl rfl ?_); · rfl))
    go_ret
    exact ⟨ret_b (by rw [← hq.out]; rfl), hB⟩
set_option maxRecDepth 100000 in
set_option maxHeartbeats 4000000 in
theorem event_is3 {e : Ev} {q : Bool} (h : Hid (isE e = q)) (hi : inE e) (k1 : ¬ e.k = 1) (k2 : ¬ e.k = 2) (k3 : e.k = 3) (w : World) : Calls Try.prog 17 #[e.v] w fun x w' => x = .returned (.bool q) ∧ Below w.heap.size w w' := by
  obtain ⟨W, hW⟩ : ∃ W, W = w.alloc e.o := ⟨_, rfl⟩
  have hE : Below w.heap.size w W := by rw [hW]; exact below1 _ _
  have K := hid (show W.heap[w.heap.size]? = some e.o by rw [hW]; exact new_at _ _ _ rfl)
  have lK := at_lt K.out
  have c := cells_at K.out
  obtain ⟨it, id⟩ := hi
  obtain ⟨r, hr⟩ : ∃ r, Hid (eqE e ⟨e.k, e.i, zT, zD⟩ = r) := ⟨_, rfl⟩
  have hQ := equal_ev_at hr.out
  have e1 : (e.k == 1) = false := by simp [k3]
  have e2 : (e.k == 2) = false := by simp [k3]
  have e3 : (e.k == 3) = true := by simp [k3]
  have hq : Hid ((decide (0 ≤ e.i) && (decide (e.i ≤ 1000000) && r)) = q) := by show _ = q; rw [← h.out, isE_3 k3, ← hr.out, k3]
  clear h hr k1 k2 k3 it id
  by_cases l1 : 0 ≤ e.i
  · have d1 : decide (0 ≤ e.i) = true := by simpa using l1
    by_cases l2 : e.i ≤ 1000000
    · have d2 : decide (e.i ≤ 1000000) = true := by simpa using l2
      rw [d1, d2] at hq
      clear l1 l2
      go_enter Try.func17, Try.ntmps17
      go_upto_region 1 with fail
      rw [← hW]
      clear hW
      go_wp2_with (first
        | ((with_reducible refine wpList_load_evG ?_ (.tmp 1) rfl rfl K.out ?_); · rfl)
        | ((with_reducible refine wpList_build_3 ?_ (.tmp 52) (.tmp 54) rfl rfl rfl ?_); · rfl))
      go_ret
      exact ⟨ret_b (by rw [← hq.out]; rfl), hE⟩
    · have d2 : decide (e.i ≤ 1000000) = false := by simpa using l2
      rw [d1, d2] at hq
      clear l1 l2
      go_enter Try.func17, Try.ntmps17
      go_upto_region 1 with fail
      rw [← hW]
      clear hW
      go_wp2_with fail
      go_ret
      exact ⟨ret_b (by rw [← hq.out]; rfl), hE⟩
  · have d1 : decide (0 ≤ e.i) = false := by simpa using l1
    rw [d1] at hq
    clear l1
    go_enter Try.func17, Try.ntmps17
    go_upto_region 1 with fail
    rw [← hW]
    clear hW
    go_wp2_with fail
    go_ret
    exact ⟨ret_b (by rw [← hq.out]; rfl), hE⟩
set_option maxRecDepth 100000 in
set_option maxHeartbeats 4000000 in
theorem event_is4 {e : Ev} {q : Bool} (h : Hid (isE e = q)) (hi : inE e) (k1 : ¬ e.k = 1) (k2 : ¬ e.k = 2) (k3 : ¬ e.k = 3) (w : World) : Calls Try.prog 17 #[e.v] w fun x w' => x = .returned (.bool q) ∧ Below w.heap.size w w' := by
  obtain ⟨W, hW⟩ : ∃ W, W = w.alloc e.o := ⟨_, rfl⟩
  have hE : Below w.heap.size w W := by rw [hW]; exact below1 _ _
  have K := hid (show W.heap[w.heap.size]? = some e.o by rw [hW]; exact new_at _ _ _ rfl)
  have lK := at_lt K.out
  have c := cells_at K.out
  obtain ⟨it, id⟩ := hi
  have e1 : (e.k == 1) = false := by simp [k1]
  have e2 : (e.k == 2) = false := by simp [k2]
  have e3 : (e.k == 3) = false := by simp [k3]
  have hq : Hid (false = q) := by show _ = q; rw [← h.out, isE_4 k1 k2 k3]
  clear h k1 k2 k3 it id
  go_enter Try.func17, Try.ntmps17
  go_upto_region 1 with fail
  rw [← hW]
  clear hW
  go_wp2_with fail
  go_ret
  exact ⟨ret_b hq.out, hE⟩
theorem event_is {e : Ev} {q : Bool} (h : Hid (isE e = q)) (hi : inE e) (w : World) : Calls Try.prog 17 #[e.v] w fun x w' => x = .returned (.bool q) ∧ Below w.heap.size w w' := by
  by_cases k1 : e.k = 1
  · exact event_is1 h hi k1 w
  · by_cases k2 : e.k = 2
    · exact event_is2 h hi k1 k2 w
    · by_cases k3 : e.k = 3
      · exact event_is3 h hi k1 k2 k3 w
      · exact event_is4 h hi k1 k2 k3 w
end Go.Proofs.Ytjdlcocncacmlaa
