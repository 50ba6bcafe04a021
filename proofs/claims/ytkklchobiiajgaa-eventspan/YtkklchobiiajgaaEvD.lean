/- Contracts of rest, told of the package event: what stands behind the kind is read into the event; what is told of one. -/
import Derived.Test.YtkklchobiiajgaaEvC
namespace Go.Proofs.Ytkklchobiiajgaa
open Go.RowKit
set_option linter.unusedVariables false
theorem set_thing {W : World} {g : Nat} {e : Ev} (h : W.heap[g]? = some e.o) (t : Th) : (((((((((((W.setCell ⟨g, 2, none⟩ (.int .i64 t.id)).setCell ⟨g, 3, none⟩ (.int .i64 t.x)).setCell ⟨g, 4, none⟩ (.int .i64 t.y)).setCell ⟨g, 5, none⟩ (.int .i64 t.f0.n)).setCell ⟨g, 6, none⟩ (.string t.f0.s)).setCell ⟨g, 7, none⟩ (.int .i64 t.f1.n)).setCell ⟨g, 8, none⟩ (.string t.f1.s)).setCell ⟨g, 9, none⟩ (.int .i64 t.f2.n)).setCell ⟨g, 10, none⟩ (.string t.f2.s)).setCell ⟨g, 11, none⟩ (.int .i64 t.f3.n)).setCell ⟨g, 12, none⟩ (.string t.f3.s)).heap[g]? = some (⟨e.k, e.i, t, e.d⟩ : Ev).o := by
  obtain ⟨cur, a, b⟩ := setCells_block g t.cs 2 W _ h (by rw [Th.z]; simp)
  have e2 : cur = (⟨e.k, e.i, t, e.d⟩ : Ev).a := Array.ext' (b.trans rfl)
  rw [e2] at a
  exact a
theorem set_delta {W : World} {g : Nat} {e : Ev} (h : W.heap[g]? = some e.o) (d : Dl) : ((((((((((((W.setCell ⟨g, 13, none⟩ (.int .i64 d.id)).setCell ⟨g, 14, none⟩ (.int .u8 d.m)).setCell ⟨g, 15, none⟩ (.int .i64 d.x)).setCell ⟨g, 16, none⟩ (.int .i64 d.y)).setCell ⟨g, 17, none⟩ (.int .i64 d.f0.n)).setCell ⟨g, 18, none⟩ (.string d.f0.s)).setCell ⟨g, 19, none⟩ (.int .i64 d.f1.n)).setCell ⟨g, 20, none⟩ (.string d.f1.s)).setCell ⟨g, 21, none⟩ (.int .i64 d.f2.n)).setCell ⟨g, 22, none⟩ (.string d.f2.s)).setCell ⟨g, 23, none⟩ (.int .i64 d.f3.n)).setCell ⟨g, 24, none⟩ (.string d.f3.s)).heap[g]? = some (⟨e.k, e.i, e.t, d⟩ : Ev).o := by
  obtain ⟨cur, a, b⟩ := setCells_block g d.cs 13 W _ h (by rw [show d.cs.length = 12 from rfl]; simp)
  have e2 : cur = (⟨e.k, e.i, e.t, d⟩ : Ev).a := Array.ext' (b.trans rfl)
  rw [e2] at a
  exact a
theorem but_thing {w W : World} {g : Nat} (h : But g w W) (t : Th) : But g w (((((((((((W.setCell ⟨g, 2, none⟩ (.int .i64 t.id)).setCell ⟨g, 3, none⟩ (.int .i64 t.x)).setCell ⟨g, 4, none⟩ (.int .i64 t.y)).setCell ⟨g, 5, none⟩ (.int .i64 t.f0.n)).setCell ⟨g, 6, none⟩ (.string t.f0.s)).setCell ⟨g, 7, none⟩ (.int .i64 t.f1.n)).setCell ⟨g, 8, none⟩ (.string t.f1.s)).setCell ⟨g, 9, none⟩ (.int .i64 t.f2.n)).setCell ⟨g, 10, none⟩ (.string t.f2.s)).setCell ⟨g, 11, none⟩ (.int .i64 t.f3.n)).setCell ⟨g, 12, none⟩ (.string t.f3.s)) := (((((((((((h.setCell _ _).setCell _ _).setCell _ _).setCell _ _).setCell _ _).setCell _ _).setCell _ _).setCell _ _).setCell _ _).setCell _ _).setCell _ _)
theorem but_delta {w W : World} {g : Nat} (h : But g w W) (d : Dl) : But g w ((((((((((((W.setCell ⟨g, 13, none⟩ (.int .i64 d.id)).setCell ⟨g, 14, none⟩ (.int .u8 d.m)).setCell ⟨g, 15, none⟩ (.int .i64 d.x)).setCell ⟨g, 16, none⟩ (.int .i64 d.y)).setCell ⟨g, 17, none⟩ (.int .i64 d.f0.n)).setCell ⟨g, 18, none⟩ (.string d.f0.s)).setCell ⟨g, 19, none⟩ (.int .i64 d.f1.n)).setCell ⟨g, 20, none⟩ (.string d.f1.s)).setCell ⟨g, 21, none⟩ (.int .i64 d.f2.n)).setCell ⟨g, 22, none⟩ (.string d.f2.s)).setCell ⟨g, 23, none⟩ (.int .i64 d.f3.n)).setCell ⟨g, 24, none⟩ (.string d.f3.s)) := ((((((((((((h.setCell _ _).setCell _ _).setCell _ _).setCell _ _).setCell _ _).setCell _ _).setCell _ _).setCell _ _).setCell _ _).setCell _ _).setCell _ _).setCell _ _)
theorem dl_fit {d : Dl} (h : isD d = true) (hi : inD d) : ∀ k, fitF (d.f k) := fun k => by
  obtain ⟨_, _, _, _, _, _, _, _, hs, _⟩ := isD_small h
  have h1 := hs k
  obtain ⟨_, i0, i1, i2, i3⟩ := hi
  refine ⟨by omega, ?_⟩
  match k with
  | 0 => exact i0.2
  | 1 => exact i1.2
  | 2 => exact i2.2
  | k + 3 => exact i3.2
/-- what rest leaves -/
def RestPost (w : World) (g : Nat) (x : Ev) (z e : Nat) : Ending → World → Prop := fun y w' => y = .returned (.tuple #[.int .i64 z, .int .i64 e]) ∧ w'.heap[g]? = some x.o ∧ But g w w'
set_option maxRecDepth 100000 in
set_option maxHeartbeats 2000000 in
theorem event_rest1 {s : ByteArray} {w : World} {g z e : Nat} {x : Ev} (h : Hid (restE 1 s.data.toList = (x, z, e))) (hs : s.size ≤ 1000000) (hg : w.heap[g]? = some (⟨1, 0, zT, zD⟩ : Ev).o) :
    Calls Try.prog 49 #[.pointer (some ⟨g, 0, none⟩), .string s] w (RestPost w g x z e) := by
  rcases hr : readT s.data.toList with ⟨t, n, f⟩
  have e1 := h.out
  rw [restE_1 hr] at e1
  simp only [Prod.mk.injEq] at e1
  obtain ⟨rfl, rfl, rfl⟩ := e1
  have HT := fun w => thing_read hr hs w
  have G := hid hg
  have lg := at_lt hg
  have c := cells_at hg
  clear hg h hr
  obtain ⟨Q, hQ0⟩ : ∃ Q, RestPost w g ⟨1, t.id, t, zD⟩ n f = Q := ⟨_, rfl⟩
  rw [hQ0]
  have HQ := hid hQ0
  clear hQ0
  go_enter Try.func49, Try.ntmps49
  go_wp2_with fail
  refine (HT _).mono ?_
  rintro u w1 ⟨rfl, hb⟩
  have G1 := hid (var_on hb G.out lg)
  have B1 := hid (But.of_below (g := g) hb)
  clear HT c G hb lg
  have c := cells_at G1.out
  have lg := at_lt G1.out
  go_upto_region 5 with fail
  obtain ⟨W2, hW2⟩ : ∃ W2, W2 = (((((((((((w1.setCell ⟨g, 2, none⟩ (Value.int .i64 t.id)).setCell ⟨g, 3, none⟩ (Value.int .i64 t.x)).setCell ⟨g, 4, none⟩ (Value.int .i64 t.y)).setCell ⟨g, 5, none⟩ (Value.int .i64 t.f0.n)).setCell ⟨g, 6, none⟩ (Value.string t.f0.s)).setCell ⟨g, 7, none⟩ (Value.int .i64 t.f1.n)).setCell ⟨g, 8, none⟩ (Value.string t.f1.s)).setCell ⟨g, 9, none⟩ (Value.int .i64 t.f2.n)).setCell ⟨g, 10, none⟩ (Value.string t.f2.s)).setCell ⟨g, 11, none⟩ (Value.int .i64 t.f3.n)).setCell ⟨g, 12, none⟩ (Value.string t.f3.s)) := ⟨_, rfl⟩
  have G2 := hid (show W2.heap[g]? = some (⟨1, 0, t, zD⟩ : Ev).o by rw [hW2]; exact set_thing G1.out t)
  have B2 := hid (show But g w W2 by rw [hW2]; exact but_thing B1.out t)
  rw [← hW2]
  clear hW2 c G1 B1
  have c := cells_at G2.out
  go_wp2_with fail
  rw [← HQ.out]
  exact ⟨rfl, set_at G2.out _ rfl, B2.out.setCell _ _⟩
set_option maxRecDepth 100000 in
set_option maxHeartbeats 2000000 in
theorem event_rest2 {s : ByteArray} {w : World} {g z e : Nat} {x : Ev} (h : Hid (restE 2 s.data.toList = (x, z, e))) (hs : s.size ≤ 1000000) (hg : w.heap[g]? = some (⟨2, 0, zT, zD⟩ : Ev).o) :
    Calls Try.prog 49 #[.pointer (some ⟨g, 0, none⟩), .string s] w (RestPost w g x z e) := by
  rcases hr : read s.data.toList with ⟨d, n, f⟩
  have e1 := h.out
  rw [restE_2 hr] at e1
  simp only [Prod.mk.injEq] at e1
  obtain ⟨rfl, rfl, rfl⟩ := e1
  have HT := fun w => read_at hr hs w
  have G := hid hg
  have lg := at_lt hg
  have c := cells_at hg
  clear hg h hr
  obtain ⟨Q, hQ0⟩ : ∃ Q, RestPost w g ⟨2, d.id, zT, d⟩ n f = Q := ⟨_, rfl⟩
  rw [hQ0]
  have HQ := hid hQ0
  clear hQ0
  go_enter Try.func49, Try.ntmps49
  go_wp2_with fail
  refine (HT _).mono ?_
  rintro u w1 ⟨rfl, hb⟩
  have G1 := hid (var_on hb G.out lg)
  have B1 := hid (But.of_below (g := g) hb)
  clear HT c G hb lg
  have c := cells_at G1.out
  have lg := at_lt G1.out
  go_upto_region 8 with fail
  obtain ⟨W2, hW2⟩ : ∃ W2, W2 = ((((((((((((w1.setCell ⟨g, 13, none⟩ (Value.int .i64 d.id)).setCell ⟨g, 14, none⟩ (Value.int .u8 d.m)).setCell ⟨g, 15, none⟩ (Value.int .i64 d.x)).setCell ⟨g, 16, none⟩ (Value.int .i64 d.y)).setCell ⟨g, 17, none⟩ (Value.int .i64 d.f0.n)).setCell ⟨g, 18, none⟩ (Value.string d.f0.s)).setCell ⟨g, 19, none⟩ (Value.int .i64 d.f1.n)).setCell ⟨g, 20, none⟩ (Value.string d.f1.s)).setCell ⟨g, 21, none⟩ (Value.int .i64 d.f2.n)).setCell ⟨g, 22, none⟩ (Value.string d.f2.s)).setCell ⟨g, 23, none⟩ (Value.int .i64 d.f3.n)).setCell ⟨g, 24, none⟩ (Value.string d.f3.s)) := ⟨_, rfl⟩
  have G2 := hid (show W2.heap[g]? = some (⟨2, 0, zT, d⟩ : Ev).o by rw [hW2]; exact set_delta G1.out d)
  have B2 := hid (show But g w W2 by rw [hW2]; exact but_delta B1.out d)
  rw [← hW2]
  clear hW2 c G1 B1
  have c := cells_at G2.out
  go_wp2_with fail
  rw [← HQ.out]
  exact ⟨rfl, set_at G2.out _ rfl, B2.out.setCell _ _⟩
set_option maxRecDepth 100000 in
set_option maxHeartbeats 2000000 in
theorem event_rest3 {s : ByteArray} {w : World} {g z e : Nat} {x : Ev} (h : Hid (restE 3 s.data.toList = (x, z, e))) (hs : s.size ≤ 1000000) (hg : w.heap[g]? = some (⟨3, 0, zT, zD⟩ : Ev).o) :
    Calls Try.prog 49 #[.pointer (some ⟨g, 0, none⟩), .string s] w (RestPost w g x z e) := by
  rcases hr : numE s.data.toList 1000000 11 with ⟨m, n, f⟩
  have e1 := h.out
  rw [restE_3 hr] at e1
  simp only [Prod.mk.injEq] at e1
  obtain ⟨rfl, rfl, rfl⟩ := e1
  have HT := fun w => event_number (T := 1000000) (B := 11) hr hs (by omega) (.inl rfl) w
  have G := hid hg
  have lg := at_lt hg
  have c := cells_at hg
  clear hg h hr
  obtain ⟨Q, hQ0⟩ : ∃ Q, RestPost w g ⟨3, m, zT, zD⟩ n f = Q := ⟨_, rfl⟩
  rw [hQ0]
  have HQ := hid hQ0
  clear hQ0
  go_enter Try.func49, Try.ntmps49
  go_wp2_with fail
  refine (HT _).mono ?_
  rintro u w1 ⟨rfl, hb⟩
  have G1 := hid (var_on hb G.out lg)
  have B1 := hid (But.of_below (g := g) hb)
  clear HT c G hb lg
  have c := cells_at G1.out
  go_wp2_with fail
  rw [← HQ.out]
  exact ⟨rfl, set_at G1.out _ rfl, B1.out.setCell _ _⟩
set_option maxHeartbeats 2000000 in
theorem event_rest4 {s : ByteArray} {w : World} {g z e : Nat} {x : Ev} (h : Hid (restE 0 s.data.toList = (x, z, e))) (hg : w.heap[g]? = some (⟨0, 0, zT, zD⟩ : Ev).o) :
    Calls Try.prog 49 #[.pointer (some ⟨g, 0, none⟩), .string s] w (RestPost w g x z e) := by
  have e1 := h.out
  rw [restE_4 (by decide) (by decide) (by decide)] at e1
  simp only [Prod.mk.injEq] at e1
  obtain ⟨rfl, rfl, rfl⟩ := e1
  have G := hid hg
  have c := cells_at hg
  clear hg h
  obtain ⟨Q, hQ0⟩ : ∃ Q, RestPost w g ⟨(0 : Nat), 0, zT, zD⟩ 0 11 = Q := ⟨_, rfl⟩
  rw [hQ0]
  have HQ := hid hQ0
  clear hQ0
  go_enter Try.func49, Try.ntmps49
  go_wp2_with fail
  rw [← HQ.out]
  exact ⟨rfl, G.out, But.refl _ _⟩
theorem event_rest {s : ByteArray} {w : World} {g k z e : Nat} {x : Ev} (hk : k ≤ 3) (h : Hid (restE k s.data.toList = (x, z, e))) (hs : s.size ≤ 1000000) (hg : w.heap[g]? = some (⟨k, 0, zT, zD⟩ : Ev).o) :
    Calls Try.prog 49 #[.pointer (some ⟨g, 0, none⟩), .string s] w (RestPost w g x z e) := by
  obtain rfl | rfl | rfl | rfl : k = 0 ∨ k = 1 ∨ k = 2 ∨ k = 3 := by omega
  · exact event_rest4 h hg
  · exact event_rest1 h hs hg
  · exact event_rest2 h hs hg
  · exact event_rest3 h hs hg
set_option maxRecDepth 100000 in
set_option maxHeartbeats 2000000 in
theorem event_told {e : Ev} {L : List UInt8} (h : isE e = true) (hL : Hid (toldE e = L)) (hi : inE e) (w : World) : Calls Try.prog 30 #[e.v] w fun x w' => x = .returned (.string ⟨L.toArray⟩) ∧ Below w.heap.size w w' := by
  obtain ⟨W, hW⟩ : ∃ W, W = w.alloc e.o := ⟨_, rfl⟩
  have hE : Below w.heap.size w W := by rw [hW]; exact below1 _ _
  have K := hid (show W.heap[w.heap.size]? = some e.o by rw [hW]; exact new_at _ _ _ rfl)
  have c := cells_at K.out
  rcases isE_kind h with k | k | k
  · have HT := fun w => thing_bytes (t := e.t) (B := L) (e := 0) (by show bytesT e.t = (L, 0); unfold bytesT; rw [if_pos (is_enter h k).1, ← hL.out, toldE_1 k]) hi.1 w
    have e1 : (e.k == 1) = true := by simp [k]
    clear k h hi hL
    go_enter Try.func30, Try.ntmps30
    go_upto_region 1 with fail
    rw [← hW]
    clear hW
    go_wp2_with fail
    refine (HT _).mono ?_
    rintro x w1 ⟨rfl, hb1⟩
    have hB := below_on hE hb1
    clear hb1 hE K c HT
    go_wp2_with fail
    go_ret
    exact ⟨rfl, hB⟩
  · have HT := fun w => fields_bytes w e.d (is_update h k).1 (dl_fit (is_update h k).1 hi.2)
    rw [← toldE_2 k, hL.out] at HT
    have e1 : (e.k == 1) = false := by simp [k]
    have e2 : (e.k == 2) = true := by simp [k]
    clear k h hi hL
    go_enter Try.func30, Try.ntmps30
    go_upto_region 1 with fail
    rw [← hW]
    clear hW
    go_wp2_with fail
    refine (HT _).mono ?_
    rintro x w1 ⟨rfl, hb1⟩
    have hB := below_on hE hb1
    clear hb1 hE K c HT
    go_wp2_with fail
    go_ret
    exact ⟨rfl, hB⟩
  · obtain ⟨l1, l2, l3⟩ := is_leave h k
    have HT := fun w => put_int e.i l1 l2 w
    rw [← toldE_3 k, hL.out] at HT
    have e1 : (e.k == 1) = false := by simp [k]
    have e2 : (e.k == 2) = false := by simp [k]
    have e3 : (e.k == 3) = true := by simp [k]
    have hw : IntKind.u64.wrap e.i = e.i := by show e.i % 18446744073709551616 = e.i; omega
    clear k h hi hL l3
    go_enter Try.func30, Try.ntmps30
    go_upto_region 1 with fail
    rw [← hW]
    clear hW
    go_wp2_with fail
    refine (HT _).mono ?_
    rintro x w1 ⟨rfl, hb1⟩
    have hB := below_on hE hb1
    clear hb1 hE K c HT
    go_wp2_with fail
    go_ret
    exact ⟨rfl, hB⟩
end Go.Proofs.Ytkklchobiiajgaa
