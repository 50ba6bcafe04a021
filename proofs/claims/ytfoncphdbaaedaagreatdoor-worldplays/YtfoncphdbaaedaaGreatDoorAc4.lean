/- Contracts of done and Do of the package act: what is told, what the table holds behind it; the blocks K, none of the table's own, stay as they were. No conditions beyond those typed. -/
import Derived.Test.YtfoncphdbaaedaaGreatDoorAc3
import Derived.Test.YtfoncphdbaaedaaGreatDoorCO
namespace Go.Proofs.YtfoncphdbaaedaaGreatDoor
open Go.RowKit Go.Maps
set_option linter.unusedVariables false
theorem in_sized {c : Cm} (h : inC c) : sizedC c := by
  obtain ⟨h0, h1, h2, h3, h4⟩ := h
  intro k
  unfold Cm.f
  split
  · exact h0.1
  · exact h1.1
  · exact h2.1
  · exact h3.1
  · exact h4.1
theorem zT_in : inT zT := ⟨⟨by decide, by decide, by decide⟩, ⟨by decide, by decide, by decide⟩, ⟨by decide, by decide, by decide⟩, ⟨by decide, by decide, by decide⟩⟩
theorem findT_mem {id : Int} {L : List Th} {t : Th} (h : findT id L = some t) : t ∈ L ∧ t.id = id := by
  unfold findT at h
  have h1 := List.find?_some h
  exact ⟨List.mem_of_find?_eq_some h, by simpa using h1⟩
theorem thOf_in {L : List Th} (h : Good L) (id : Int) : inT (thOf L id) := by
  unfold thOf
  cases hf : findT id L with
  | none => exact zT_in
  | some t => exact h.fit t (findT_mem hf).1
theorem TK.kept {W0 w W' : World} {tb : Nat} {L : List Th} {K : List Nat} (h : TK W0 w tb L K) (hb : Below w.heap.size w W') : Kept K w W' := by
  obtain ⟨X, h1, h2⟩ := h.has
  exact fun k hk => hb.block k (h2 k hk).1
theorem Kept.trans {K : List Nat} {a b c : World} (h : Kept K a b) (k : Kept K b c) : Kept K a c := fun i hi => (k i hi).trans (h i hi)
set_option maxHeartbeats 2000000 in
theorem done_put {W0 w : World} {tb : Nat} {L : List Th} {K : List Nat} (h : TK W0 w tb L K) {c : Cm} (hc : inC c) (hk : c.kd = 1) {id : Int} (hi : inI id) {x : Int} {L' : List Th} (hx : Hid (tpE (putT c id) L = x)) (hL : Hid (tpL (putT c id) L = L')) :
    Calls Tryz.prog 46 #[.pointer (some ⟨tb, 0, none⟩), c.v, .int .i64 id] w fun e w' => e = .returned (.int .i64 x) ∧ TK W0 w' tb L' K ∧ Kept K w w' := by
  obtain ⟨W, hW⟩ : ∃ W, W = w.alloc c.o := ⟨_, rfl⟩
  have hB : Below w.heap.size w W := by rw [hW]; exact below1 _ _
  have K1 := hid (show W.heap[w.heap.size]? = some c.o by rw [hW]; exact new_at _ _ _ rfl)
  obtain ⟨t, ht⟩ : ∃ t, Hid ((findT id L).getD zT = t) := ⟨_, rfl⟩
  obtain ⟨p, hp⟩ : ∃ p, Hid (hasT id L = p) := ⟨_, rfl⟩
  have T := hid h
  have C := tk_get (h.later hB) hi ht hp
  have hIn := hid (show inT (⟨id, c.x, c.y, c.f0, c.f1, c.f2, c.f3⟩ : Th) from ⟨hc.1, hc.2.1, hc.2.2.1, hc.2.2.2.1⟩)
  have hkh := hid hk
  clear h hi hk hc
  have hx2 : Hid (tpE ⟨id, c.x, c.y, c.f0, c.f1, c.f2, c.f3⟩ L = x) := hx
  have hL2 : Hid (tpL ⟨id, c.x, c.y, c.f0, c.f1, c.f2, c.f3⟩ L = L') := hL
  go_enter Tryz.func46, Tryz.ntmps46
  go_upto_region 1 with fail
  rw [← hW]
  clear hW
  go_wp2_with fail
  refine C.mono ?_
  rintro y w2 ⟨rfl, hb2⟩
  obtain ⟨W3, hW3⟩ : ∃ W3, w2.alloc t.o = W3 := ⟨_, rfl⟩
  have hb3 : Below W.heap.size W W3 := by rw [← hW3]; exact hb2.alloc hb2.size _
  have K3 := hid (var_on hb3 K1.out (lt_of_at K1.out))
  have hB3 := below_on hB hb3
  clear C hb2 hb3 hB K1
  unfold Th.o at hW3
  have HW3 := hid hW3
  clear hW3
  go_upto_region 2 with fail
  rw [HW3.out]
  clear HW3
  have T3 := hid (T.out.later hB3)
  have hK3 := hid (T.out.kept hB3)
  have c3 := cells_at K3.out
  have e1 : ((c.kd : Int) == 1) = true := by simp [hkh.out]
  go_wp2_with fail
  with_reducible refine (tk_put (t := ⟨id, c.x, c.y, c.f0, c.f1, c.f2, c.f3⟩) T3.out hIn.out hx2 hL2).mono ?_
  rintro y w4 ⟨rfl, hT, hK⟩
  clear c3 e1
  go_wp2_with fail
  go_ret
  exact ⟨rfl, hT, hK3.out.trans hK⟩
theorem set_pt {W : World} {g : Nat} {t : Th} (h : W.heap[g]? = some t.o) (x y : Int) : ((W.setCell ⟨g, 1, none⟩ (.int .i64 x)).setCell ⟨g, 2, none⟩ (.int .i64 y)).heap[g]? = some (⟨t.id, x, y, t.f0, t.f1, t.f2, t.f3⟩ : Th).o :=
  set_at (set_at h _ rfl) _ rfl
theorem below_set2 {B : Nat} {w W : World} (h : Below B w W) {g : Nat} (hg : B ≤ g) (i j : Nat) (u v : Value) : Below B w ((W.setCell ⟨g, i, none⟩ u).setCell ⟨g, j, none⟩ v) := (h.setCell hg u).setCell hg v
set_option maxHeartbeats 2000000 in
theorem done_move {W0 w : World} {tb : Nat} {L : List Th} {K : List Nat} (h : TK W0 w tb L K) {c : Cm} (hk : c.kd = 2) {id : Int} (hi : inI id) {x : Int} {L' : List Th} (hx : Hid (tsE (movT (thOf L id) c) L = x)) (hL : Hid (tsL (movT (thOf L id) c) L = L')) :
    Calls Tryz.prog 46 #[.pointer (some ⟨tb, 0, none⟩), c.v, .int .i64 id] w fun e w' => e = .returned (.int .i64 x) ∧ TK W0 w' tb L' K ∧ Kept K w w' := by
  obtain ⟨W, hW⟩ : ∃ W, W = w.alloc c.o := ⟨_, rfl⟩
  have hB : Below w.heap.size w W := by rw [hW]; exact below1 _ _
  have K1 := hid (show W.heap[w.heap.size]? = some c.o by rw [hW]; exact new_at _ _ _ rfl)
  have htin := thOf_in h.good id
  obtain ⟨t, ht⟩ : ∃ t, Hid ((findT id L).getD zT = t) := ⟨_, rfl⟩
  obtain ⟨p, hp⟩ : ∃ p, Hid (hasT id L = p) := ⟨_, rfl⟩
  have e0 : thOf L id = t := ht.out
  rw [e0] at htin hx hL
  have T := hid h
  have C := tk_get (h.later hB) hi ht hp
  have hIn := hid (show inT (⟨t.id, c.x, c.y, t.f0, t.f1, t.f2, t.f3⟩ : Th) from htin)
  have hkh := hid hk
  clear h hi hk htin e0
  have hx2 : Hid (tsE ⟨t.id, c.x, c.y, t.f0, t.f1, t.f2, t.f3⟩ L = x) := hx
  have hL2 : Hid (tsL ⟨t.id, c.x, c.y, t.f0, t.f1, t.f2, t.f3⟩ L = L') := hL
  go_enter Tryz.func46, Tryz.ntmps46
  go_upto_region 1 with fail
  rw [← hW]
  clear hW
  go_wp2_with fail
  refine C.mono ?_
  rintro y w2 ⟨rfl, hb2⟩
  obtain ⟨W3, hW3⟩ : ∃ W3, w2.alloc t.o = W3 := ⟨_, rfl⟩
  have hb3 : Below W.heap.size W W3 := by rw [← hW3]; exact hb2.alloc hb2.size _
  have K3 := hid (var_on hb3 K1.out (lt_of_at K1.out))
  have J3 := hid (show W3.heap[w2.heap.size]? = some t.o by rw [← hW3]; exact new_at _ _ _ rfl)
  have hB3 := below_on hB hb3
  have hg : w.heap.size ≤ w2.heap.size := (below_on hB hb2).size
  have hgc : w.heap.size ≠ w2.heap.size := by have := lt_of_at K1.out; have := hb2.size; omega
  clear C hb2 hb3 hB K1
  unfold Th.o at hW3
  have HW3 := hid hW3
  clear hW3
  go_upto_region 2 with fail
  rw [HW3.out]
  clear HW3
  obtain ⟨g, hgg⟩ : ∃ g, w2.heap.size = g := ⟨_, rfl⟩
  rw [hgg] at J3 hg hgc ⊢
  clear hgg
  have n0 : W3.cell? ⟨w.heap.size, 0, none⟩ = some (.int .i64 c.kd) := cell_i K3.out (k := 0) (by simp [plI])
  have n4 : W3.cell? ⟨w.heap.size, 4, none⟩ = some (.int .i64 c.x) := cell_i K3.out (k := 4) (by simp [plI])
  have n5 : W3.cell? ⟨w.heap.size, 5, none⟩ = some (.int .i64 c.y) := cell_i K3.out (k := 5) (by simp [plI])
  have e1 : ((c.kd : Int) == 1) = false := by simp [hkh.out]
  have e2 : ((c.kd : Int) == 2) = true := by simp [hkh.out]
  have c3 := cells_at J3.out
  go_upto_region 7 with fail
  have J5 := hid (set_pt (x := c.x) (y := c.y) J3.out)
  have hB5 := below_set2 hB3 hg 1 2 (.int .i64 c.x) (.int .i64 c.y)
  obtain ⟨W5, hW5⟩ : ∃ W5, (W3.setCell ⟨g, 1, none⟩ (.int .i64 c.x)).setCell ⟨g, 2, none⟩ (.int .i64 c.y) = W5 := ⟨_, rfl⟩
  rw [hW5] at J5 hB5 ⊢
  clear hW5 c3 n0 n4 n5 e1 e2 J3 K3 hB3
  have T5 := hid (T.out.later hB5)
  have hK5 := hid (T.out.kept hB5)
  have c5 := cells_at J5.out
  go_wp2_with fail
  with_reducible refine (tk_set (t := ⟨t.id, c.x, c.y, t.f0, t.f1, t.f2, t.f3⟩) T5.out hIn.out hx2 hL2).mono ?_
  rintro y w6 ⟨rfl, hT, hK⟩
  clear c5
  go_wp2_with fail
  go_ret
  exact ⟨rfl, hT, hK5.out.trans hK⟩
/-- a field's place among a thing's cells, and the thing with it set -/
theorem set_fd {W : World} {g : Nat} {t : Th} (h : W.heap[g]? = some t.o) (f : Fl) :
    ((W.setCell ⟨g, 3, none⟩ (.int .i64 f.n)).setCell ⟨g, 4, none⟩ (.string f.s)).heap[g]? = some (setT t 0 f).o ∧ ((W.setCell ⟨g, 5, none⟩ (.int .i64 f.n)).setCell ⟨g, 6, none⟩ (.string f.s)).heap[g]? = some (setT t 1 f).o ∧
    ((W.setCell ⟨g, 7, none⟩ (.int .i64 f.n)).setCell ⟨g, 8, none⟩ (.string f.s)).heap[g]? = some (setT t 2 f).o ∧ ((W.setCell ⟨g, 9, none⟩ (.int .i64 f.n)).setCell ⟨g, 10, none⟩ (.string f.s)).heap[g]? = some (setT t 3 f).o :=
  ⟨set_at (set_at h _ rfl) _ rfl, set_at (set_at h _ rfl) _ rfl, set_at (set_at h _ rfl) _ rfl, set_at (set_at h _ rfl) _ rfl⟩
theorem setT_in {t : Th} (h : inT t) {f : Fl} (hf : inF f) (k : Int) : inT (setT t k f) := by
  obtain ⟨h0, h1, h2, h3⟩ := h
  unfold setT
  split
  · exact ⟨hf, h1, h2, h3⟩
  · split
    · exact ⟨h0, hf, h2, h3⟩
    · split
      · exact ⟨h0, h1, hf, h3⟩
      · exact ⟨h0, h1, h2, hf⟩
set_option maxHeartbeats 2000000 in
theorem done_set0 {W0 w : World} {tb : Nat} {L : List Th} {K : List Nat} (h : TK W0 w tb L K) {c : Cm} (hc : inF c.va) (hk : c.kd = 3) (hw : c.wh = 0) {id : Int} (hi : inI id) {x : Int} {L' : List Th} (hx : Hid (tsE (setT (thOf L id) 0 c.va) L = x)) (hL : Hid (tsL (setT (thOf L id) 0 c.va) L = L')) :
    Calls Tryz.prog 46 #[.pointer (some ⟨tb, 0, none⟩), c.v, .int .i64 id] w fun e w' => e = .returned (.int .i64 x) ∧ TK W0 w' tb L' K ∧ Kept K w w' := by
  obtain ⟨W, hW⟩ : ∃ W, W = w.alloc c.o := ⟨_, rfl⟩
  have hB : Below w.heap.size w W := by rw [hW]; exact below1 _ _
  have K1 := hid (show W.heap[w.heap.size]? = some c.o by rw [hW]; exact new_at _ _ _ rfl)
  have htin := thOf_in h.good id
  obtain ⟨t, ht⟩ : ∃ t, Hid ((findT id L).getD zT = t) := ⟨_, rfl⟩
  obtain ⟨p, hp⟩ : ∃ p, Hid (hasT id L = p) := ⟨_, rfl⟩
  have e0 : thOf L id = t := ht.out
  rw [e0] at htin hx hL
  have T := hid h
  have C := tk_get (h.later hB) hi ht hp
  have hIn := hid (show inT (⟨t.id, t.x, t.y, c.va, t.f1, t.f2, t.f3⟩ : Th) from setT_in htin hc 0)
  have hkh := hid hk
  have hwh := hid hw
  clear h hi hk hw htin e0
  have hx2 : Hid (tsE ⟨t.id, t.x, t.y, c.va, t.f1, t.f2, t.f3⟩ L = x) := hx
  have hL2 : Hid (tsL ⟨t.id, t.x, t.y, c.va, t.f1, t.f2, t.f3⟩ L = L') := hL
  go_enter Tryz.func46, Tryz.ntmps46
  go_upto_region 1 with fail
  rw [← hW]
  clear hW
  go_wp2_with fail
  refine C.mono ?_
  rintro y w2 ⟨rfl, hb2⟩
  obtain ⟨W3, hW3⟩ : ∃ W3, w2.alloc t.o = W3 := ⟨_, rfl⟩
  have hb3 : Below W.heap.size W W3 := by rw [← hW3]; exact hb2.alloc hb2.size _
  have K3 := hid (var_on hb3 K1.out (lt_of_at K1.out))
  have J3 := hid (show W3.heap[w2.heap.size]? = some t.o by rw [← hW3]; exact new_at _ _ _ rfl)
  have hB3 := below_on hB hb3
  have hg : w.heap.size ≤ w2.heap.size := (below_on hB hb2).size
  have hgc : w.heap.size ≠ w2.heap.size := by have := lt_of_at K1.out; have := hb2.size; omega
  clear C hb2 hb3 hB K1
  unfold Th.o at hW3
  have HW3 := hid hW3
  clear hW3
  go_upto_region 2 with fail
  rw [HW3.out]
  clear HW3
  obtain ⟨g, hgg⟩ : ∃ g, w2.heap.size = g := ⟨_, rfl⟩
  rw [hgg] at J3 hg hgc ⊢
  clear hgg
  have n0 : W3.cell? ⟨w.heap.size, 0, none⟩ = some (.int .i64 c.kd) := cell_i K3.out (k := 0) (by simp [plI])
  have n2 : W3.cell? ⟨w.heap.size, 2, none⟩ = some (.int .i64 0) := by rw [← hwh.out]; exact cell_i K3.out (k := 2) (by simp [plI])
  have n14 : W3.cell? ⟨w.heap.size, 14, none⟩ = some (.int .i64 c.va.n) := (cell_f K3.out (k := 14) (by simp [atF])).1
  have n15 : W3.cell? ⟨w.heap.size, 15, none⟩ = some (.string c.va.s) := (cell_f K3.out (k := 14) (by simp [atF])).2
  have e1 : ((c.kd : Int) == 1) = false := by simp [hkh.out]
  have e2 : ((c.kd : Int) == 2) = false := by simp [hkh.out]
  have e3 : ((c.kd : Int) == 3) = true := by simp [hkh.out]
  have c3 := cells_at J3.out
  go_upto_region 10 with fail
  have J5 := hid (set_fd J3.out c.va).1
  have hB5 := below_set2 hB3 hg 3 4 (.int .i64 c.va.n) (.string c.va.s)
  obtain ⟨W5, hW5⟩ : ∃ W5, (W3.setCell ⟨g, 3, none⟩ (.int .i64 c.va.n)).setCell ⟨g, 4, none⟩ (.string c.va.s) = W5 := ⟨_, rfl⟩
  rw [hW5] at J5 hB5 ⊢
  clear hW5 c3 n0 n2 n14 n15 e1 e2 e3 J3 K3 hB3
  have J5' : Hid (W5.heap[g]? = some (⟨t.id, t.x, t.y, c.va, t.f1, t.f2, t.f3⟩ : Th).o) := J5
  have T5 := hid (T.out.later hB5)
  have hK5 := hid (T.out.kept hB5)
  have c5 := cells_at J5'.out
  clear J5
  go_wp2_with fail
  with_reducible refine (tk_set (t := ⟨t.id, t.x, t.y, c.va, t.f1, t.f2, t.f3⟩) T5.out hIn.out hx2 hL2).mono ?_
  rintro y w6 ⟨rfl, hT, hK⟩
  clear c5
  go_wp2_with fail
  go_ret
  exact ⟨rfl, hT, hK5.out.trans hK⟩
set_option maxHeartbeats 2000000 in
theorem done_set1 {W0 w : World} {tb : Nat} {L : List Th} {K : List Nat} (h : TK W0 w tb L K) {c : Cm} (hc : inF c.va) (hk : c.kd = 3) (hw : c.wh = 1) {id : Int} (hi : inI id) {x : Int} {L' : List Th} (hx : Hid (tsE (setT (thOf L id) 1 c.va) L = x)) (hL : Hid (tsL (setT (thOf L id) 1 c.va) L = L')) :
    Calls Tryz.prog 46 #[.pointer (some ⟨tb, 0, none⟩), c.v, .int .i64 id] w fun e w' => e = .returned (.int .i64 x) ∧ TK W0 w' tb L' K ∧ Kept K w w' := by
  obtain ⟨W, hW⟩ : ∃ W, W = w.alloc c.o := ⟨_, rfl⟩
  have hB : Below w.heap.size w W := by rw [hW]; exact below1 _ _
  have K1 := hid (show W.heap[w.heap.size]? = some c.o by rw [hW]; exact new_at _ _ _ rfl)
  have htin := thOf_in h.good id
  obtain ⟨t, ht⟩ : ∃ t, Hid ((findT id L).getD zT = t) := ⟨_, rfl⟩
  obtain ⟨p, hp⟩ : ∃ p, Hid (hasT id L = p) := ⟨_, rfl⟩
  have e0 : thOf L id = t := ht.out
  rw [e0] at htin hx hL
  have T := hid h
  have C := tk_get (h.later hB) hi ht hp
  have hIn := hid (show inT (⟨t.id, t.x, t.y, t.f0, c.va, t.f2, t.f3⟩ : Th) from setT_in htin hc 1)
  have hkh := hid hk
  have hwh := hid hw
  clear h hi hk hw htin e0
  have hx2 : Hid (tsE ⟨t.id, t.x, t.y, t.f0, c.va, t.f2, t.f3⟩ L = x) := hx
  have hL2 : Hid (tsL ⟨t.id, t.x, t.y, t.f0, c.va, t.f2, t.f3⟩ L = L') := hL
  go_enter Tryz.func46, Tryz.ntmps46
  go_upto_region 1 with fail
  rw [← hW]
  clear hW
  go_wp2_with fail
  refine C.mono ?_
  rintro y w2 ⟨rfl, hb2⟩
  obtain ⟨W3, hW3⟩ : ∃ W3, w2.alloc t.o = W3 := ⟨_, rfl⟩
  have hb3 : Below W.heap.size W W3 := by rw [← hW3]; exact hb2.alloc hb2.size _
  have K3 := hid (var_on hb3 K1.out (lt_of_at K1.out))
  have J3 := hid (show W3.heap[w2.heap.size]? = some t.o by rw [← hW3]; exact new_at _ _ _ rfl)
  have hB3 := below_on hB hb3
  have hg : w.heap.size ≤ w2.heap.size := (below_on hB hb2).size
  have hgc : w.heap.size ≠ w2.heap.size := by have := lt_of_at K1.out; have := hb2.size; omega
  clear C hb2 hb3 hB K1
  unfold Th.o at hW3
  have HW3 := hid hW3
  clear hW3
  go_upto_region 2 with fail
  rw [HW3.out]
  clear HW3
  obtain ⟨g, hgg⟩ : ∃ g, w2.heap.size = g := ⟨_, rfl⟩
  rw [hgg] at J3 hg hgc ⊢
  clear hgg
  have n0 : W3.cell? ⟨w.heap.size, 0, none⟩ = some (.int .i64 c.kd) := cell_i K3.out (k := 0) (by simp [plI])
  have n2 : W3.cell? ⟨w.heap.size, 2, none⟩ = some (.int .i64 1) := by rw [← hwh.out]; exact cell_i K3.out (k := 2) (by simp [plI])
  have n14 : W3.cell? ⟨w.heap.size, 14, none⟩ = some (.int .i64 c.va.n) := (cell_f K3.out (k := 14) (by simp [atF])).1
  have n15 : W3.cell? ⟨w.heap.size, 15, none⟩ = some (.string c.va.s) := (cell_f K3.out (k := 14) (by simp [atF])).2
  have e1 : ((c.kd : Int) == 1) = false := by simp [hkh.out]
  have e2 : ((c.kd : Int) == 2) = false := by simp [hkh.out]
  have e3 : ((c.kd : Int) == 3) = true := by simp [hkh.out]
  have c3 := cells_at J3.out
  go_upto_region 10 with fail
  have J5 := hid (set_fd J3.out c.va).2.1
  have hB5 := below_set2 hB3 hg 5 6 (.int .i64 c.va.n) (.string c.va.s)
  obtain ⟨W5, hW5⟩ : ∃ W5, (W3.setCell ⟨g, 5, none⟩ (.int .i64 c.va.n)).setCell ⟨g, 6, none⟩ (.string c.va.s) = W5 := ⟨_, rfl⟩
  rw [hW5] at J5 hB5 ⊢
  clear hW5 c3 n0 n2 n14 n15 e1 e2 e3 J3 K3 hB3
  have J5' : Hid (W5.heap[g]? = some (⟨t.id, t.x, t.y, t.f0, c.va, t.f2, t.f3⟩ : Th).o) := J5
  have T5 := hid (T.out.later hB5)
  have hK5 := hid (T.out.kept hB5)
  have c5 := cells_at J5'.out
  clear J5
  go_wp2_with fail
  with_reducible refine (tk_set (t := ⟨t.id, t.x, t.y, t.f0, c.va, t.f2, t.f3⟩) T5.out hIn.out hx2 hL2).mono ?_
  rintro y w6 ⟨rfl, hT, hK⟩
  clear c5
  go_wp2_with fail
  go_ret
  exact ⟨rfl, hT, hK5.out.trans hK⟩
set_option maxHeartbeats 2000000 in
theorem done_set2 {W0 w : World} {tb : Nat} {L : List Th} {K : List Nat} (h : TK W0 w tb L K) {c : Cm} (hc : inF c.va) (hk : c.kd = 3) (hw : c.wh = 2) {id : Int} (hi : inI id) {x : Int} {L' : List Th} (hx : Hid (tsE (setT (thOf L id) 2 c.va) L = x)) (hL : Hid (tsL (setT (thOf L id) 2 c.va) L = L')) :
    Calls Tryz.prog 46 #[.pointer (some ⟨tb, 0, none⟩), c.v, .int .i64 id] w fun e w' => e = .returned (.int .i64 x) ∧ TK W0 w' tb L' K ∧ Kept K w w' := by
  obtain ⟨W, hW⟩ : ∃ W, W = w.alloc c.o := ⟨_, rfl⟩
  have hB : Below w.heap.size w W := by rw [hW]; exact below1 _ _
  have K1 := hid (show W.heap[w.heap.size]? = some c.o by rw [hW]; exact new_at _ _ _ rfl)
  have htin := thOf_in h.good id
  obtain ⟨t, ht⟩ : ∃ t, Hid ((findT id L).getD zT = t) := ⟨_, rfl⟩
  obtain ⟨p, hp⟩ : ∃ p, Hid (hasT id L = p) := ⟨_, rfl⟩
  have e0 : thOf L id = t := ht.out
  rw [e0] at htin hx hL
  have T := hid h
  have C := tk_get (h.later hB) hi ht hp
  have hIn := hid (show inT (⟨t.id, t.x, t.y, t.f0, t.f1, c.va, t.f3⟩ : Th) from setT_in htin hc 2)
  have hkh := hid hk
  have hwh := hid hw
  clear h hi hk hw htin e0
  have hx2 : Hid (tsE ⟨t.id, t.x, t.y, t.f0, t.f1, c.va, t.f3⟩ L = x) := hx
  have hL2 : Hid (tsL ⟨t.id, t.x, t.y, t.f0, t.f1, c.va, t.f3⟩ L = L') := hL
  go_enter Tryz.func46, Tryz.ntmps46
  go_upto_region 1 with fail
  rw [← hW]
  clear hW
  go_wp2_with fail
  refine C.mono ?_
  rintro y w2 ⟨rfl, hb2⟩
  obtain ⟨W3, hW3⟩ : ∃ W3, w2.alloc t.o = W3 := ⟨_, rfl⟩
  have hb3 : Below W.heap.size W W3 := by rw [← hW3]; exact hb2.alloc hb2.size _
  have K3 := hid (var_on hb3 K1.out (lt_of_at K1.out))
  have J3 := hid (show W3.heap[w2.heap.size]? = some t.o by rw [← hW3]; exact new_at _ _ _ rfl)
  have hB3 := below_on hB hb3
  have hg : w.heap.size ≤ w2.heap.size := (below_on hB hb2).size
  have hgc : w.heap.size ≠ w2.heap.size := by have := lt_of_at K1.out; have := hb2.size; omega
  clear C hb2 hb3 hB K1
  unfold Th.o at hW3
  have HW3 := hid hW3
  clear hW3
  go_upto_region 2 with fail
  rw [HW3.out]
  clear HW3
  obtain ⟨g, hgg⟩ : ∃ g, w2.heap.size = g := ⟨_, rfl⟩
  rw [hgg] at J3 hg hgc ⊢
  clear hgg
  have n0 : W3.cell? ⟨w.heap.size, 0, none⟩ = some (.int .i64 c.kd) := cell_i K3.out (k := 0) (by simp [plI])
  have n2 : W3.cell? ⟨w.heap.size, 2, none⟩ = some (.int .i64 2) := by rw [← hwh.out]; exact cell_i K3.out (k := 2) (by simp [plI])
  have n14 : W3.cell? ⟨w.heap.size, 14, none⟩ = some (.int .i64 c.va.n) := (cell_f K3.out (k := 14) (by simp [atF])).1
  have n15 : W3.cell? ⟨w.heap.size, 15, none⟩ = some (.string c.va.s) := (cell_f K3.out (k := 14) (by simp [atF])).2
  have e1 : ((c.kd : Int) == 1) = false := by simp [hkh.out]
  have e2 : ((c.kd : Int) == 2) = false := by simp [hkh.out]
  have e3 : ((c.kd : Int) == 3) = true := by simp [hkh.out]
  have c3 := cells_at J3.out
  go_upto_region 10 with fail
  have J5 := hid (set_fd J3.out c.va).2.2.1
  have hB5 := below_set2 hB3 hg 7 8 (.int .i64 c.va.n) (.string c.va.s)
  obtain ⟨W5, hW5⟩ : ∃ W5, (W3.setCell ⟨g, 7, none⟩ (.int .i64 c.va.n)).setCell ⟨g, 8, none⟩ (.string c.va.s) = W5 := ⟨_, rfl⟩
  rw [hW5] at J5 hB5 ⊢
  clear hW5 c3 n0 n2 n14 n15 e1 e2 e3 J3 K3 hB3
  have J5' : Hid (W5.heap[g]? = some (⟨t.id, t.x, t.y, t.f0, t.f1, c.va, t.f3⟩ : Th).o) := J5
  have T5 := hid (T.out.later hB5)
  have hK5 := hid (T.out.kept hB5)
  have c5 := cells_at J5'.out
  clear J5
  go_wp2_with fail
  with_reducible refine (tk_set (t := ⟨t.id, t.x, t.y, t.f0, t.f1, c.va, t.f3⟩) T5.out hIn.out hx2 hL2).mono ?_
  rintro y w6 ⟨rfl, hT, hK⟩
  clear c5
  go_wp2_with fail
  go_ret
  exact ⟨rfl, hT, hK5.out.trans hK⟩
set_option maxHeartbeats 2000000 in
theorem done_set3 {W0 w : World} {tb : Nat} {L : List Th} {K : List Nat} (h : TK W0 w tb L K) {c : Cm} (hc : inF c.va) (hk : c.kd = 3) (hw : c.wh = 3) {id : Int} (hi : inI id) {x : Int} {L' : List Th} (hx : Hid (tsE (setT (thOf L id) 3 c.va) L = x)) (hL : Hid (tsL (setT (thOf L id) 3 c.va) L = L')) :
    Calls Tryz.prog 46 #[.pointer (some ⟨tb, 0, none⟩), c.v, .int .i64 id] w fun e w' => e = .returned (.int .i64 x) ∧ TK W0 w' tb L' K ∧ Kept K w w' := by
  obtain ⟨W, hW⟩ : ∃ W, W = w.alloc c.o := ⟨_, rfl⟩
  have hB : Below w.heap.size w W := by rw [hW]; exact below1 _ _
  have K1 := hid (show W.heap[w.heap.size]? = some c.o by rw [hW]; exact new_at _ _ _ rfl)
  have htin := thOf_in h.good id
  obtain ⟨t, ht⟩ : ∃ t, Hid ((findT id L).getD zT = t) := ⟨_, rfl⟩
  obtain ⟨p, hp⟩ : ∃ p, Hid (hasT id L = p) := ⟨_, rfl⟩
  have e0 : thOf L id = t := ht.out
  rw [e0] at htin hx hL
  have T := hid h
  have C := tk_get (h.later hB) hi ht hp
  have hIn := hid (show inT (⟨t.id, t.x, t.y, t.f0, t.f1, t.f2, c.va⟩ : Th) from setT_in htin hc 3)
  have hkh := hid hk
  have hwh := hid hw
  clear h hi hk hw htin e0
  have hx2 : Hid (tsE ⟨t.id, t.x, t.y, t.f0, t.f1, t.f2, c.va⟩ L = x) := hx
  have hL2 : Hid (tsL ⟨t.id, t.x, t.y, t.f0, t.f1, t.f2, c.va⟩ L = L') := hL
  go_enter Tryz.func46, Tryz.ntmps46
  go_upto_region 1 with fail
  rw [← hW]
  clear hW
  go_wp2_with fail
  refine C.mono ?_
  rintro y w2 ⟨rfl, hb2⟩
  obtain ⟨W3, hW3⟩ : ∃ W3, w2.alloc t.o = W3 := ⟨_, rfl⟩
  have hb3 : Below W.heap.size W W3 := by rw [← hW3]; exact hb2.alloc hb2.size _
  have K3 := hid (var_on hb3 K1.out (lt_of_at K1.out))
  have J3 := hid (show W3.heap[w2.heap.size]? = some t.o by rw [← hW3]; exact new_at _ _ _ rfl)
  have hB3 := below_on hB hb3
  have hg : w.heap.size ≤ w2.heap.size := (below_on hB hb2).size
  have hgc : w.heap.size ≠ w2.heap.size := by have := lt_of_at K1.out; have := hb2.size; omega
  clear C hb2 hb3 hB K1
  unfold Th.o at hW3
  have HW3 := hid hW3
  clear hW3
  go_upto_region 2 with fail
  rw [HW3.out]
  clear HW3
  obtain ⟨g, hgg⟩ : ∃ g, w2.heap.size = g := ⟨_, rfl⟩
  rw [hgg] at J3 hg hgc ⊢
  clear hgg
  have n0 : W3.cell? ⟨w.heap.size, 0, none⟩ = some (.int .i64 c.kd) := cell_i K3.out (k := 0) (by simp [plI])
  have n2 : W3.cell? ⟨w.heap.size, 2, none⟩ = some (.int .i64 3) := by rw [← hwh.out]; exact cell_i K3.out (k := 2) (by simp [plI])
  have n14 : W3.cell? ⟨w.heap.size, 14, none⟩ = some (.int .i64 c.va.n) := (cell_f K3.out (k := 14) (by simp [atF])).1
  have n15 : W3.cell? ⟨w.heap.size, 15, none⟩ = some (.string c.va.s) := (cell_f K3.out (k := 14) (by simp [atF])).2
  have e1 : ((c.kd : Int) == 1) = false := by simp [hkh.out]
  have e2 : ((c.kd : Int) == 2) = false := by simp [hkh.out]
  have e3 : ((c.kd : Int) == 3) = true := by simp [hkh.out]
  have c3 := cells_at J3.out
  go_upto_region 10 with fail
  have J5 := hid (set_fd J3.out c.va).2.2.2
  have hB5 := below_set2 hB3 hg 9 10 (.int .i64 c.va.n) (.string c.va.s)
  obtain ⟨W5, hW5⟩ : ∃ W5, (W3.setCell ⟨g, 9, none⟩ (.int .i64 c.va.n)).setCell ⟨g, 10, none⟩ (.string c.va.s) = W5 := ⟨_, rfl⟩
  rw [hW5] at J5 hB5 ⊢
  clear hW5 c3 n0 n2 n14 n15 e1 e2 e3 J3 K3 hB3
  have J5' : Hid (W5.heap[g]? = some (⟨t.id, t.x, t.y, t.f0, t.f1, t.f2, c.va⟩ : Th).o) := J5
  have T5 := hid (T.out.later hB5)
  have hK5 := hid (T.out.kept hB5)
  have c5 := cells_at J5'.out
  clear J5
  go_wp2_with fail
  with_reducible refine (tk_set (t := ⟨t.id, t.x, t.y, t.f0, t.f1, t.f2, c.va⟩) T5.out hIn.out hx2 hL2).mono ?_
  rintro y w6 ⟨rfl, hT, hK⟩
  clear c5
  go_wp2_with fail
  go_ret
  exact ⟨rfl, hT, hK5.out.trans hK⟩
theorem done_drop {W0 w : World} {tb : Nat} {L : List Th} {K : List Nat} (h : TK W0 w tb L K) {c : Cm} (hk : c.kd = 4) {id : Int} (hi : inI id) {x : Int} {L' : List Th} (hx : Hid (tdE id L = x)) (hL : Hid (tdL id L = L')) :
    Calls Tryz.prog 46 #[.pointer (some ⟨tb, 0, none⟩), c.v, .int .i64 id] w fun e w' => e = .returned (.int .i64 x) ∧ TK W0 w' tb L' K ∧ Kept K w w' := by
  obtain ⟨W, hW⟩ : ∃ W, W = w.alloc c.o := ⟨_, rfl⟩
  have hB : Below w.heap.size w W := by rw [hW]; exact below1 _ _
  have K1 := hid (show W.heap[w.heap.size]? = some c.o by rw [hW]; exact new_at _ _ _ rfl)
  obtain ⟨t, ht⟩ : ∃ t, Hid ((findT id L).getD zT = t) := ⟨_, rfl⟩
  obtain ⟨p, hp⟩ : ∃ p, Hid (hasT id L = p) := ⟨_, rfl⟩
  have T := hid h
  have C := tk_get (h.later hB) hi ht hp
  have hkh := hid hk
  have hih := hid hi
  clear h hi hk
  go_enter Tryz.func46, Tryz.ntmps46
  go_upto_region 1 with fail
  rw [← hW]
  clear hW
  go_wp2_with fail
  refine C.mono ?_
  rintro y w2 ⟨rfl, hb2⟩
  obtain ⟨W3, hW3⟩ : ∃ W3, w2.alloc t.o = W3 := ⟨_, rfl⟩
  have hb3 : Below W.heap.size W W3 := by rw [← hW3]; exact hb2.alloc hb2.size _
  have K3 := hid (var_on hb3 K1.out (lt_of_at K1.out))
  have hB3 := below_on hB hb3
  clear C hb2 hb3 hB K1
  unfold Th.o at hW3
  have HW3 := hid hW3
  clear hW3
  go_upto_region 2 with fail
  rw [HW3.out]
  clear HW3
  have T3 := hid (T.out.later hB3)
  have hK3 := hid (T.out.kept hB3)
  have n0 : W3.cell? ⟨w.heap.size, 0, none⟩ = some (.int .i64 c.kd) := cell_i K3.out (k := 0) (by simp [plI])
  have e1 : ((c.kd : Int) == 1) = false := by simp [hkh.out]
  have e2 : ((c.kd : Int) == 2) = false := by simp [hkh.out]
  have e3 : ((c.kd : Int) == 3) = false := by simp [hkh.out]
  go_wp2_with fail
  with_reducible refine (tk_drop T3.out hih.out hx hL).mono ?_
  rintro y w4 ⟨rfl, hT, hK⟩
  clear n0 e1 e2 e3
  go_wp2_with fail
  go_ret
  exact ⟨rfl, hT, hK3.out.trans hK⟩
theorem act_done {W0 w : World} {tb : Nat} {L : List Th} {K : List Nat} (h : TK W0 w tb L K) {c : Cm} (hc : inC c) (hk : c.kd = 1 ∨ c.kd = 2 ∨ c.kd = 3 ∨ c.kd = 4) (hw : c.kd = 3 → 0 ≤ c.wh ∧ c.wh < 4) {id : Int} (hi : inI id) {x : Int} {L' : List Th} (hx : Hid (dnE L c id = x)) (hL : Hid (dnL L c id = L')) :
    Calls Tryz.prog 46 #[.pointer (some ⟨tb, 0, none⟩), c.v, .int .i64 id] w fun e w' => e = .returned (.int .i64 x) ∧ TK W0 w' tb L' K ∧ Kept K w w' := by
  have hx' := hx.out
  have hL' := hL.out
  unfold dnE at hx'
  unfold dnL at hL'
  rcases hk with hk | hk | hk | hk
  · simp only [hk] at hx' hL'
    exact done_put h hc hk hi (hid hx') (hid hL')
  · simp only [hk] at hx' hL'
    exact done_move h hk hi (hid hx') (hid hL')
  · simp only [hk] at hx' hL'
    have hb := hw hk
    have : c.wh = 0 ∨ c.wh = 1 ∨ c.wh = 2 ∨ c.wh = 3 := by omega
    rcases this with e | e | e | e
    · rw [e] at hx' hL'; exact done_set0 h hc.2.2.2.2 hk e hi (hid hx') (hid hL')
    · rw [e] at hx' hL'; exact done_set1 h hc.2.2.2.2 hk e hi (hid hx') (hid hL')
    · rw [e] at hx' hL'; exact done_set2 h hc.2.2.2.2 hk e hi (hid hx') (hid hL')
    · rw [e] at hx' hL'; exact done_set3 h hc.2.2.2.2 hk e hi (hid hx') (hid hL')
  · simp only [hk] at hx' hL'
    exact done_drop h hk hi (hid hx') (hid hL')
end Go.Proofs.YtfoncphdbaaedaaGreatDoor
