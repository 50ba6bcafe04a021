/- Contract of Is of the reference: it says what the plain function says; nothing that was there is changed. Contracts of both where they are told otherwise. -/
import Derived.Test.YtkklchobiiajgaaEvA
namespace Go.Proofs.Ytkklchobiiajgaa
open Go.RowKit
set_option linter.unusedVariables false
theorem zero_dl {d : Dl} {q : Bool} (h : eqD d zD = q) (W : World) : (Op.equalIn 10000 45 d.v (.agg #[.int .i64 0, .int .u8 0, .int .i64 0, .int .i64 0, .int .i64 0, .string ⟨#[]⟩, .int .i64 0, .string ⟨#[]⟩, .int .i64 0, .string ⟨#[]⟩, .int .i64 0, .string ⟨#[]⟩])).run Try.prog W = .ok q W := equal_dl_at h W
theorem zero_th {d : Th} {q : Bool} (h : eqT d zT = q) (W : World) : (Op.equalIn 10000 43 d.v (.agg #[.int .i64 0, .int .i64 0, .int .i64 0, .int .i64 0, .string ⟨#[]⟩, .int .i64 0, .string ⟨#[]⟩, .int .i64 0, .string ⟨#[]⟩, .int .i64 0, .string ⟨#[]⟩])).run Try.prog W = .ok q W := equal_th_at h W
set_option maxRecDepth 100000 in
set_option maxHeartbeats 4000000 in
theorem refev_is1 {e : Ev} {q : Bool} (h : Hid (isE e = q)) (hi : inE e) (k1 : e.k = 1) (w : World) : Calls Try.prog 22 #[e.v] w fun x w' => x = .returned (.bool q) ∧ Below w.heap.size w w' := by
  obtain ⟨W, hW⟩ : ∃ W, W = w.alloc e.o := ⟨_, rfl⟩
  have hE : Below w.heap.size w W := by rw [hW]; exact below1 _ _
  have K := hid (show W.heap[w.heap.size]? = some e.o by rw [hW]; exact new_at _ _ _ rfl)
  have lK := at_lt K.out
  have c := cells_at K.out
  obtain ⟨it, id⟩ := hi
  obtain ⟨p, hp⟩ : ∃ p, Hid (isT e.t = p) := ⟨_, rfl⟩
  obtain ⟨a, ha⟩ : ∃ a, (e.i == e.t.id) = a := ⟨_, rfl⟩
  obtain ⟨r, hr⟩ : ∃ r, Hid (eqD e.d zD = r) := ⟨_, rfl⟩
  have hq : Hid ((p && (a && r)) = q) := by show (p && (a && r)) = q; rw [← h.out, isE_1 k1, eqE_1 k1, hp.out, ha, hr.out]
  have hQ := zero_dl hr.out
  clear h hr
  have HT := fun w => refT_at hp w it
  clear hp
  have e1 : (e.k == 1) = true := by simp [k1]
  clear k1
  go_enter Try.func22, Try.ntmps22
  go_upto_region 1 with fail
  rw [← hW]
  clear hW
  go_wp2_with fail
  refine (HT _).mono ?_
  rintro x w1 ⟨rfl, hb1⟩
  have K2 := hid (var_on hb1 K.out lK)
  have hB := below_on hE hb1
  clear hb1 hE K c lK HT
  have c := cells_at K2.out
  cases p
  · go_wp2_with fail
    go_ret
    exact ⟨ret_b (by rw [← hq.out]; rfl), hB⟩
  · cases a
    · go_wp2_with fail
      go_ret
      exact ⟨ret_b (by rw [← hq.out]; rfl), hB⟩
    · go_wp2_with fail
      go_ret
      exact ⟨ret_b (by rw [← hq.out]; rfl), hB⟩
set_option maxRecDepth 100000 in
set_option maxHeartbeats 4000000 in
theorem refev_is2 {e : Ev} {q : Bool} (h : Hid (isE e = q)) (hi : inE e) (k1 : ¬ e.k = 1) (k2 : e.k = 2) (w : World) : Calls Try.prog 22 #[e.v] w fun x w' => x = .returned (.bool q) ∧ Below w.heap.size w w' := by
  obtain ⟨W, hW⟩ : ∃ W, W = w.alloc e.o := ⟨_, rfl⟩
  have hE : Below w.heap.size w W := by rw [hW]; exact below1 _ _
  have K := hid (show W.heap[w.heap.size]? = some e.o by rw [hW]; exact new_at _ _ _ rfl)
  have lK := at_lt K.out
  have c := cells_at K.out
  obtain ⟨it, id⟩ := hi
  obtain ⟨p, hp⟩ : ∃ p, Hid (isD e.d = p) := ⟨_, rfl⟩
  obtain ⟨a, ha⟩ : ∃ a, (e.i == e.d.id) = a := ⟨_, rfl⟩
  obtain ⟨r, hr⟩ : ∃ r, Hid (eqT e.t zT = r) := ⟨_, rfl⟩
  have hq : Hid ((p && (a && r)) = q) := by show (p && (a && r)) = q; rw [← h.out, isE_2 k2, eqE_2 k2, hp.out, ha, hr.out]
  have hQ := zero_th hr.out
  clear h hr
  have HT := fun w => rD_at hp id w
  clear hp
  have e1 : (e.k == 1) = false := by simp [k2]
  have e2 : (e.k == 2) = true := by simp [k2]
  clear k1 k2
  go_enter Try.func22, Try.ntmps22
  go_upto_region 1 with fail
  rw [← hW]
  clear hW
  go_wp2_with fail
  refine (HT _).mono ?_
  rintro x w1 ⟨rfl, hb1⟩
  have K2 := hid (var_on hb1 K.out lK)
  have hB := below_on hE hb1
  clear hb1 hE K c lK HT
  have c := cells_at K2.out
  cases p
  · go_wp2_with fail
    go_ret
    exact ⟨ret_b (by rw [← hq.out]; rfl), hB⟩
  · cases a
    · go_wp2_with fail
      go_ret
      exact ⟨ret_b (by rw [← hq.out]; rfl), hB⟩
    · go_wp2_with fail
      go_ret
      exact ⟨ret_b (by rw [← hq.out]; rfl), hB⟩
set_option maxRecDepth 100000 in
set_option maxHeartbeats 4000000 in
theorem refev_is3 {e : Ev} {q : Bool} (h : Hid (isE e = q)) (k1 : ¬ e.k = 1) (k2 : ¬ e.k = 2) (k3 : e.k = 3) (w : World) : Calls Try.prog 22 #[e.v] w fun x w' => x = .returned (.bool q) ∧ Below w.heap.size w w' := by
  obtain ⟨W, hW⟩ : ∃ W, W = w.alloc e.o := ⟨_, rfl⟩
  have hE : Below w.heap.size w W := by rw [hW]; exact below1 _ _
  have K := hid (show W.heap[w.heap.size]? = some e.o by rw [hW]; exact new_at _ _ _ rfl)
  have lK := at_lt K.out
  have c := cells_at K.out
  obtain ⟨r, hr⟩ : ∃ r, Hid (eqT e.t zT = r) := ⟨_, rfl⟩
  obtain ⟨s, hs⟩ : ∃ s, Hid (eqD e.d zD = s) := ⟨_, rfl⟩
  obtain ⟨a, ha⟩ : ∃ a, decide (0 ≤ e.i) = a := ⟨_, rfl⟩
  obtain ⟨b, hb⟩ : ∃ b, decide (e.i ≤ 1000000) = b := ⟨_, rfl⟩
  have hq : Hid ((a && (b && (r && s))) = q) := by show _ = q; rw [← h.out, isE_3 k3, eqE_3 k3, ha, hb, hr.out, hs.out]
  have hQ := zero_th hr.out
  have hS := zero_dl hs.out
  clear h hr hs
  have e1 : (e.k == 1) = false := by simp [k3]
  have e2 : (e.k == 2) = false := by simp [k3]
  have e3 : (e.k == 3) = true := by simp [k3]
  clear k1 k2 k3
  cases a
  · go_enter Try.func22, Try.ntmps22
    go_upto_region 1 with fail
    rw [← hW]
    clear hW
    go_wp2_with fail
    go_ret
    exact ⟨ret_b (by rw [← hq.out]; rfl), hE⟩
  cases b
  · go_enter Try.func22, Try.ntmps22
    go_upto_region 1 with fail
    rw [← hW]
    clear hW
    go_wp2_with fail
    go_ret
    exact ⟨ret_b (by rw [← hq.out]; rfl), hE⟩
  cases r
  · go_enter Try.func22, Try.ntmps22
    go_upto_region 1 with fail
    rw [← hW]
    clear hW
    go_wp2_with fail
    go_ret
    exact ⟨ret_b (by rw [← hq.out]; rfl), hE⟩
  · go_enter Try.func22, Try.ntmps22
    go_upto_region 1 with fail
    rw [← hW]
    clear hW
    go_wp2_with fail
    go_ret
    exact ⟨ret_b (by rw [← hq.out]; rfl), hE⟩
set_option maxRecDepth 100000 in
set_option maxHeartbeats 4000000 in
theorem refev_is4 {e : Ev} {q : Bool} (h : Hid (isE e = q)) (k1 : ¬ e.k = 1) (k2 : ¬ e.k = 2) (k3 : ¬ e.k = 3) (w : World) : Calls Try.prog 22 #[e.v] w fun x w' => x = .returned (.bool q) ∧ Below w.heap.size w w' := by
  obtain ⟨W, hW⟩ : ∃ W, W = w.alloc e.o := ⟨_, rfl⟩
  have hE : Below w.heap.size w W := by rw [hW]; exact below1 _ _
  have K := hid (show W.heap[w.heap.size]? = some e.o by rw [hW]; exact new_at _ _ _ rfl)
  have lK := at_lt K.out
  have c := cells_at K.out
  have e1 : (e.k == 1) = false := by simp [k1]
  have e2 : (e.k == 2) = false := by simp [k2]
  have e3 : (e.k == 3) = false := by simp [k3]
  have hq : Hid (false = q) := by show _ = q; rw [← h.out, isE_4 k1 k2 k3]
  clear h k1 k2 k3
  go_enter Try.func22, Try.ntmps22
  go_upto_region 1 with fail
  rw [← hW]
  clear hW
  go_wp2_with fail
  go_ret
  exact ⟨ret_b hq.out, hE⟩
theorem refev_is {e : Ev} {q : Bool} (h : Hid (isE e = q)) (hi : inE e) (w : World) : Calls Try.prog 22 #[e.v] w fun x w' => x = .returned (.bool q) ∧ Below w.heap.size w w' := by
  by_cases k1 : e.k = 1
  · exact refev_is1 h hi k1 w
  · by_cases k2 : e.k = 2
    · exact refev_is2 h hi k1 k2 w
    · by_cases k3 : e.k = 3
      · exact refev_is3 h k1 k2 k3 w
      · exact refev_is4 h k1 k2 k3 w
end Go.Proofs.Ytkklchobiiajgaa
