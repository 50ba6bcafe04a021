/- Contracts of the reference's Done and Do of layer 11: what is told, the row behind it: cells never full: as wdE, wdN, wdL say. No conditions beyond those typed. -/
import Derived.Test.YtfoncphdbaaedaaGreatDoorWdR
import Derived.Test.YtfoncphdbaaedaaGreatDoorTake
import Derived.Test.YtfoncphdbaaedaaGreatDoorWB
namespace Go.Proofs.YtfoncphdbaaedaaGreatDoor
open Go.RowKit Go.Maps
set_option linter.unusedVariables false
set_option maxRecDepth 100000
set_option maxHeartbeats 2000000 in
theorem ref_done1F {w : World} {p : Option Addr} {cap : Nat} {L : List Th} (hr : RowT w p L) (hG : Good L) {n : Nat} (hn : Hid (L.length = n)) {c : Cm} {id : Int} (hk : c.kd = 1) {M : List Th} (hM : Hid (newL L c id = M)) {m : Nat} (hm : Hid (M.length = m)) :
    Calls Tryz.prog 24 #[.slice p n cap, c.v, .int .i64 id] w fun e w' => ∃ p' cap', e = .returned (.slice p' m cap') ∧ RowT w' p' M ∧ (∀ k, k ∈ rowB p' → w.heap.size ≤ k ∧ k < w'.heap.size) ∧ Below w.heap.size w w' := by
  obtain ⟨W, hW⟩ : ∃ W, W = w.alloc c.o := ⟨_, rfl⟩
  have hB : Below w.heap.size w W := by rw [hW]; exact below1 _ _
  have K1 := hid (show W.heap[w.heap.size]? = some c.o by rw [hW]; exact new_at _ _ _ rfl)
  have HR1 := hid (hr.later hB)
  have hln : n ≤ 200 := by rw [← hn.out]; exact hG.len
  have HRi := hid hG.rise
  have hM2 : Hid (witT (⟨id, c.x, c.y, c.f0, c.f1, c.f2, c.f3⟩ : Th) L = M) := by
    show _ = _
    rw [← hM.out]; unfold newL; rw [if_pos hk]; rfl
  have e1 : ((c.kd : Int) == 1) = true := by simp [hk]
  clear hk hM
  clear hr hG
  go_enter Tryz.func24, Tryz.ntmps24
  go_upto_region 1 with fail
  rw [← hW]
  clear hW
  have c1 := cells_at K1.out
  go_wp2_with fail
  with_reducible refine (ref_with (t := ⟨id, c.x, c.y, c.f0, c.f1, c.f2, c.f3⟩) (cap := cap) HR1.out HRi.out hn (by omega) hM2 hm).mono ?_
  rintro y w2 ⟨p2, cap2, rfl, hr2, hq2, hb2⟩
  clear c1
  go_wp2_with fail
  go_ret
  exact ⟨p2, cap2, rfl, hr2, fun k hk => ⟨Nat.le_trans hB.size (hq2 k hk).1, (hq2 k hk).2⟩, below_on hB hb2⟩
set_option maxHeartbeats 2000000 in
theorem ref_done4F {w : World} {p : Option Addr} {cap : Nat} {L : List Th} (hr : RowT w p L) (hG : Good L) {n : Nat} (hn : Hid (L.length = n)) {c : Cm} {id : Int} (hk : c.kd = 4) (hh : hasT c.id L = true) {M : List Th} (hM : Hid (newL L c id = M)) {m : Nat} (hm : Hid (M.length = m)) :
    Calls Tryz.prog 24 #[.slice p n cap, c.v, .int .i64 id] w fun e w' => ∃ p' cap', e = .returned (.slice p' m cap') ∧ RowT w' p' M ∧ (∀ k, k ∈ rowB p' → w.heap.size ≤ k ∧ k < w'.heap.size) ∧ Below w.heap.size w w' := by
  obtain ⟨W, hW⟩ : ∃ W, W = w.alloc c.o := ⟨_, rfl⟩
  have hB : Below w.heap.size w W := by rw [hW]; exact below1 _ _
  have K1 := hid (show W.heap[w.heap.size]? = some c.o by rw [hW]; exact new_at _ _ _ rfl)
  have HR1 := hid (hr.later hB)
  have hln : n ≤ 200 := by rw [← hn.out]; exact hG.len
  have HRi := hid hG.rise
  have hM2 : Hid (outT c.id L = M) := by
    show _ = _
    rw [← hM.out]; unfold newL; rw [if_neg (by omega), if_neg (by omega), if_neg (by omega)]
  have e1 : ((c.kd : Int) == 1) = false := by simp [hk]
  have e2 : ((c.kd : Int) == 2) = false := by simp [hk]
  have e3 : ((c.kd : Int) == 3) = false := by simp [hk]
  obtain ⟨a, ha⟩ : ∃ a, Hid (atI c.id L = a) := ⟨_, rfl⟩
  obtain ⟨k, t, hk1, hk2, hk3⟩ := atI_has hh
  obtain rfl : (k : Int) = a := hk1.symm.trans ha.out
  have hkn : k < n := by rw [← hn.out]; exact (List.getElem?_eq_some_iff.1 hk2).1
  have j1 : (0 : Int) ≤ (k : Int) := by omega
  have j2 : (k : Int) < (n : Int) := by omega
  have HK2 := hid hk2
  clear hk hM hk1 hk2 hk3 hh
  clear hr hG
  go_enter Tryz.func24, Tryz.ntmps24
  go_upto_region 1 with fail
  rw [← hW]
  clear hW
  have n0 : W.cell? ⟨w.heap.size, 0, none⟩ = some (.int .i64 c.kd) := cell_i K1.out (k := 0) (by simp [plI])
  have n1 : W.cell? ⟨w.heap.size, 1, none⟩ = some (.int .i64 c.id) := cell_i K1.out (k := 1) (by simp [plI])
  have CA := ref_at6 (cap := cap) HR1.out hn (by omega) ha
  go_wp2_with fail
  refine CA.mono ?_
  rintro y w2 ⟨rfl, hw2⟩
  rw [hw2]
  clear hw2 w2 CA
  obtain ⟨b, off, rfl, hcl⟩ := HR1.out.at HK2.out
  obtain ⟨W3, hW3⟩ : ∃ W3, W.alloc t.o = W3 := ⟨_, rfl⟩
  have hb3 : Below W.heap.size W W3 := by rw [← hW3]; exact below1 _ _
  have K3 := hid (var_on hb3 K1.out (lt_of_at K1.out))
  have HR3 := hid (HR1.out.later hb3)
  have hB3 := below_on hB hb3
  unfold Th.o at hW3
  have HW3 := hid hW3
  clear hW3
  go_upto_region 4 with fail
  rw [HW3.out]
  clear HW3 n0 n1 hcl K1 HR1 hB hb3
  have n0 : W3.cell? ⟨w.heap.size, 0, none⟩ = some (.int .i64 c.kd) := cell_i K3.out (k := 0) (by simp [plI])
  have n1 : W3.cell? ⟨w.heap.size, 1, none⟩ = some (.int .i64 c.id) := cell_i K3.out (k := 1) (by simp [plI])
  go_wp2_with fail
  with_reducible refine (ref_without (cap := cap) HR3.out hn (by omega) hM2 hm).mono ?_
  rintro y w4 ⟨p4, cap4, rfl, hr4, hq4, hb4⟩
  go_wp2_with fail
  go_ret
  exact ⟨p4, cap4, rfl, hr4, fun k hk => ⟨Nat.le_trans hB3.size (hq4 k hk).1, (hq4 k hk).2⟩, below_on hB3 hb4⟩
set_option maxHeartbeats 2000000 in
theorem ref_done2F {w : World} {p : Option Addr} {cap : Nat} {L : List Th} (hr : RowT w p L) (hG : Good L) {n : Nat} (hn : Hid (L.length = n)) {c : Cm} {id : Int} (hk : c.kd = 2) (hh : hasT c.id L = true) {M : List Th} (hM : Hid (newL L c id = M)) {m : Nat} (hm : Hid (M.length = m)) :
    Calls Tryz.prog 24 #[.slice p n cap, c.v, .int .i64 id] w fun e w' => ∃ p' cap', e = .returned (.slice p' m cap') ∧ RowT w' p' M ∧ (∀ k, k ∈ rowB p' → w.heap.size ≤ k ∧ k < w'.heap.size) ∧ Below w.heap.size w w' := by
  obtain ⟨W, hW⟩ : ∃ W, W = w.alloc c.o := ⟨_, rfl⟩
  have hB : Below w.heap.size w W := by rw [hW]; exact below1 _ _
  have K1 := hid (show W.heap[w.heap.size]? = some c.o by rw [hW]; exact new_at _ _ _ rfl)
  have HR1 := hid (hr.later hB)
  have hln : n ≤ 200 := by rw [← hn.out]; exact hG.len
  have HRi := hid hG.rise
  have e1 : ((c.kd : Int) == 1) = false := by simp [hk]
  have e2 : ((c.kd : Int) == 2) = true := by simp [hk]
  obtain ⟨a, ha⟩ : ∃ a, Hid (atI c.id L = a) := ⟨_, rfl⟩
  obtain ⟨k, t, hk1, hk2, hk3⟩ := atI_has hh
  obtain rfl : (k : Int) = a := hk1.symm.trans ha.out
  have hkn : k < n := by rw [← hn.out]; exact (List.getElem?_eq_some_iff.1 hk2).1
  have j1 : (0 : Int) ≤ (k : Int) := by omega
  have j2 : (k : Int) < (n : Int) := by omega
  have HK2 := hid hk2
  have ht : thOf L c.id = t := by unfold thOf; rw [hk3]; rfl
  have hM2 : Hid (witT (⟨t.id, c.x, c.y, t.f0, t.f1, t.f2, t.f3⟩ : Th) L = M) := by
    show _ = _
    rw [← hM.out]; unfold newL; rw [if_neg (by omega), if_pos hk]; rw [ht]; rfl
  clear hk hM hk1 hk2 hk3 hh ht
  clear hr hG
  go_enter Tryz.func24, Tryz.ntmps24
  go_upto_region 1 with fail
  rw [← hW]
  clear hW
  have n1 : W.cell? ⟨w.heap.size, 1, none⟩ = some (.int .i64 c.id) := cell_i K1.out (k := 1) (by simp [plI])
  have n0 : W.cell? ⟨w.heap.size, 0, none⟩ = some (.int .i64 c.kd) := cell_i K1.out (k := 0) (by simp [plI])
  have CA := ref_at6 (cap := cap) HR1.out hn (by omega) ha
  go_wp2_with fail
  refine CA.mono ?_
  rintro y w2 ⟨rfl, hw2⟩
  rw [hw2]
  clear hw2 w2 CA
  obtain ⟨b, off, rfl, hcl⟩ := HR1.out.at HK2.out
  obtain ⟨W3, hW3⟩ : ∃ W3, W.alloc t.o = W3 := ⟨_, rfl⟩
  have hb3 : Below W.heap.size W W3 := by rw [← hW3]; exact below1 _ _
  have K3 := hid (var_on hb3 K1.out (lt_of_at K1.out))
  have J3 := hid (show W3.heap[W.heap.size]? = some t.o by rw [← hW3]; exact new_at _ _ _ rfl)
  have hB3 := below_on hB hb3
  have hg : W.heap.size ≤ W.heap.size := Nat.le_refl _
  have hg0 : w.heap.size ≤ W.heap.size := hB.size
  have hgc : w.heap.size ≠ W.heap.size := by have := lt_of_at K1.out; omega
  unfold Th.o at hW3
  have HW3 := hid hW3
  clear hW3
  go_upto_region 4 with fail
  rw [HW3.out]
  clear HW3 n0 n1 hcl K1
  obtain ⟨g, hgg⟩ : ∃ g, W.heap.size = g := ⟨_, rfl⟩
  have HRW := hid (show Below g W W3 by rw [← hgg]; exact hb3)
  rw [hgg] at J3 hg0 hgc ⊢
  have hgW := hid hgg
  clear hgg hb3 hg
  have n0 : W3.cell? ⟨w.heap.size, 0, none⟩ = some (.int .i64 c.kd) := cell_i K3.out (k := 0) (by simp [plI])
  have n4 : W3.cell? ⟨w.heap.size, 4, none⟩ = some (.int .i64 c.x) := cell_i K3.out (k := 4) (by simp [plI])
  have n5 : W3.cell? ⟨w.heap.size, 5, none⟩ = some (.int .i64 c.y) := cell_i K3.out (k := 5) (by simp [plI])
  have c3 := cells_at J3.out
  go_upto_region 10 with fail
  have J5 := hid (set_pt (x := c.x) (y := c.y) J3.out)
  have hB5 := below_set2 hB3 hg0 1 2 (.int .i64 c.x) (.int .i64 c.y)
  have hBW := below_set2 HRW.out (Nat.le_refl g) 1 2 (.int .i64 c.x) (.int .i64 c.y)
  obtain ⟨W5, hW5⟩ : ∃ W5, (W3.setCell ⟨g, 1, none⟩ (.int .i64 c.x)).setCell ⟨g, 2, none⟩ (.int .i64 c.y) = W5 := ⟨_, rfl⟩
  rw [hW5] at J5 hB5 hBW ⊢
  clear hW5 c3 n0 n4 n5 J3 K3 hB3
  have HR5 := hid (HR1.out.later (w := W) (wr := W5) (by rw [hgW.out]; exact hBW))
  have c5 := cells_at J5.out
  clear HR1 HRW hBW hgW
  go_wp2_with fail
  with_reducible refine (ref_with (t := ⟨t.id, c.x, c.y, t.f0, t.f1, t.f2, t.f3⟩) (cap := cap) HR5.out HRi.out hn (by omega) hM2 hm).mono ?_
  rintro y w6 ⟨p6, cap6, rfl, hr6, hq6, hb6⟩
  clear c5
  go_wp2_with fail
  go_ret
  exact ⟨p6, cap6, rfl, hr6, fun k hk => ⟨Nat.le_trans hB5.size (hq6 k hk).1, (hq6 k hk).2⟩, below_on hB5 hb6⟩
set_option maxHeartbeats 2000000 in
theorem ref_done30F {w : World} {p : Option Addr} {cap : Nat} {L : List Th} (hr : RowT w p L) (hG : Good L) {n : Nat} (hn : Hid (L.length = n)) {c : Cm} {id : Int} (hk : c.kd = 3) (hw : c.wh = 0) (hh : hasT c.id L = true) {M : List Th} (hM : Hid (newL L c id = M)) {m : Nat} (hm : Hid (M.length = m)) :
    Calls Tryz.prog 24 #[.slice p n cap, c.v, .int .i64 id] w fun e w' => ∃ p' cap', e = .returned (.slice p' m cap') ∧ RowT w' p' M ∧ (∀ k, k ∈ rowB p' → w.heap.size ≤ k ∧ k < w'.heap.size) ∧ Below w.heap.size w w' := by
  obtain ⟨W, hW⟩ : ∃ W, W = w.alloc c.o := ⟨_, rfl⟩
  have hB : Below w.heap.size w W := by rw [hW]; exact below1 _ _
  have K1 := hid (show W.heap[w.heap.size]? = some c.o by rw [hW]; exact new_at _ _ _ rfl)
  have HR1 := hid (hr.later hB)
  have hln : n ≤ 200 := by rw [← hn.out]; exact hG.len
  have HRi := hid hG.rise
  have e1 : ((c.kd : Int) == 1) = false := by simp [hk]
  have e2 : ((c.kd : Int) == 2) = false := by simp [hk]
  have e3 : ((c.kd : Int) == 3) = true := by simp [hk]
  obtain ⟨a, ha⟩ : ∃ a, Hid (atI c.id L = a) := ⟨_, rfl⟩
  obtain ⟨k, t, hk1, hk2, hk3⟩ := atI_has hh
  obtain rfl : (k : Int) = a := hk1.symm.trans ha.out
  have hkn : k < n := by rw [← hn.out]; exact (List.getElem?_eq_some_iff.1 hk2).1
  have j1 : (0 : Int) ≤ (k : Int) := by omega
  have j2 : (k : Int) < (n : Int) := by omega
  have HK2 := hid hk2
  have ht : thOf L c.id = t := by unfold thOf; rw [hk3]; rfl
  have hM2 : Hid (witT (⟨t.id, t.x, t.y, c.va, t.f1, t.f2, t.f3⟩ : Th) L = M) := by
    show _ = _
    rw [← hM.out]; unfold newL; rw [if_neg (by omega), if_neg (by omega), if_pos hk, hw]; rw [ht]; rfl
  clear hk hM hk1 hk2 hk3 hh ht
  have hwh := hid hw
  clear hw
  clear hr hG
  go_enter Tryz.func24, Tryz.ntmps24
  go_upto_region 1 with fail
  rw [← hW]
  clear hW
  have n1 : W.cell? ⟨w.heap.size, 1, none⟩ = some (.int .i64 c.id) := cell_i K1.out (k := 1) (by simp [plI])
  have n0 : W.cell? ⟨w.heap.size, 0, none⟩ = some (.int .i64 c.kd) := cell_i K1.out (k := 0) (by simp [plI])
  have CA := ref_at6 (cap := cap) HR1.out hn (by omega) ha
  go_wp2_with fail
  refine CA.mono ?_
  rintro y w2 ⟨rfl, hw2⟩
  rw [hw2]
  clear hw2 w2 CA
  obtain ⟨b, off, rfl, hcl⟩ := HR1.out.at HK2.out
  obtain ⟨W3, hW3⟩ : ∃ W3, W.alloc t.o = W3 := ⟨_, rfl⟩
  have hb3 : Below W.heap.size W W3 := by rw [← hW3]; exact below1 _ _
  have K3 := hid (var_on hb3 K1.out (lt_of_at K1.out))
  have J3 := hid (show W3.heap[W.heap.size]? = some t.o by rw [← hW3]; exact new_at _ _ _ rfl)
  have hB3 := below_on hB hb3
  have hg : W.heap.size ≤ W.heap.size := Nat.le_refl _
  have hg0 : w.heap.size ≤ W.heap.size := hB.size
  have hgc : w.heap.size ≠ W.heap.size := by have := lt_of_at K1.out; omega
  unfold Th.o at hW3
  have HW3 := hid hW3
  clear hW3
  go_upto_region 4 with fail
  rw [HW3.out]
  clear HW3 n0 n1 hcl K1
  obtain ⟨g, hgg⟩ : ∃ g, W.heap.size = g := ⟨_, rfl⟩
  have HRW := hid (show Below g W W3 by rw [← hgg]; exact hb3)
  rw [hgg] at J3 hg0 hgc ⊢
  have hgW := hid hgg
  clear hgg hb3 hg
  have n0 : W3.cell? ⟨w.heap.size, 0, none⟩ = some (.int .i64 c.kd) := cell_i K3.out (k := 0) (by simp [plI])
  have n2 : W3.cell? ⟨w.heap.size, 2, none⟩ = some (.int .i64 0) := by rw [← hwh.out]; exact cell_i K3.out (k := 2) (by simp [plI])
  have n14 : W3.cell? ⟨w.heap.size, 14, none⟩ = some (.int .i64 c.va.n) := (cell_f K3.out (k := 14) (by simp [atF])).1
  have n15 : W3.cell? ⟨w.heap.size, 15, none⟩ = some (.string c.va.s) := (cell_f K3.out (k := 14) (by simp [atF])).2
  have c3 := cells_at J3.out
  go_upto_region 10 with fail
  have J5' := hid (set_fd J3.out c.va).1
  have hB5 := below_set2 hB3 hg0 3 4 (.int .i64 c.va.n) (.string c.va.s)
  have hBW := below_set2 HRW.out (Nat.le_refl g) 3 4 (.int .i64 c.va.n) (.string c.va.s)
  obtain ⟨W5, hW5⟩ : ∃ W5, (W3.setCell ⟨g, 3, none⟩ (.int .i64 c.va.n)).setCell ⟨g, 4, none⟩ (.string c.va.s) = W5 := ⟨_, rfl⟩
  rw [hW5] at J5' hB5 hBW ⊢
  have J5 : Hid (W5.heap[g]? = some (⟨t.id, t.x, t.y, c.va, t.f1, t.f2, t.f3⟩ : Th).o) := J5'
  clear J5' hW5 c3 n0 n2 n14 n15 J3 K3 hB3
  have HR5 := hid (HR1.out.later (w := W) (wr := W5) (by rw [hgW.out]; exact hBW))
  have c5 := cells_at J5.out
  clear HR1 HRW hBW hgW
  go_wp2_with fail
  with_reducible refine (ref_with (t := ⟨t.id, t.x, t.y, c.va, t.f1, t.f2, t.f3⟩) (cap := cap) HR5.out HRi.out hn (by omega) hM2 hm).mono ?_
  rintro y w6 ⟨p6, cap6, rfl, hr6, hq6, hb6⟩
  clear c5
  go_wp2_with fail
  go_ret
  exact ⟨p6, cap6, rfl, hr6, fun k hk => ⟨Nat.le_trans hB5.size (hq6 k hk).1, (hq6 k hk).2⟩, below_on hB5 hb6⟩
set_option maxHeartbeats 2000000 in
theorem ref_done31F {w : World} {p : Option Addr} {cap : Nat} {L : List Th} (hr : RowT w p L) (hG : Good L) {n : Nat} (hn : Hid (L.length = n)) {c : Cm} {id : Int} (hk : c.kd = 3) (hw : c.wh = 1) (hh : hasT c.id L = true) {M : List Th} (hM : Hid (newL L c id = M)) {m : Nat} (hm : Hid (M.length = m)) :
    Calls Tryz.prog 24 #[.slice p n cap, c.v, .int .i64 id] w fun e w' => ∃ p' cap', e = .returned (.slice p' m cap') ∧ RowT w' p' M ∧ (∀ k, k ∈ rowB p' → w.heap.size ≤ k ∧ k < w'.heap.size) ∧ Below w.heap.size w w' := by
  obtain ⟨W, hW⟩ : ∃ W, W = w.alloc c.o := ⟨_, rfl⟩
  have hB : Below w.heap.size w W := by rw [hW]; exact below1 _ _
  have K1 := hid (show W.heap[w.heap.size]? = some c.o by rw [hW]; exact new_at _ _ _ rfl)
  have HR1 := hid (hr.later hB)
  have hln : n ≤ 200 := by rw [← hn.out]; exact hG.len
  have HRi := hid hG.rise
  have e1 : ((c.kd : Int) == 1) = false := by simp [hk]
  have e2 : ((c.kd : Int) == 2) = false := by simp [hk]
  have e3 : ((c.kd : Int) == 3) = true := by simp [hk]
  obtain ⟨a, ha⟩ : ∃ a, Hid (atI c.id L = a) := ⟨_, rfl⟩
  obtain ⟨k, t, hk1, hk2, hk3⟩ := atI_has hh
  obtain rfl : (k : Int) = a := hk1.symm.trans ha.out
  have hkn : k < n := by rw [← hn.out]; exact (List.getElem?_eq_some_iff.1 hk2).1
  have j1 : (0 : Int) ≤ (k : Int) := by omega
  have j2 : (k : Int) < (n : Int) := by omega
  have HK2 := hid hk2
  have ht : thOf L c.id = t := by unfold thOf; rw [hk3]; rfl
  have hM2 : Hid (witT (⟨t.id, t.x, t.y, t.f0, c.va, t.f2, t.f3⟩ : Th) L = M) := by
    show _ = _
    rw [← hM.out]; unfold newL; rw [if_neg (by omega), if_neg (by omega), if_pos hk, hw]; rw [ht]; rfl
  clear hk hM hk1 hk2 hk3 hh ht
  have hwh := hid hw
  clear hw
  clear hr hG
  go_enter Tryz.func24, Tryz.ntmps24
  go_upto_region 1 with fail
  rw [← hW]
  clear hW
  have n1 : W.cell? ⟨w.heap.size, 1, none⟩ = some (.int .i64 c.id) := cell_i K1.out (k := 1) (by simp [plI])
  have n0 : W.cell? ⟨w.heap.size, 0, none⟩ = some (.int .i64 c.kd) := cell_i K1.out (k := 0) (by simp [plI])
  have CA := ref_at6 (cap := cap) HR1.out hn (by omega) ha
  go_wp2_with fail
  refine CA.mono ?_
  rintro y w2 ⟨rfl, hw2⟩
  rw [hw2]
  clear hw2 w2 CA
  obtain ⟨b, off, rfl, hcl⟩ := HR1.out.at HK2.out
  obtain ⟨W3, hW3⟩ : ∃ W3, W.alloc t.o = W3 := ⟨_, rfl⟩
  have hb3 : Below W.heap.size W W3 := by rw [← hW3]; exact below1 _ _
  have K3 := hid (var_on hb3 K1.out (lt_of_at K1.out))
  have J3 := hid (show W3.heap[W.heap.size]? = some t.o by rw [← hW3]; exact new_at _ _ _ rfl)
  have hB3 := below_on hB hb3
  have hg : W.heap.size ≤ W.heap.size := Nat.le_refl _
  have hg0 : w.heap.size ≤ W.heap.size := hB.size
  have hgc : w.heap.size ≠ W.heap.size := by have := lt_of_at K1.out; omega
  unfold Th.o at hW3
  have HW3 := hid hW3
  clear hW3
  go_upto_region 4 with fail
  rw [HW3.out]
  clear HW3 n0 n1 hcl K1
  obtain ⟨g, hgg⟩ : ∃ g, W.heap.size = g := ⟨_, rfl⟩
  have HRW := hid (show Below g W W3 by rw [← hgg]; exact hb3)
  rw [hgg] at J3 hg0 hgc ⊢
  have hgW := hid hgg
  clear hgg hb3 hg
  have n0 : W3.cell? ⟨w.heap.size, 0, none⟩ = some (.int .i64 c.kd) := cell_i K3.out (k := 0) (by simp [plI])
  have n2 : W3.cell? ⟨w.heap.size, 2, none⟩ = some (.int .i64 1) := by rw [← hwh.out]; exact cell_i K3.out (k := 2) (by simp [plI])
  have n14 : W3.cell? ⟨w.heap.size, 14, none⟩ = some (.int .i64 c.va.n) := (cell_f K3.out (k := 14) (by simp [atF])).1
  have n15 : W3.cell? ⟨w.heap.size, 15, none⟩ = some (.string c.va.s) := (cell_f K3.out (k := 14) (by simp [atF])).2
  have c3 := cells_at J3.out
  go_upto_region 10 with fail
  have J5' := hid (set_fd J3.out c.va).2.1
  have hB5 := below_set2 hB3 hg0 5 6 (.int .i64 c.va.n) (.string c.va.s)
  have hBW := below_set2 HRW.out (Nat.le_refl g) 5 6 (.int .i64 c.va.n) (.string c.va.s)
  obtain ⟨W5, hW5⟩ : ∃ W5, (W3.setCell ⟨g, 5, none⟩ (.int .i64 c.va.n)).setCell ⟨g, 6, none⟩ (.string c.va.s) = W5 := ⟨_, rfl⟩
  rw [hW5] at J5' hB5 hBW ⊢
  have J5 : Hid (W5.heap[g]? = some (⟨t.id, t.x, t.y, t.f0, c.va, t.f2, t.f3⟩ : Th).o) := J5'
  clear J5' hW5 c3 n0 n2 n14 n15 J3 K3 hB3
  have HR5 := hid (HR1.out.later (w := W) (wr := W5) (by rw [hgW.out]; exact hBW))
  have c5 := cells_at J5.out
  clear HR1 HRW hBW hgW
  go_wp2_with fail
  with_reducible refine (ref_with (t := ⟨t.id, t.x, t.y, t.f0, c.va, t.f2, t.f3⟩) (cap := cap) HR5.out HRi.out hn (by omega) hM2 hm).mono ?_
  rintro y w6 ⟨p6, cap6, rfl, hr6, hq6, hb6⟩
  clear c5
  go_wp2_with fail
  go_ret
  exact ⟨p6, cap6, rfl, hr6, fun k hk => ⟨Nat.le_trans hB5.size (hq6 k hk).1, (hq6 k hk).2⟩, below_on hB5 hb6⟩
set_option maxHeartbeats 2000000 in
theorem ref_done32F {w : World} {p : Option Addr} {cap : Nat} {L : List Th} (hr : RowT w p L) (hG : Good L) {n : Nat} (hn : Hid (L.length = n)) {c : Cm} {id : Int} (hk : c.kd = 3) (hw : c.wh = 2) (hh : hasT c.id L = true) {M : List Th} (hM : Hid (newL L c id = M)) {m : Nat} (hm : Hid (M.length = m)) :
    Calls Tryz.prog 24 #[.slice p n cap, c.v, .int .i64 id] w fun e w' => ∃ p' cap', e = .returned (.slice p' m cap') ∧ RowT w' p' M ∧ (∀ k, k ∈ rowB p' → w.heap.size ≤ k ∧ k < w'.heap.size) ∧ Below w.heap.size w w' := by
  obtain ⟨W, hW⟩ : ∃ W, W = w.alloc c.o := ⟨_, rfl⟩
  have hB : Below w.heap.size w W := by rw [hW]; exact below1 _ _
  have K1 := hid (show W.heap[w.heap.size]? = some c.o by rw [hW]; exact new_at _ _ _ rfl)
  have HR1 := hid (hr.later hB)
  have hln : n ≤ 200 := by rw [← hn.out]; exact hG.len
  have HRi := hid hG.rise
  have e1 : ((c.kd : Int) == 1) = false := by simp [hk]
  have e2 : ((c.kd : Int) == 2) = false := by simp [hk]
  have e3 : ((c.kd : Int) == 3) = true := by simp [hk]
  obtain ⟨a, ha⟩ : ∃ a, Hid (atI c.id L = a) := ⟨_, rfl⟩
  obtain ⟨k, t, hk1, hk2, hk3⟩ := atI_has hh
  obtain rfl : (k : Int) = a := hk1.symm.trans ha.out
  have hkn : k < n := by rw [← hn.out]; exact (List.getElem?_eq_some_iff.1 hk2).1
  have j1 : (0 : Int) ≤ (k : Int) := by omega
  have j2 : (k : Int) < (n : Int) := by omega
  have HK2 := hid hk2
  have ht : thOf L c.id = t := by unfold thOf; rw [hk3]; rfl
  have hM2 : Hid (witT (⟨t.id, t.x, t.y, t.f0, t.f1, c.va, t.f3⟩ : Th) L = M) := by
    show _ = _
    rw [← hM.out]; unfold newL; rw [if_neg (by omega), if_neg (by omega), if_pos hk, hw]; rw [ht]; rfl
  clear hk hM hk1 hk2 hk3 hh ht
  have hwh := hid hw
  clear hw
  clear hr hG
  go_enter Tryz.func24, Tryz.ntmps24
  go_upto_region 1 with fail
  rw [← hW]
  clear hW
  have n1 : W.cell? ⟨w.heap.size, 1, none⟩ = some (.int .i64 c.id) := cell_i K1.out (k := 1) (by simp [plI])
  have n0 : W.cell? ⟨w.heap.size, 0, none⟩ = some (.int .i64 c.kd) := cell_i K1.out (k := 0) (by simp [plI])
  have CA := ref_at6 (cap := cap) HR1.out hn (by omega) ha
  go_wp2_with fail
  refine CA.mono ?_
  rintro y w2 ⟨rfl, hw2⟩
  rw [hw2]
  clear hw2 w2 CA
  obtain ⟨b, off, rfl, hcl⟩ := HR1.out.at HK2.out
  obtain ⟨W3, hW3⟩ : ∃ W3, W.alloc t.o = W3 := ⟨_, rfl⟩
  have hb3 : Below W.heap.size W W3 := by rw [← hW3]; exact below1 _ _
  have K3 := hid (var_on hb3 K1.out (lt_of_at K1.out))
  have J3 := hid (show W3.heap[W.heap.size]? = some t.o by rw [← hW3]; exact new_at _ _ _ rfl)
  have hB3 := below_on hB hb3
  have hg : W.heap.size ≤ W.heap.size := Nat.le_refl _
  have hg0 : w.heap.size ≤ W.heap.size := hB.size
  have hgc : w.heap.size ≠ W.heap.size := by have := lt_of_at K1.out; omega
  unfold Th.o at hW3
  have HW3 := hid hW3
  clear hW3
  go_upto_region 4 with fail
  rw [HW3.out]
  clear HW3 n0 n1 hcl K1
  obtain ⟨g, hgg⟩ : ∃ g, W.heap.size = g := ⟨_, rfl⟩
  have HRW := hid (show Below g W W3 by rw [← hgg]; exact hb3)
  rw [hgg] at J3 hg0 hgc ⊢
  have hgW := hid hgg
  clear hgg hb3 hg
  have n0 : W3.cell? ⟨w.heap.size, 0, none⟩ = some (.int .i64 c.kd) := cell_i K3.out (k := 0) (by simp [plI])
  have n2 : W3.cell? ⟨w.heap.size, 2, none⟩ = some (.int .i64 2) := by rw [← hwh.out]; exact cell_i K3.out (k := 2) (by simp [plI])
  have n14 : W3.cell? ⟨w.heap.size, 14, none⟩ = some (.int .i64 c.va.n) := (cell_f K3.out (k := 14) (by simp [atF])).1
  have n15 : W3.cell? ⟨w.heap.size, 15, none⟩ = some (.string c.va.s) := (cell_f K3.out (k := 14) (by simp [atF])).2
  have c3 := cells_at J3.out
  go_upto_region 10 with fail
  have J5' := hid (set_fd J3.out c.va).2.2.1
  have hB5 := below_set2 hB3 hg0 7 8 (.int .i64 c.va.n) (.string c.va.s)
  have hBW := below_set2 HRW.out (Nat.le_refl g) 7 8 (.int .i64 c.va.n) (.string c.va.s)
  obtain ⟨W5, hW5⟩ : ∃ W5, (W3.setCell ⟨g, 7, none⟩ (.int .i64 c.va.n)).setCell ⟨g, 8, none⟩ (.string c.va.s) = W5 := ⟨_, rfl⟩
  rw [hW5] at J5' hB5 hBW ⊢
  have J5 : Hid (W5.heap[g]? = some (⟨t.id, t.x, t.y, t.f0, t.f1, c.va, t.f3⟩ : Th).o) := J5'
  clear J5' hW5 c3 n0 n2 n14 n15 J3 K3 hB3
  have HR5 := hid (HR1.out.later (w := W) (wr := W5) (by rw [hgW.out]; exact hBW))
  have c5 := cells_at J5.out
  clear HR1 HRW hBW hgW
  go_wp2_with fail
  with_reducible refine (ref_with (t := ⟨t.id, t.x, t.y, t.f0, t.f1, c.va, t.f3⟩) (cap := cap) HR5.out HRi.out hn (by omega) hM2 hm).mono ?_
  rintro y w6 ⟨p6, cap6, rfl, hr6, hq6, hb6⟩
  clear c5
  go_wp2_with fail
  go_ret
  exact ⟨p6, cap6, rfl, hr6, fun k hk => ⟨Nat.le_trans hB5.size (hq6 k hk).1, (hq6 k hk).2⟩, below_on hB5 hb6⟩
set_option maxHeartbeats 2000000 in
theorem ref_done33F {w : World} {p : Option Addr} {cap : Nat} {L : List Th} (hr : RowT w p L) (hG : Good L) {n : Nat} (hn : Hid (L.length = n)) {c : Cm} {id : Int} (hk : c.kd = 3) (hw : c.wh = 3) (hh : hasT c.id L = true) {M : List Th} (hM : Hid (newL L c id = M)) {m : Nat} (hm : Hid (M.length = m)) :
    Calls Tryz.prog 24 #[.slice p n cap, c.v, .int .i64 id] w fun e w' => ∃ p' cap', e = .returned (.slice p' m cap') ∧ RowT w' p' M ∧ (∀ k, k ∈ rowB p' → w.heap.size ≤ k ∧ k < w'.heap.size) ∧ Below w.heap.size w w' := by
  obtain ⟨W, hW⟩ : ∃ W, W = w.alloc c.o := ⟨_, rfl⟩
  have hB : Below w.heap.size w W := by rw [hW]; exact below1 _ _
  have K1 := hid (show W.heap[w.heap.size]? = some c.o by rw [hW]; exact new_at _ _ _ rfl)
  have HR1 := hid (hr.later hB)
  have hln : n ≤ 200 := by rw [← hn.out]; exact hG.len
  have HRi := hid hG.rise
  have e1 : ((c.kd : Int) == 1) = false := by simp [hk]
  have e2 : ((c.kd : Int) == 2) = false := by simp [hk]
  have e3 : ((c.kd : Int) == 3) = true := by simp [hk]
  obtain ⟨a, ha⟩ : ∃ a, Hid (atI c.id L = a) := ⟨_, rfl⟩
  obtain ⟨k, t, hk1, hk2, hk3⟩ := atI_has hh
  obtain rfl : (k : Int) = a := hk1.symm.trans ha.out
  have hkn : k < n := by rw [← hn.out]; exact (List.getElem?_eq_some_iff.1 hk2).1
  have j1 : (0 : Int) ≤ (k : Int) := by omega
  have j2 : (k : Int) < (n : Int) := by omega
  have HK2 := hid hk2
  have ht : thOf L c.id = t := by unfold thOf; rw [hk3]; rfl
  have hM2 : Hid (witT (⟨t.id, t.x, t.y, t.f0, t.f1, t.f2, c.va⟩ : Th) L = M) := by
    show _ = _
    rw [← hM.out]; unfold newL; rw [if_neg (by omega), if_neg (by omega), if_pos hk, hw]; rw [ht]; rfl
  clear hk hM hk1 hk2 hk3 hh ht
  have hwh := hid hw
  clear hw
  clear hr hG
  go_enter Tryz.func24, Tryz.ntmps24
  go_upto_region 1 with fail
  rw [← hW]
  clear hW
  have n1 : W.cell? ⟨w.heap.size, 1, none⟩ = some (.int .i64 c.id) := cell_i K1.out (k := 1) (by simp [plI])
  have n0 : W.cell? ⟨w.heap.size, 0, none⟩ = some (.int .i64 c.kd) := cell_i K1.out (k := 0) (by simp [plI])
  have CA := ref_at6 (cap := cap) HR1.out hn (by omega) ha
  go_wp2_with fail
  refine CA.mono ?_
  rintro y w2 ⟨rfl, hw2⟩
  rw [hw2]
  clear hw2 w2 CA
  obtain ⟨b, off, rfl, hcl⟩ := HR1.out.at HK2.out
  obtain ⟨W3, hW3⟩ : ∃ W3, W.alloc t.o = W3 := ⟨_, rfl⟩
  have hb3 : Below W.heap.size W W3 := by rw [← hW3]; exact below1 _ _
  have K3 := hid (var_on hb3 K1.out (lt_of_at K1.out))
  have J3 := hid (show W3.heap[W.heap.size]? = some t.o by rw [← hW3]; exact new_at _ _ _ rfl)
  have hB3 := below_on hB hb3
  have hg : W.heap.size ≤ W.heap.size := Nat.le_refl _
  have hg0 : w.heap.size ≤ W.heap.size := hB.size
  have hgc : w.heap.size ≠ W.heap.size := by have := lt_of_at K1.out; omega
  unfold Th.o at hW3
  have HW3 := hid hW3
  clear hW3
  go_upto_region 4 with fail
  rw [HW3.out]
  clear HW3 n0 n1 hcl K1
  obtain ⟨g, hgg⟩ : ∃ g, W.heap.size = g := ⟨_, rfl⟩
  have HRW := hid (show Below g W W3 by rw [← hgg]; exact hb3)
  rw [hgg] at J3 hg0 hgc ⊢
  have hgW := hid hgg
  clear hgg hb3 hg
  have n0 : W3.cell? ⟨w.heap.size, 0, none⟩ = some (.int .i64 c.kd) := cell_i K3.out (k := 0) (by simp [plI])
  have n2 : W3.cell? ⟨w.heap.size, 2, none⟩ = some (.int .i64 3) := by rw [← hwh.out]; exact cell_i K3.out (k := 2) (by simp [plI])
  have n14 : W3.cell? ⟨w.heap.size, 14, none⟩ = some (.int .i64 c.va.n) := (cell_f K3.out (k := 14) (by simp [atF])).1
  have n15 : W3.cell? ⟨w.heap.size, 15, none⟩ = some (.string c.va.s) := (cell_f K3.out (k := 14) (by simp [atF])).2
  have c3 := cells_at J3.out
  go_upto_region 10 with fail
  have J5' := hid (set_fd J3.out c.va).2.2.2
  have hB5 := below_set2 hB3 hg0 9 10 (.int .i64 c.va.n) (.string c.va.s)
  have hBW := below_set2 HRW.out (Nat.le_refl g) 9 10 (.int .i64 c.va.n) (.string c.va.s)
  obtain ⟨W5, hW5⟩ : ∃ W5, (W3.setCell ⟨g, 9, none⟩ (.int .i64 c.va.n)).setCell ⟨g, 10, none⟩ (.string c.va.s) = W5 := ⟨_, rfl⟩
  rw [hW5] at J5' hB5 hBW ⊢
  have J5 : Hid (W5.heap[g]? = some (⟨t.id, t.x, t.y, t.f0, t.f1, t.f2, c.va⟩ : Th).o) := J5'
  clear J5' hW5 c3 n0 n2 n14 n15 J3 K3 hB3
  have HR5 := hid (HR1.out.later (w := W) (wr := W5) (by rw [hgW.out]; exact hBW))
  have c5 := cells_at J5.out
  clear HR1 HRW hBW hgW
  go_wp2_with fail
  with_reducible refine (ref_with (t := ⟨t.id, t.x, t.y, t.f0, t.f1, t.f2, c.va⟩) (cap := cap) HR5.out HRi.out hn (by omega) hM2 hm).mono ?_
  rintro y w6 ⟨p6, cap6, rfl, hr6, hq6, hb6⟩
  clear c5
  go_wp2_with fail
  go_ret
  exact ⟨p6, cap6, rfl, hr6, fun k hk => ⟨Nat.le_trans hB5.size (hq6 k hk).1, (hq6 k hk).2⟩, below_on hB5 hb6⟩
theorem ref_doneF {w : World} {p : Option Addr} {cap : Nat} {L : List Th} (hr : RowT w p L) (hG : Good L) {n : Nat} (hn : Hid (L.length = n)) {c : Cm} {id : Int} (h0 : chkF L c = 0) {M : List Th} (hM : Hid (newL L c id = M)) {m : Nat} (hm : Hid (M.length = m)) :
    Calls Tryz.prog 24 #[.slice p n cap, c.v, .int .i64 id] w fun e w' => ∃ p' cap', e = .returned (.slice p' m cap') ∧ RowT w' p' M ∧ (∀ k, k ∈ rowB p' → w.heap.size ≤ k ∧ k < w'.heap.size) ∧ Below w.heap.size w w' := by
  obtain ⟨hc, hk⟩ := chkF_kinds h0
  rcases hk with hk | hk | hk | hk
  · exact ref_done1F hr hG hn hk hM hm
  · exact ref_done2F hr hG hn hk (chkF_move0 h0 hk).2.1 hM hm
  · have hb := chkF_wh h0 hk
    have hh := (chkF_set0 h0 hk).2
    have : c.wh = 0 ∨ c.wh = 1 ∨ c.wh = 2 ∨ c.wh = 3 := by omega
    rcases this with e | e | e | e
    · exact ref_done30F hr hG hn hk e hh hM hm
    · exact ref_done31F hr hG hn hk e hh hM hm
    · exact ref_done32F hr hG hn hk e hh hM hm
    · exact ref_done33F hr hG hn hk e hh hM hm
  · exact ref_done4F hr hG hn hk (chkF_drop0 h0 hk).2 hM hm
set_option maxHeartbeats 2000000 in
theorem ref_doAF {w : World} {p : Option Addr} {cap : Nat} {L : List Th} (hr : RowT w p L) (hG : Good L) {n : Nat} (hn : Hid (L.length = n)) {c : Cm} (hs : sizedC c) {id : Int} {x : Int} (h0 : ¬ chkF L c = 0) (hx : Hid (chkF L c = x)) :
    Calls Tryz.prog 12 #[.slice p n cap, c.v, .int .i64 id, .bool true] w fun e w' => ∃ p' cap', e = .returned (.tuple #[.slice p' n cap', .int .i64 0, .int .i64 x]) ∧ RowT w' p' L ∧ (∀ k, k ∈ rowB p' → k ∈ rowB p ∨ (w.heap.size ≤ k ∧ k < w'.heap.size)) ∧ Below w.heap.size w w' := by
  obtain ⟨W, hW⟩ : ∃ W, W = w.alloc c.o := ⟨_, rfl⟩
  have hB : Below w.heap.size w W := by rw [hW]; exact below1 _ _
  have K1 := hid (show W.heap[w.heap.size]? = some c.o by rw [hW]; exact new_at _ _ _ rfl)
  have HR1 := hid (hr.later hB)
  have hln : n ≤ 200 := by rw [← hn.out]; exact hG.len
  have HG := hid hG
  obtain ⟨X, hX⟩ : ∃ X, Hid (chkF L c = X) := ⟨_, rfl⟩
  have CK := ref_checkF (cap := cap) (hr.later hB) hG hn hs hX
  obtain rfl : X = x := hX.out.symm.trans hx.out
  have e0 : ((X : Int) == 0) = false := by rw [← hX.out]; simp [h0]
  have e9 : ((X : Int) != 0) = true := by rw [← hX.out]; simp [h0]
  clear h0 hx
  clear hr hG hs
  go_enter Tryz.func12, Tryz.ntmps12
  go_upto_region 1 with fail
  rw [← hW]
  clear hW
  go_wp2_with (with_reducible refine wpList_load_cm rfl (.tmp 5) rfl rfl K1.out ?_)
  refine CK.mono ?_
  rintro y w2 ⟨rfl, hb2⟩
  have K2 := hid (var_on hb2 K1.out (lt_of_at K1.out))
  have HR2 := hid (HR1.out.later hb2)
  have hB2 := below_on hB hb2
  have n0 : w2.cell? ⟨w.heap.size, 0, none⟩ = some (.int .i64 c.kd) := cell_i K2.out (k := 0) (by simp [plI])
  clear CK K1 HR1 hb2 hB
  clear hX
  go_wp2_with fail
  exact bodyPost_ret (v := .tuple #[.slice p n cap, .int .i64 0, .int .i64 X]) (by simp [results, Tryz.results12, go_sem]) rfl ⟨_, _, rfl, HR2.out, fun k hk => .inl hk, hB2⟩
set_option maxHeartbeats 2000000 in
theorem ref_doB0F {w : World} {p : Option Addr} {cap : Nat} {L : List Th} (hr : RowT w p L) (hG : Good L) {n : Nat} (hn : Hid (L.length = n)) {c : Cm} (hs : sizedC c) {id : Int} (h0 : chkF L c = 0) (hk : c.kd = 1) (hb : id < 0) :
    Calls Tryz.prog 12 #[.slice p n cap, c.v, .int .i64 id, .bool true] w fun e w' => ∃ p' cap', e = .returned (.tuple #[.slice p' n cap', .int .i64 0, .int .i64 11]) ∧ RowT w' p' L ∧ (∀ k, k ∈ rowB p' → k ∈ rowB p ∨ (w.heap.size ≤ k ∧ k < w'.heap.size)) ∧ Below w.heap.size w w' := by
  obtain ⟨W, hW⟩ : ∃ W, W = w.alloc c.o := ⟨_, rfl⟩
  have hB : Below w.heap.size w W := by rw [hW]; exact below1 _ _
  have K1 := hid (show W.heap[w.heap.size]? = some c.o by rw [hW]; exact new_at _ _ _ rfl)
  have HR1 := hid (hr.later hB)
  have hln : n ≤ 200 := by rw [← hn.out]; exact hG.len
  have HG := hid hG
  obtain ⟨X, hX⟩ : ∃ X, Hid (chkF L c = X) := ⟨_, rfl⟩
  have CK := ref_checkF (cap := cap) (hr.later hB) hG hn hs hX
  obtain rfl : 0 = X := h0.symm.trans hX.out
  have e0 : ((0 : Int) == 0) = true := by decide
  have e1 : ((c.kd : Int) == 1) = true := by simp [hk]
  have e9 : ((11 : Int) != 0) = true := by decide
  have i1 : id < 0 := hb
  clear hb h0 hk
  clear hr hG hs
  go_enter Tryz.func12, Tryz.ntmps12
  go_upto_region 1 with fail
  rw [← hW]
  clear hW
  go_wp2_with (with_reducible refine wpList_load_cm rfl (.tmp 5) rfl rfl K1.out ?_)
  refine CK.mono ?_
  rintro y w2 ⟨rfl, hb2⟩
  have K2 := hid (var_on hb2 K1.out (lt_of_at K1.out))
  have HR2 := hid (HR1.out.later hb2)
  have hB2 := below_on hB hb2
  have n0 : w2.cell? ⟨w.heap.size, 0, none⟩ = some (.int .i64 c.kd) := cell_i K2.out (k := 0) (by simp [plI])
  clear CK K1 HR1 hb2 hB
  clear hX
  go_wp2_with fail
  exact bodyPost_ret (v := .tuple #[.slice p n cap, .int .i64 0, .int .i64 11]) (by simp [results, Tryz.results12, go_sem]) rfl ⟨_, _, rfl, HR2.out, fun k hk => .inl hk, hB2⟩
set_option maxHeartbeats 2000000 in
theorem ref_doB1F {w : World} {p : Option Addr} {cap : Nat} {L : List Th} (hr : RowT w p L) (hG : Good L) {n : Nat} (hn : Hid (L.length = n)) {c : Cm} (hs : sizedC c) {id : Int} (h0 : chkF L c = 0) (hk : c.kd = 1) (hb0 : ¬ id < 0) (hb : 1000000 < id) :
    Calls Tryz.prog 12 #[.slice p n cap, c.v, .int .i64 id, .bool true] w fun e w' => ∃ p' cap', e = .returned (.tuple #[.slice p' n cap', .int .i64 0, .int .i64 11]) ∧ RowT w' p' L ∧ (∀ k, k ∈ rowB p' → k ∈ rowB p ∨ (w.heap.size ≤ k ∧ k < w'.heap.size)) ∧ Below w.heap.size w w' := by
  obtain ⟨W, hW⟩ : ∃ W, W = w.alloc c.o := ⟨_, rfl⟩
  have hB : Below w.heap.size w W := by rw [hW]; exact below1 _ _
  have K1 := hid (show W.heap[w.heap.size]? = some c.o by rw [hW]; exact new_at _ _ _ rfl)
  have HR1 := hid (hr.later hB)
  have hln : n ≤ 200 := by rw [← hn.out]; exact hG.len
  have HG := hid hG
  obtain ⟨X, hX⟩ : ∃ X, Hid (chkF L c = X) := ⟨_, rfl⟩
  have CK := ref_checkF (cap := cap) (hr.later hB) hG hn hs hX
  obtain rfl : 0 = X := h0.symm.trans hX.out
  have e0 : ((0 : Int) == 0) = true := by decide
  have e1 : ((c.kd : Int) == 1) = true := by simp [hk]
  have e9 : ((11 : Int) != 0) = true := by decide
  have i1 : ¬ id < 0 := hb0
  have i2 : (1000000 : Int) < id := hb
  clear hb0
  clear hb h0 hk
  clear hr hG hs
  go_enter Tryz.func12, Tryz.ntmps12
  go_upto_region 1 with fail
  rw [← hW]
  clear hW
  go_wp2_with (with_reducible refine wpList_load_cm rfl (.tmp 5) rfl rfl K1.out ?_)
  refine CK.mono ?_
  rintro y w2 ⟨rfl, hb2⟩
  have K2 := hid (var_on hb2 K1.out (lt_of_at K1.out))
  have HR2 := hid (HR1.out.later hb2)
  have hB2 := below_on hB hb2
  have n0 : w2.cell? ⟨w.heap.size, 0, none⟩ = some (.int .i64 c.kd) := cell_i K2.out (k := 0) (by simp [plI])
  clear CK K1 HR1 hb2 hB
  clear hX
  go_wp2_with fail
  exact bodyPost_ret (v := .tuple #[.slice p n cap, .int .i64 0, .int .i64 11]) (by simp [results, Tryz.results12, go_sem]) rfl ⟨_, _, rfl, HR2.out, fun k hk => .inl hk, hB2⟩
set_option maxHeartbeats 2000000 in
theorem ref_doB2F {w : World} {p : Option Addr} {cap : Nat} {L : List Th} (hr : RowT w p L) (hG : Good L) {n : Nat} (hn : Hid (L.length = n)) {c : Cm} (hs : sizedC c) {id : Int} (h0 : chkF L c = 0) (hk : c.kd = 1) (hb0 : ¬ id < 0) (hb1 : ¬ 1000000 < id) (hb : hasT id L = true) :
    Calls Tryz.prog 12 #[.slice p n cap, c.v, .int .i64 id, .bool true] w fun e w' => ∃ p' cap', e = .returned (.tuple #[.slice p' n cap', .int .i64 0, .int .i64 11]) ∧ RowT w' p' L ∧ (∀ k, k ∈ rowB p' → k ∈ rowB p ∨ (w.heap.size ≤ k ∧ k < w'.heap.size)) ∧ Below w.heap.size w w' := by
  obtain ⟨W, hW⟩ : ∃ W, W = w.alloc c.o := ⟨_, rfl⟩
  have hB : Below w.heap.size w W := by rw [hW]; exact below1 _ _
  have K1 := hid (show W.heap[w.heap.size]? = some c.o by rw [hW]; exact new_at _ _ _ rfl)
  have HR1 := hid (hr.later hB)
  have hln : n ≤ 200 := by rw [← hn.out]; exact hG.len
  have HG := hid hG
  obtain ⟨X, hX⟩ : ∃ X, Hid (chkF L c = X) := ⟨_, rfl⟩
  have CK := ref_checkF (cap := cap) (hr.later hB) hG hn hs hX
  obtain rfl : 0 = X := h0.symm.trans hX.out
  have e0 : ((0 : Int) == 0) = true := by decide
  have e1 : ((c.kd : Int) == 1) = true := by simp [hk]
  have e9 : ((11 : Int) != 0) = true := by decide
  have i1 : ¬ id < 0 := hb0
  have i2 : ¬ (1000000 : Int) < id := hb1
  obtain ⟨a, ha⟩ : ∃ a, Hid (atI id L = a) := ⟨_, rfl⟩
  obtain ⟨k, t, hk1, hk2, hk3⟩ := atI_has hb
  obtain rfl : (k : Int) = a := hk1.symm.trans ha.out
  have i3 : (0 : Int) ≤ (k : Int) := by omega
  clear hb0 hb1 hk1 hk2 hk3
  clear hb h0 hk
  clear hr hG hs
  go_enter Tryz.func12, Tryz.ntmps12
  go_upto_region 1 with fail
  rw [← hW]
  clear hW
  go_wp2_with (with_reducible refine wpList_load_cm rfl (.tmp 5) rfl rfl K1.out ?_)
  refine CK.mono ?_
  rintro y w2 ⟨rfl, hb2⟩
  have K2 := hid (var_on hb2 K1.out (lt_of_at K1.out))
  have HR2 := hid (HR1.out.later hb2)
  have hB2 := below_on hB hb2
  have n0 : w2.cell? ⟨w.heap.size, 0, none⟩ = some (.int .i64 c.kd) := cell_i K2.out (k := 0) (by simp [plI])
  clear CK K1 HR1 hb2 hB
  clear hX
  go_wp2_with fail
  refine (ref_at6 (cap := cap) HR2.out hn (by omega) ha).mono ?_
  rintro y w3 ⟨rfl, hw3⟩
  rw [hw3]
  clear hw3 w3
  go_wp2_with fail
  exact bodyPost_ret (v := .tuple #[.slice p n cap, .int .i64 0, .int .i64 11]) (by simp [results, Tryz.results12, go_sem]) rfl ⟨_, _, rfl, HR2.out, fun k hk => .inl hk, hB2⟩
set_option maxHeartbeats 2000000 in
theorem ref_doCF {w : World} {p : Option Addr} {cap : Nat} {L : List Th} (hr : RowT w p L) (hG : Good L) {n : Nat} (hn : Hid (L.length = n)) {c : Cm} (hs : sizedC c) {id : Int} (h0 : chkF L c = 0) (hk : c.kd = 1) (hb0 : ¬ id < 0) (hb1 : ¬ 1000000 < id) (hb : hasT id L = false) {M : List Th} (hM : Hid (newL L c id = M)) {m : Nat} (hm : Hid (M.length = m)) :
    Calls Tryz.prog 12 #[.slice p n cap, c.v, .int .i64 id, .bool true] w fun e w' => ∃ p' cap', e = .returned (.tuple #[.slice p' m cap', .int .i64 id, .int .i64 0]) ∧ RowT w' p' M ∧ (∀ k, k ∈ rowB p' → k ∈ rowB p ∨ (w.heap.size ≤ k ∧ k < w'.heap.size)) ∧ Below w.heap.size w w' := by
  obtain ⟨W, hW⟩ : ∃ W, W = w.alloc c.o := ⟨_, rfl⟩
  have hB : Below w.heap.size w W := by rw [hW]; exact below1 _ _
  have K1 := hid (show W.heap[w.heap.size]? = some c.o by rw [hW]; exact new_at _ _ _ rfl)
  have HR1 := hid (hr.later hB)
  have hln : n ≤ 200 := by rw [← hn.out]; exact hG.len
  have HG := hid hG
  obtain ⟨X, hX⟩ : ∃ X, Hid (chkF L c = X) := ⟨_, rfl⟩
  have CK := ref_checkF (cap := cap) (hr.later hB) hG hn hs hX
  obtain rfl : 0 = X := h0.symm.trans hX.out
  have e0 : ((0 : Int) == 0) = true := by decide
  have e1 : ((c.kd : Int) == 1) = true := by simp [hk]
  have e9 : ((0 : Int) != 0) = false := by decide
  have i1 : ¬ id < 0 := hb0
  have i2 : ¬ (1000000 : Int) < id := hb1
  obtain ⟨a, ha⟩ : ∃ a, Hid (atI id L = a) := ⟨_, rfl⟩
  obtain rfl : -1 = a := (atI_not hb).symm.trans ha.out
  have i3 : ¬ (0 : Int) ≤ (-1 : Int) := by omega
  have H0 := hid h0
  clear hb0 hb1 hb h0 hk
  clear hr hG hs
  go_enter Tryz.func12, Tryz.ntmps12
  go_upto_region 1 with fail
  rw [← hW]
  clear hW
  go_wp2_with (with_reducible refine wpList_load_cm rfl (.tmp 5) rfl rfl K1.out ?_)
  refine CK.mono ?_
  rintro y w2 ⟨rfl, hb2⟩
  have K2 := hid (var_on hb2 K1.out (lt_of_at K1.out))
  have HR2 := hid (HR1.out.later hb2)
  have hB2 := below_on hB hb2
  have n0 : w2.cell? ⟨w.heap.size, 0, none⟩ = some (.int .i64 c.kd) := cell_i K2.out (k := 0) (by simp [plI])
  clear CK K1 HR1 hb2 hB
  clear hX
  go_wp2_with fail
  refine (ref_at6 (cap := cap) HR2.out hn (by omega) ha).mono ?_
  rintro y w3 ⟨rfl, hw3⟩
  rw [hw3]
  clear hw3 w3
  go_wp2_with (with_reducible refine wpList_load_cm rfl (.tmp 5) rfl rfl K2.out ?_)
  refine (ref_doneF (cap := cap) HR2.out HG.out hn H0.out hM hm).mono ?_
  rintro y w4 ⟨p4, cap4, rfl, hr4, hq4, hb4⟩
  have hB4 := below_on hB2 hb4
  clear n0 K2
  go_wp2_with fail
  exact bodyPost_ret (v := .tuple #[.slice p4 m cap4, .int .i64 id, .int .i64 0]) (by simp [results, Tryz.results12, go_sem]) rfl ⟨_, _, rfl, hr4, fun k hk => .inr ⟨by have h1 := hB2.size; have h2 := (hq4 k hk).1; omega, (hq4 k hk).2⟩, hB4⟩
set_option maxHeartbeats 2000000 in
theorem ref_doDF {w : World} {p : Option Addr} {cap : Nat} {L : List Th} (hr : RowT w p L) (hG : Good L) {n : Nat} (hn : Hid (L.length = n)) {c : Cm} (hs : sizedC c) {id : Int} (h0 : chkF L c = 0) (hk : ¬ c.kd = 1) {M : List Th} (hM : Hid (newL L c id = M)) {m : Nat} (hm : Hid (M.length = m)) :
    Calls Tryz.prog 12 #[.slice p n cap, c.v, .int .i64 id, .bool true] w fun e w' => ∃ p' cap', e = .returned (.tuple #[.slice p' m cap', .int .i64 c.id, .int .i64 0]) ∧ RowT w' p' M ∧ (∀ k, k ∈ rowB p' → k ∈ rowB p ∨ (w.heap.size ≤ k ∧ k < w'.heap.size)) ∧ Below w.heap.size w w' := by
  obtain ⟨W, hW⟩ : ∃ W, W = w.alloc c.o := ⟨_, rfl⟩
  have hB : Below w.heap.size w W := by rw [hW]; exact below1 _ _
  have K1 := hid (show W.heap[w.heap.size]? = some c.o by rw [hW]; exact new_at _ _ _ rfl)
  have HR1 := hid (hr.later hB)
  have hln : n ≤ 200 := by rw [← hn.out]; exact hG.len
  have HG := hid hG
  obtain ⟨X, hX⟩ : ∃ X, Hid (chkF L c = X) := ⟨_, rfl⟩
  have CK := ref_checkF (cap := cap) (hr.later hB) hG hn hs hX
  obtain rfl : 0 = X := h0.symm.trans hX.out
  have e0 : ((0 : Int) == 0) = true := by decide
  have e1 : ((c.kd : Int) == 1) = false := by simp [hk]
  have e9 : ((0 : Int) != 0) = false := by decide
  have H0 := hid h0
  clear h0 hk
  clear hr hG hs
  go_enter Tryz.func12, Tryz.ntmps12
  go_upto_region 1 with fail
  rw [← hW]
  clear hW
  go_wp2_with (with_reducible refine wpList_load_cm rfl (.tmp 5) rfl rfl K1.out ?_)
  refine CK.mono ?_
  rintro y w2 ⟨rfl, hb2⟩
  have K2 := hid (var_on hb2 K1.out (lt_of_at K1.out))
  have HR2 := hid (HR1.out.later hb2)
  have hB2 := below_on hB hb2
  have n0 : w2.cell? ⟨w.heap.size, 0, none⟩ = some (.int .i64 c.kd) := cell_i K2.out (k := 0) (by simp [plI])
  clear CK K1 HR1 hb2 hB
  clear hX
  go_wp2_with fail
  have S0 : w2.heap[w.heap.size]? = some c.o := K2.out
  have S1 : w2.cell? ⟨w.heap.size, 1, none⟩ = some (.int .i64 c.id) := cell_i K2.out (k := 1) (by simp [plI])
  have CD : ∀ W', Below w2.heap.size w2 W' → Calls Tryz.prog 24 #[.slice p n cap, c.v, .int .i64 id] W' fun e w' => ∃ p' cap', e = .returned (.slice p' m cap') ∧ RowT w' p' M ∧ (∀ k, k ∈ rowB p' → W'.heap.size ≤ k ∧ k < w'.heap.size) ∧ Below W'.heap.size W' w' := fun W' hb => ref_doneF (cap := cap) (HR2.out.later hb) HG.out hn H0.out hM hm
  refine wp_region_held_drew (S := fun w' => Below w2.heap.size w2 w' ∧ w'.heap[w.heap.size]? = some c.o ∧ w'.cell? ⟨w.heap.size, 1, none⟩ = some (.int .i64 c.id)) (by kernel_rfl) ⟨(Below.refl _ _).drew, S0, S1⟩ (fun hHeld => ?_)
  refine take_yes (i := 0) (v := ?v0) rfl (by kernel_rfl) (by kernel_rfl) (by kernel_rfl) (fun _ _ _ h => h) (by rfl) ?hy0 hHeld ?rest0
  case hy0 =>
    intro w' hSw
    obtain ⟨-, -, hSc⟩ := hSw
    go_simp <;> with_reducible rfl
  try simp only [Act.put, List.setIfInBounds_toArray, List.set_cons_zero, List.set_cons_succ]
  refine take_yes (i := 1) (v := c.v) rfl (by kernel_rfl) (by kernel_rfl) (by kernel_rfl) (fun _ _ _ h => h) (by rfl) (fun w' hSw => exec_load_cm (.tmp 5) rfl rfl hSw.2.1) hHeld ?rest1
  try simp only [Act.put, List.setIfInBounds_toArray, List.set_cons_zero, List.set_cons_succ]
  refine take_yes (i := 2) (v := ?v2) rfl (by kernel_rfl) (by kernel_rfl) (by kernel_rfl) (fun _ _ _ h => h) (by rfl) ?hy2 hHeld ?rest2
  case hy2 =>
    intro w' hSw
    obtain ⟨-, -, hSc⟩ := hSw
    go_simp <;> with_reducible rfl
  try simp only [Act.put, List.setIfInBounds_toArray, List.set_cons_zero, List.set_cons_succ]
  refine take_yes (i := 4) (v := ?v4) rfl (by kernel_rfl) (by kernel_rfl) (by kernel_rfl) (fun _ _ _ h => h) (by rfl) ?hy4 hHeld ?rest4
  case hy4 =>
    intro w' hSw
    obtain ⟨-, -, hSc⟩ := hSw
    go_simp <;> with_reducible rfl
  try simp only [Act.put, List.setIfInBounds_toArray, List.set_cons_zero, List.set_cons_succ]
  refine take_yes (i := 5) (v := ?v5) rfl (by kernel_rfl) (by kernel_rfl) (by kernel_rfl) (fun _ _ _ h => h) (by rfl) ?hy5 hHeld ?rest5
  case hy5 =>
    intro w' hSw
    obtain ⟨-, -, hSc⟩ := hSw
    go_simp <;> with_reducible rfl
  try simp only [Act.put, List.setIfInBounds_toArray, List.set_cons_zero, List.set_cons_succ]
  refine wpAnyH_ready (rs := [3]) (by kernel_rfl) (by simp) (cons_at (i := 3) rfl (fun K hK => ?_) AllReadyH.nil)
  obtain ⟨hb3, -, -⟩ := hHeld
  go_simp
  go_at_call 24
  with_reducible refine (CD _ hb3).mono ?_
  rintro y w4 ⟨p4, cap4, rfl, hr4, hq4, hb4⟩
  have hb5 := hb3.trans (hb4.mono hb3.size)
  have hB4 := below_on hB2 hb5
  have T0 := var_on hb5 S0 (lt_of_at S0)
  have T1 := cell_below hb5 S1
  go_wp2_with fail
  refine hK.out _ _ ⟨hb5, T0, T1⟩ (fun hHeld => ?_)
  clear hK K
  try simp only [Act.put, List.setIfInBounds_toArray, List.set_cons_zero, List.set_cons_succ]
  refine take_yes (i := 6) (v := ?v6) rfl (by kernel_rfl) (by kernel_rfl) (by kernel_rfl) (fun _ _ _ h => h) (by rfl) ?hy6 hHeld ?rest6
  case hy6 =>
    intro w' hSw
    obtain ⟨-, -, hSc⟩ := hSw
    go_simp <;> with_reducible rfl
  try simp only [Act.put, List.setIfInBounds_toArray, List.set_cons_zero, List.set_cons_succ]
  refine take_yes (i := 7) (v := ?v7) rfl (by kernel_rfl) (by kernel_rfl) (by kernel_rfl) (fun _ _ _ h => h) (by rfl) ?hy7 hHeld ?rest7
  case hy7 =>
    intro w' hSw
    obtain ⟨-, -, hSc⟩ := hSw
    go_simp <;> with_reducible rfl
  try simp only [Act.put, List.setIfInBounds_toArray, List.set_cons_zero, List.set_cons_succ]
  refine take_yes (i := 8) (v := ?v8) rfl (by kernel_rfl) (by kernel_rfl) (by kernel_rfl) (fun _ _ _ h => h) (by rfl) ?hy8 hHeld ?rest8
  case hy8 =>
    intro w' hSw
    obtain ⟨-, -, hSc⟩ := hSw
    go_simp <;> with_reducible rfl
  try simp only [Act.put, List.setIfInBounds_toArray, List.set_cons_zero, List.set_cons_succ]
  refine wpAnyH_done (by kernel_rfl) ?_ _
  go_wp2_with fail
  exact bodyPost_ret (v := .tuple #[.slice p4 m cap4, .int .i64 c.id, .int .i64 0]) (by simp [results, Tryz.results12, go_sem]) rfl ⟨_, _, rfl, hr4, fun k hk => .inr ⟨by have h1 := hB2.size; have h2 := (hq4 k hk).1; have h3 := hb3.size; omega, (hq4 k hk).2⟩, hB4⟩
theorem ref_doF {w : World} {p : Option Addr} {cap : Nat} {L : List Th} (hr : RowT w p L) (hG : Good L) {n : Nat} (hn : Hid (L.length = n)) {c : Cm} (hs : sizedC c) {id : Int} {M : List Th} (hM : Hid (wdL L c id = M)) {m : Nat} (hm : Hid (M.length = m)) {k x : Int} (hk : Hid (wdN L c id = k)) (hx : Hid (wdE L c id = x)) :
    Calls Tryz.prog 12 #[.slice p n cap, c.v, .int .i64 id, .bool true] w fun e w' => ∃ p' cap', e = .returned (.tuple #[.slice p' m cap', .int .i64 k, .int .i64 x]) ∧ RowT w' p' M ∧ (∀ k, k ∈ rowB p' → k ∈ rowB p ∨ (w.heap.size ≤ k ∧ k < w'.heap.size)) ∧ Below w.heap.size w w' := by
  by_cases h0 : chkF L c = 0
  · cases hb : badI L c id
    · obtain ⟨d1, d2, d3⟩ := wd_ok hG h0 hb
      obtain rfl : 0 = x := d1.symm.trans hx.out
      have hM2 : Hid (newL L c id = M) := d3.symm.trans hM.out
      have hk2 := d2.symm.trans hk.out
      unfold whoI at hk2
      by_cases hk1 : c.kd = 1
      · rw [if_pos hk1] at hk2
        subst hk2
        unfold badI at hb
        simp [hk1] at hb
        exact ref_doCF hr hG hn hs h0 hk1 (by omega) (by omega) (by simpa using hb.2.2) hM2 hm
      · rw [if_neg hk1] at hk2
        subst hk2
        exact ref_doDF hr hG hn hs h0 hk1 hM2 hm
    · obtain ⟨d1, d2, d3⟩ := wd_bad hG h0 hb
      obtain rfl : 11 = x := d1.symm.trans hx.out
      obtain rfl : 0 = k := d2.symm.trans hk.out
      obtain rfl : L = M := d3.symm.trans hM.out
      obtain rfl : n = m := hn.out.symm.trans hm.out
      have hk1 : c.kd = 1 := by
        unfold badI at hb
        rw [Bool.and_eq_true, decide_eq_true_eq] at hb
        exact hb.1
      unfold badI at hb
      simp [hk1] at hb
      by_cases i1 : id < 0
      · exact ref_doB0F hr hG hn hs h0 hk1 i1
      · by_cases i2 : 1000000 < id
        · exact ref_doB1F hr hG hn hs h0 hk1 i1 i2
        · exact ref_doB2F hr hG hn hs h0 hk1 i1 i2 (by rcases hb with h | h | h <;> first | exact absurd h i1 | exact absurd h i2 | exact h)
  · obtain ⟨d1, d2, d3⟩ := wd_no (id := id) hG h0
    obtain rfl : 0 = k := d2.symm.trans hk.out
    obtain rfl : L = M := d3.symm.trans hM.out
    obtain rfl : n = m := hn.out.symm.trans hm.out
    exact ref_doAF hr hG hn hs h0 (hid (d1.symm.trans hx.out))
end Go.Proofs.YtfoncphdbaaedaaGreatDoor
