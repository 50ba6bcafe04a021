/- Contracts of the reference's Check, cells never full of layer 11. Of a table as it may be it says what chkF says. No conditions beyond those typed. -/
import Derived.Test.YtfoncphdbaaedaaGreatDoorWA
import Derived.Test.YtfoncphdbaaedaaGreatDoorCG
import Derived.Test.YtfoncphdbaaedaaGreatDoorTbS
import Derived.Test.YtfoncphdbaaedaaGreatDoorCells2
namespace Go.Proofs.YtfoncphdbaaedaaGreatDoor
open Go.RowKit Go.Maps
set_option linter.unusedVariables false
set_option maxRecDepth 100000
theorem ofE_on {x y : Int} (h : onB x y = true) : ofE x y = 0 := by unfold ofE; rw [if_pos h]
theorem ofE_off {x y : Int} (h : onB x y = false) : ofE x y = 14 := by unfold ofE; rw [if_neg (by rw [h]; simp)]
set_option maxHeartbeats 2000000 in
theorem ref_chkF0 {w : World} {p : Option Addr} {cap : Nat} {L : List Th} (hr : RowT w p L) (hG : Good L) {n : Nat} (hn : Hid (L.length = n)) {c : Cm} (hs : sizedC c) (hc : isCm c = false) :
    Calls Tryz.prog 22 #[.slice p n cap, c.v, .bool true] w fun e w' => e = .returned (.int .i64 11) ∧ Below w.heap.size w w' := by
  obtain ⟨W, hW⟩ : ∃ W, W = w.alloc c.o := ⟨_, rfl⟩
  have hB : Below w.heap.size w W := by rw [hW]; exact below1 _ _
  have K1 := hid (show W.heap[w.heap.size]? = some c.o by rw [hW]; exact new_at _ _ _ rfl)
  have HR1 := hid (hr.later hB)
  have hln : n ≤ 200 := by rw [← hn.out]; exact hG.len
  have HG := hid hG
  have CI := refcm_is W c hs
  have n0 : W.cell? ⟨w.heap.size, 0, none⟩ = some (.int .i64 c.kd) := cell_i K1.out (k := 0) (by simp [plI])
  rw [isX_isC, hc] at CI
  clear hs hr hG
  go_enter Tryz.func22, Tryz.ntmps22
  go_upto_region 1 with fail
  rw [← hW]
  clear hW
  go_wp2_with (with_reducible refine wpList_load_cm rfl (.tmp 4) rfl rfl K1.out ?_)
  refine CI.mono ?_
  rintro y w2 ⟨rfl, hb2⟩
  have K2 := hid (var_on hb2 K1.out (lt_of_at K1.out))
  have HR2 := hid (HR1.out.later hb2)
  have hB2 := below_on hB hb2
  clear CI K1 HR1 n0 hb2 hB
  go_wp2_with fail
  go_ret
  exact ⟨rfl, hB2⟩
set_option maxHeartbeats 2000000 in
theorem ref_chkF5 {w : World} {p : Option Addr} {cap : Nat} {L : List Th} (hr : RowT w p L) (hG : Good L) {n : Nat} (hn : Hid (L.length = n)) {c : Cm} (hs : sizedC c) (hc : isCm c = true) (hk : 4 < c.kd) :
    Calls Tryz.prog 22 #[.slice p n cap, c.v, .bool true] w fun e w' => e = .returned (.int .i64 11) ∧ Below w.heap.size w w' := by
  obtain ⟨W, hW⟩ : ∃ W, W = w.alloc c.o := ⟨_, rfl⟩
  have hB : Below w.heap.size w W := by rw [hW]; exact below1 _ _
  have K1 := hid (show W.heap[w.heap.size]? = some c.o by rw [hW]; exact new_at _ _ _ rfl)
  have HR1 := hid (hr.later hB)
  have hln : n ≤ 200 := by rw [← hn.out]; exact hG.len
  have HG := hid hG
  have CI := refcm_is W c hs
  have n0 : W.cell? ⟨w.heap.size, 0, none⟩ = some (.int .i64 c.kd) := cell_i K1.out (k := 0) (by simp [plI])
  rw [isX_isC, hc] at CI
  have hk9 : (4 : Int) < c.kd := hk
  clear hk
  clear hs hr hG
  go_enter Tryz.func22, Tryz.ntmps22
  go_upto_region 1 with fail
  rw [← hW]
  clear hW
  go_wp2_with (with_reducible refine wpList_load_cm rfl (.tmp 4) rfl rfl K1.out ?_)
  refine CI.mono ?_
  rintro y w2 ⟨rfl, hb2⟩
  have K2 := hid (var_on hb2 K1.out (lt_of_at K1.out))
  have HR2 := hid (HR1.out.later hb2)
  have hB2 := below_on hB hb2
  clear CI K1 HR1 n0 hb2 hB
  have n0 : w2.cell? ⟨w.heap.size, 0, none⟩ = some (.int .i64 c.kd) := cell_i K2.out (k := 0) (by simp [plI])
  go_wp2_with fail
  go_ret
  exact ⟨rfl, hB2⟩
set_option maxHeartbeats 2000000 in
theorem ref_chkF1a {w : World} {p : Option Addr} {cap : Nat} {L : List Th} (hr : RowT w p L) (hG : Good L) {n : Nat} (hn : Hid (L.length = n)) {c : Cm} (hs : sizedC c) (hc : isCm c = true) (hk : c.kd = 1) (ho : onB c.x c.y = false) :
    Calls Tryz.prog 22 #[.slice p n cap, c.v, .bool true] w fun e w' => e = .returned (.int .i64 14) ∧ Below w.heap.size w w' := by
  obtain ⟨W, hW⟩ : ∃ W, W = w.alloc c.o := ⟨_, rfl⟩
  have hB : Below w.heap.size w W := by rw [hW]; exact below1 _ _
  have K1 := hid (show W.heap[w.heap.size]? = some c.o by rw [hW]; exact new_at _ _ _ rfl)
  have HR1 := hid (hr.later hB)
  have hln : n ≤ 200 := by rw [← hn.out]; exact hG.len
  have HG := hid hG
  have CI := refcm_is W c hs
  have n0 : W.cell? ⟨w.heap.size, 0, none⟩ = some (.int .i64 c.kd) := cell_i K1.out (k := 0) (by simp [plI])
  rw [isX_isC, hc] at CI
  have e1 : ((c.kd : Int) == 1) = true := by simp [hk]
  have e4 : ¬ (4 : Int) < c.kd := by omega
  have HO := hid ho
  clear hk ho
  clear hs hr hG
  go_enter Tryz.func22, Tryz.ntmps22
  go_upto_region 1 with fail
  rw [← hW]
  clear hW
  go_wp2_with (with_reducible refine wpList_load_cm rfl (.tmp 4) rfl rfl K1.out ?_)
  refine CI.mono ?_
  rintro y w2 ⟨rfl, hb2⟩
  have K2 := hid (var_on hb2 K1.out (lt_of_at K1.out))
  have HR2 := hid (HR1.out.later hb2)
  have hB2 := below_on hB hb2
  clear CI K1 HR1 n0 hb2 hB
  have n0 : w2.cell? ⟨w.heap.size, 0, none⟩ = some (.int .i64 c.kd) := cell_i K2.out (k := 0) (by simp [plI])
  have n4 : w2.cell? ⟨w.heap.size, 4, none⟩ = some (.int .i64 c.x) := cell_i K2.out (k := 4) (by simp [plI])
  have n5 : w2.cell? ⟨w.heap.size, 5, none⟩ = some (.int .i64 c.y) := cell_i K2.out (k := 5) (by simp [plI])
  obtain ⟨B, hBB⟩ : ∃ B, Hid (((ofN c.x c.y : Nat) : Int) = B) := ⟨_, rfl⟩
  have CC := ref_cell w2 c.x c.y
  rw [hBB.out, ofE_off HO.out] at CC
  go_wp2_with fail
  refine CC.mono ?_
  rintro y w3 ⟨rfl, hb3⟩
  have K3 := hid (var_on hb3 K2.out (lt_of_at K2.out))
  have HR3 := hid (HR2.out.later hb3)
  have hB3 := below_on hB2 hb3
  clear CC n0 n4 n5 K2 HR2 hb3 hB2
  have n0 : w3.cell? ⟨w.heap.size, 0, none⟩ = some (.int .i64 c.kd) := cell_i K3.out (k := 0) (by simp [plI])
  go_wp2_with fail
  go_ret
  exact ⟨rfl, hB3⟩
set_option maxHeartbeats 2000000 in
theorem ref_chkF1b {w : World} {p : Option Addr} {cap : Nat} {L : List Th} (hr : RowT w p L) (hG : Good L) {n : Nat} (hn : Hid (L.length = n)) {c : Cm} (hs : sizedC c) (hc : isCm c = true) (hk : c.kd = 1) (ho : onB c.x c.y = true) (hf : 200 ≤ L.length) :
    Calls Tryz.prog 22 #[.slice p n cap, c.v, .bool true] w fun e w' => e = .returned (.int .i64 16) ∧ Below w.heap.size w w' := by
  obtain ⟨W, hW⟩ : ∃ W, W = w.alloc c.o := ⟨_, rfl⟩
  have hB : Below w.heap.size w W := by rw [hW]; exact below1 _ _
  have K1 := hid (show W.heap[w.heap.size]? = some c.o by rw [hW]; exact new_at _ _ _ rfl)
  have HR1 := hid (hr.later hB)
  have hln : n ≤ 200 := by rw [← hn.out]; exact hG.len
  have HG := hid hG
  have CI := refcm_is W c hs
  have n0 : W.cell? ⟨w.heap.size, 0, none⟩ = some (.int .i64 c.kd) := cell_i K1.out (k := 0) (by simp [plI])
  rw [isX_isC, hc] at CI
  have e1 : ((c.kd : Int) == 1) = true := by simp [hk]
  have e4 : ¬ (4 : Int) < c.kd := by omega
  have HO := hid ho
  have hf2 : (200 : Int) ≤ (n : Int) := by rw [← hn.out]; omega
  clear hk ho hf
  clear hs hr hG
  go_enter Tryz.func22, Tryz.ntmps22
  go_upto_region 1 with fail
  rw [← hW]
  clear hW
  go_wp2_with (with_reducible refine wpList_load_cm rfl (.tmp 4) rfl rfl K1.out ?_)
  refine CI.mono ?_
  rintro y w2 ⟨rfl, hb2⟩
  have K2 := hid (var_on hb2 K1.out (lt_of_at K1.out))
  have HR2 := hid (HR1.out.later hb2)
  have hB2 := below_on hB hb2
  clear CI K1 HR1 n0 hb2 hB
  have n0 : w2.cell? ⟨w.heap.size, 0, none⟩ = some (.int .i64 c.kd) := cell_i K2.out (k := 0) (by simp [plI])
  have n4 : w2.cell? ⟨w.heap.size, 4, none⟩ = some (.int .i64 c.x) := cell_i K2.out (k := 4) (by simp [plI])
  have n5 : w2.cell? ⟨w.heap.size, 5, none⟩ = some (.int .i64 c.y) := cell_i K2.out (k := 5) (by simp [plI])
  obtain ⟨B, hBB⟩ : ∃ B, Hid (((ofN c.x c.y : Nat) : Int) = B) := ⟨_, rfl⟩
  have CC := ref_cell w2 c.x c.y
  rw [hBB.out, ofE_on HO.out] at CC
  go_wp2_with fail
  refine CC.mono ?_
  rintro y w3 ⟨rfl, hb3⟩
  have K3 := hid (var_on hb3 K2.out (lt_of_at K2.out))
  have HR3 := hid (HR2.out.later hb3)
  have hB3 := below_on hB2 hb3
  clear CC n0 n4 n5 K2 HR2 hb3 hB2
  have n0 : w3.cell? ⟨w.heap.size, 0, none⟩ = some (.int .i64 c.kd) := cell_i K3.out (k := 0) (by simp [plI])
  go_wp2_with fail
  go_ret
  exact ⟨rfl, hB3⟩
set_option maxHeartbeats 2000000 in
theorem ref_chkF1c {w : World} {p : Option Addr} {cap : Nat} {L : List Th} (hr : RowT w p L) (hG : Good L) {n : Nat} (hn : Hid (L.length = n)) {c : Cm} (hs : sizedC c) (hc : isCm c = true) (hk : c.kd = 1) (ho : onB c.x c.y = true) (hf : ¬ 200 ≤ L.length) :
    Calls Tryz.prog 22 #[.slice p n cap, c.v, .bool true] w fun e w' => e = .returned (.int .i64 0) ∧ Below w.heap.size w w' := by
  obtain ⟨W, hW⟩ : ∃ W, W = w.alloc c.o := ⟨_, rfl⟩
  have hB : Below w.heap.size w W := by rw [hW]; exact below1 _ _
  have K1 := hid (show W.heap[w.heap.size]? = some c.o by rw [hW]; exact new_at _ _ _ rfl)
  have HR1 := hid (hr.later hB)
  have hln : n ≤ 200 := by rw [← hn.out]; exact hG.len
  have HG := hid hG
  have CI := refcm_is W c hs
  have n0 : W.cell? ⟨w.heap.size, 0, none⟩ = some (.int .i64 c.kd) := cell_i K1.out (k := 0) (by simp [plI])
  rw [isX_isC, hc] at CI
  have e1 : ((c.kd : Int) == 1) = true := by simp [hk]
  have e4 : ¬ (4 : Int) < c.kd := by omega
  have HO := hid ho
  have hf2 : ¬ (200 : Int) ≤ (n : Int) := by rw [← hn.out]; omega
  clear hk ho hf
  clear hs hr hG
  go_enter Tryz.func22, Tryz.ntmps22
  go_upto_region 1 with fail
  rw [← hW]
  clear hW
  go_wp2_with (with_reducible refine wpList_load_cm rfl (.tmp 4) rfl rfl K1.out ?_)
  refine CI.mono ?_
  rintro y w2 ⟨rfl, hb2⟩
  have K2 := hid (var_on hb2 K1.out (lt_of_at K1.out))
  have HR2 := hid (HR1.out.later hb2)
  have hB2 := below_on hB hb2
  clear CI K1 HR1 n0 hb2 hB
  have n0 : w2.cell? ⟨w.heap.size, 0, none⟩ = some (.int .i64 c.kd) := cell_i K2.out (k := 0) (by simp [plI])
  have n4 : w2.cell? ⟨w.heap.size, 4, none⟩ = some (.int .i64 c.x) := cell_i K2.out (k := 4) (by simp [plI])
  have n5 : w2.cell? ⟨w.heap.size, 5, none⟩ = some (.int .i64 c.y) := cell_i K2.out (k := 5) (by simp [plI])
  obtain ⟨B, hBB⟩ : ∃ B, Hid (((ofN c.x c.y : Nat) : Int) = B) := ⟨_, rfl⟩
  have CC := ref_cell w2 c.x c.y
  rw [hBB.out, ofE_on HO.out] at CC
  go_wp2_with fail
  refine CC.mono ?_
  rintro y w3 ⟨rfl, hb3⟩
  have K3 := hid (var_on hb3 K2.out (lt_of_at K2.out))
  have HR3 := hid (HR2.out.later hb3)
  have hB3 := below_on hB2 hb3
  clear CC n0 n4 n5 K2 HR2 hb3 hB2
  have n0 : w3.cell? ⟨w.heap.size, 0, none⟩ = some (.int .i64 c.kd) := cell_i K3.out (k := 0) (by simp [plI])
  go_wp2_with fail
  go_ret
  exact ⟨rfl, hB3⟩
set_option maxHeartbeats 2000000 in
theorem ref_chkF2 {w : World} {p : Option Addr} {cap : Nat} {L : List Th} (hr : RowT w p L) (hG : Good L) {n : Nat} (hn : Hid (L.length = n)) {c : Cm} (hs : sizedC c) (hc : isCm c = true) (hk : c.kd = 2 ∨ c.kd = 3 ∨ c.kd = 4) (hh : hasT c.id L = false) :
    Calls Tryz.prog 22 #[.slice p n cap, c.v, .bool true] w fun e w' => e = .returned (.int .i64 15) ∧ Below w.heap.size w w' := by
  obtain ⟨W, hW⟩ : ∃ W, W = w.alloc c.o := ⟨_, rfl⟩
  have hB : Below w.heap.size w W := by rw [hW]; exact below1 _ _
  have K1 := hid (show W.heap[w.heap.size]? = some c.o by rw [hW]; exact new_at _ _ _ rfl)
  have HR1 := hid (hr.later hB)
  have hln : n ≤ 200 := by rw [← hn.out]; exact hG.len
  have HG := hid hG
  have CI := refcm_is W c hs
  have n0 : W.cell? ⟨w.heap.size, 0, none⟩ = some (.int .i64 c.kd) := cell_i K1.out (k := 0) (by simp [plI])
  rw [isX_isC, hc] at CI
  have e1 : ((c.kd : Int) == 1) = false := by simp; omega
  have e4 : ¬ (4 : Int) < c.kd := by omega
  obtain ⟨a, ha⟩ : ∃ a, Hid (atI c.id L = a) := ⟨_, rfl⟩
  have ha2 : a = -1 := by rw [← ha.out]; exact atI_not hh
  subst ha2
  clear hk hh
  clear hs hr hG
  go_enter Tryz.func22, Tryz.ntmps22
  go_upto_region 1 with fail
  rw [← hW]
  clear hW
  go_wp2_with (with_reducible refine wpList_load_cm rfl (.tmp 4) rfl rfl K1.out ?_)
  refine CI.mono ?_
  rintro y w2 ⟨rfl, hb2⟩
  have K2 := hid (var_on hb2 K1.out (lt_of_at K1.out))
  have HR2 := hid (HR1.out.later hb2)
  have hB2 := below_on hB hb2
  clear CI K1 HR1 n0 hb2 hB
  have n0 : w2.cell? ⟨w.heap.size, 0, none⟩ = some (.int .i64 c.kd) := cell_i K2.out (k := 0) (by simp [plI])
  have n4 : w2.cell? ⟨w.heap.size, 4, none⟩ = some (.int .i64 c.x) := cell_i K2.out (k := 4) (by simp [plI])
  have n5 : w2.cell? ⟨w.heap.size, 5, none⟩ = some (.int .i64 c.y) := cell_i K2.out (k := 5) (by simp [plI])
  obtain ⟨B, hBB⟩ : ∃ B, Hid (((ofN c.x c.y : Nat) : Int) = B) := ⟨_, rfl⟩
  have CC := ref_cell w2 c.x c.y
  obtain ⟨E, hE⟩ : ∃ E, Hid (ofE c.x c.y = E) := ⟨_, rfl⟩
  rw [hBB.out, hE.out] at CC
  go_wp2_with fail
  refine CC.mono ?_
  rintro y w3 ⟨rfl, hb3⟩
  have K3 := hid (var_on hb3 K2.out (lt_of_at K2.out))
  have HR3 := hid (HR2.out.later hb3)
  have hB3 := below_on hB2 hb3
  clear CC n0 n4 n5 K2 HR2 hb3 hB2
  have n0 : w3.cell? ⟨w.heap.size, 0, none⟩ = some (.int .i64 c.kd) := cell_i K3.out (k := 0) (by simp [plI])
  have n1 : w3.cell? ⟨w.heap.size, 1, none⟩ = some (.int .i64 c.id) := cell_i K3.out (k := 1) (by simp [plI])
  have CA := ref_at6 (cap := cap) HR3.out hn (by omega) ha
  go_wp2_with fail
  refine CA.mono ?_
  rintro y w4 ⟨rfl, hw4⟩
  rw [hw4]
  clear hw4 w4 CA
  go_wp2_with fail
  go_ret
  exact ⟨rfl, hB3⟩
set_option maxHeartbeats 2000000 in
theorem ref_chkF2a {w : World} {p : Option Addr} {cap : Nat} {L : List Th} (hr : RowT w p L) (hG : Good L) {n : Nat} (hn : Hid (L.length = n)) {c : Cm} (hs : sizedC c) (hc : isCm c = true) (hk : c.kd = 2) (hh : hasT c.id L = true) (ho : onB c.x c.y = false) :
    Calls Tryz.prog 22 #[.slice p n cap, c.v, .bool true] w fun e w' => e = .returned (.int .i64 14) ∧ Below w.heap.size w w' := by
  obtain ⟨W, hW⟩ : ∃ W, W = w.alloc c.o := ⟨_, rfl⟩
  have hB : Below w.heap.size w W := by rw [hW]; exact below1 _ _
  have K1 := hid (show W.heap[w.heap.size]? = some c.o by rw [hW]; exact new_at _ _ _ rfl)
  have HR1 := hid (hr.later hB)
  have hln : n ≤ 200 := by rw [← hn.out]; exact hG.len
  have HG := hid hG
  have CI := refcm_is W c hs
  have n0 : W.cell? ⟨w.heap.size, 0, none⟩ = some (.int .i64 c.kd) := cell_i K1.out (k := 0) (by simp [plI])
  rw [isX_isC, hc] at CI
  have e1 : ((c.kd : Int) == 1) = false := by simp; omega
  have e4 : ¬ (4 : Int) < c.kd := by omega
  obtain ⟨a, ha⟩ : ∃ a, Hid (atI c.id L = a) := ⟨_, rfl⟩
  obtain ⟨k, t, hk1, hk2, hk3⟩ := atI_has hh
  obtain rfl : (k : Int) = a := hk1.symm.trans ha.out
  have e5 : ¬ (k : Int) < 0 := by omega
  have HK2 := hid hk2
  have HK3 := hid hk3
  clear hk1 hk2 hk3 hh
  have e2 : ((c.kd : Int) == 2) = true := by simp [hk]
  have HO := hid ho
  clear hk ho
  clear hs hr hG
  go_enter Tryz.func22, Tryz.ntmps22
  go_upto_region 1 with fail
  rw [← hW]
  clear hW
  go_wp2_with (with_reducible refine wpList_load_cm rfl (.tmp 4) rfl rfl K1.out ?_)
  refine CI.mono ?_
  rintro y w2 ⟨rfl, hb2⟩
  have K2 := hid (var_on hb2 K1.out (lt_of_at K1.out))
  have HR2 := hid (HR1.out.later hb2)
  have hB2 := below_on hB hb2
  clear CI K1 HR1 n0 hb2 hB
  have n0 : w2.cell? ⟨w.heap.size, 0, none⟩ = some (.int .i64 c.kd) := cell_i K2.out (k := 0) (by simp [plI])
  have n4 : w2.cell? ⟨w.heap.size, 4, none⟩ = some (.int .i64 c.x) := cell_i K2.out (k := 4) (by simp [plI])
  have n5 : w2.cell? ⟨w.heap.size, 5, none⟩ = some (.int .i64 c.y) := cell_i K2.out (k := 5) (by simp [plI])
  obtain ⟨B, hBB⟩ : ∃ B, Hid (((ofN c.x c.y : Nat) : Int) = B) := ⟨_, rfl⟩
  have CC := ref_cell w2 c.x c.y
  rw [hBB.out, ofE_off HO.out] at CC
  go_wp2_with fail
  refine CC.mono ?_
  rintro y w3 ⟨rfl, hb3⟩
  have K3 := hid (var_on hb3 K2.out (lt_of_at K2.out))
  have HR3 := hid (HR2.out.later hb3)
  have hB3 := below_on hB2 hb3
  clear CC n0 n4 n5 K2 HR2 hb3 hB2
  have n0 : w3.cell? ⟨w.heap.size, 0, none⟩ = some (.int .i64 c.kd) := cell_i K3.out (k := 0) (by simp [plI])
  have n1 : w3.cell? ⟨w.heap.size, 1, none⟩ = some (.int .i64 c.id) := cell_i K3.out (k := 1) (by simp [plI])
  have CA := ref_at6 (cap := cap) HR3.out hn (by omega) ha
  go_wp2_with fail
  refine CA.mono ?_
  rintro y w4 ⟨rfl, hw4⟩
  rw [hw4]
  clear hw4 w4 CA
  go_wp2_with fail
  go_ret
  exact ⟨rfl, hB3⟩
set_option maxHeartbeats 2000000 in
theorem ref_chkF2b {w : World} {p : Option Addr} {cap : Nat} {L : List Th} (hr : RowT w p L) (hG : Good L) {n : Nat} (hn : Hid (L.length = n)) {c : Cm} (hs : sizedC c) (hc : isCm c = true) (hk : c.kd = 2) (hh : hasT c.id L = true) (ho : onB c.x c.y = true) :
    Calls Tryz.prog 22 #[.slice p n cap, c.v, .bool true] w fun e w' => e = .returned (.int .i64 0) ∧ Below w.heap.size w w' := by
  obtain ⟨W, hW⟩ : ∃ W, W = w.alloc c.o := ⟨_, rfl⟩
  have hB : Below w.heap.size w W := by rw [hW]; exact below1 _ _
  have K1 := hid (show W.heap[w.heap.size]? = some c.o by rw [hW]; exact new_at _ _ _ rfl)
  have HR1 := hid (hr.later hB)
  have hln : n ≤ 200 := by rw [← hn.out]; exact hG.len
  have HG := hid hG
  have CI := refcm_is W c hs
  have n0 : W.cell? ⟨w.heap.size, 0, none⟩ = some (.int .i64 c.kd) := cell_i K1.out (k := 0) (by simp [plI])
  rw [isX_isC, hc] at CI
  have e1 : ((c.kd : Int) == 1) = false := by simp; omega
  have e4 : ¬ (4 : Int) < c.kd := by omega
  obtain ⟨a, ha⟩ : ∃ a, Hid (atI c.id L = a) := ⟨_, rfl⟩
  obtain ⟨k, t, hk1, hk2, hk3⟩ := atI_has hh
  obtain rfl : (k : Int) = a := hk1.symm.trans ha.out
  have e5 : ¬ (k : Int) < 0 := by omega
  have HK2 := hid hk2
  have HK3 := hid hk3
  clear hk1 hk2 hk3 hh
  have e2 : ((c.kd : Int) == 2) = true := by simp [hk]
  have e3 : ((c.kd : Int) == 3) = false := by simp [hk]
  have HO := hid ho
  obtain ⟨A, hA⟩ : ∃ A, Hid (((ofN t.x t.y : Nat) : Int) = A) := ⟨_, rfl⟩
  clear hk ho
  clear hs hr hG
  go_enter Tryz.func22, Tryz.ntmps22
  go_upto_region 1 with fail
  rw [← hW]
  clear hW
  go_wp2_with (with_reducible refine wpList_load_cm rfl (.tmp 4) rfl rfl K1.out ?_)
  refine CI.mono ?_
  rintro y w2 ⟨rfl, hb2⟩
  have K2 := hid (var_on hb2 K1.out (lt_of_at K1.out))
  have HR2 := hid (HR1.out.later hb2)
  have hB2 := below_on hB hb2
  clear CI K1 HR1 n0 hb2 hB
  have n0 : w2.cell? ⟨w.heap.size, 0, none⟩ = some (.int .i64 c.kd) := cell_i K2.out (k := 0) (by simp [plI])
  have n4 : w2.cell? ⟨w.heap.size, 4, none⟩ = some (.int .i64 c.x) := cell_i K2.out (k := 4) (by simp [plI])
  have n5 : w2.cell? ⟨w.heap.size, 5, none⟩ = some (.int .i64 c.y) := cell_i K2.out (k := 5) (by simp [plI])
  obtain ⟨B, hBB⟩ : ∃ B, Hid (((ofN c.x c.y : Nat) : Int) = B) := ⟨_, rfl⟩
  have CC := ref_cell w2 c.x c.y
  rw [hBB.out, ofE_on HO.out] at CC
  go_wp2_with fail
  refine CC.mono ?_
  rintro y w3 ⟨rfl, hb3⟩
  have K3 := hid (var_on hb3 K2.out (lt_of_at K2.out))
  have HR3 := hid (HR2.out.later hb3)
  have hB3 := below_on hB2 hb3
  clear CC n0 n4 n5 K2 HR2 hb3 hB2
  have n0 : w3.cell? ⟨w.heap.size, 0, none⟩ = some (.int .i64 c.kd) := cell_i K3.out (k := 0) (by simp [plI])
  have n1 : w3.cell? ⟨w.heap.size, 1, none⟩ = some (.int .i64 c.id) := cell_i K3.out (k := 1) (by simp [plI])
  have CA := ref_at6 (cap := cap) HR3.out hn (by omega) ha
  go_wp2_with fail
  refine CA.mono ?_
  rintro y w4 ⟨rfl, hw4⟩
  rw [hw4]
  clear hw4 w4 CA
  obtain ⟨b, off, rfl, hcl⟩ := HR3.out.at HK2.out
  have hkn : k < n := by rw [← hn.out]; exact (List.getElem?_eq_some_iff.1 HK2.out).1
  have CT := fun w => ref_cell w t.x t.y
  rw [hA.out] at CT
  go_wp2_with fail
  refine (CT _).mono ?_
  rintro y w5 ⟨rfl, hb5⟩
  have hB5 := below_on hB3 hb5
  clear CT hcl K3 n0 n1 hb5 hB3 HR3
  go_wp2_with fail
  go_ret
  exact ⟨rfl, hB5⟩
set_option maxHeartbeats 2000000 in
theorem ref_chkF3a {w : World} {p : Option Addr} {cap : Nat} {L : List Th} (hr : RowT w p L) (hG : Good L) {n : Nat} (hn : Hid (L.length = n)) {c : Cm} (hs : sizedC c) (hc : isCm c = true) (hk : c.kd = 3) (hh : hasT c.id L = true) (hw : c.wh < 0) :
    Calls Tryz.prog 22 #[.slice p n cap, c.v, .bool true] w fun e w' => e = .returned (.int .i64 18) ∧ Below w.heap.size w w' := by
  obtain ⟨W, hW⟩ : ∃ W, W = w.alloc c.o := ⟨_, rfl⟩
  have hB : Below w.heap.size w W := by rw [hW]; exact below1 _ _
  have K1 := hid (show W.heap[w.heap.size]? = some c.o by rw [hW]; exact new_at _ _ _ rfl)
  have HR1 := hid (hr.later hB)
  have hln : n ≤ 200 := by rw [← hn.out]; exact hG.len
  have HG := hid hG
  have CI := refcm_is W c hs
  have n0 : W.cell? ⟨w.heap.size, 0, none⟩ = some (.int .i64 c.kd) := cell_i K1.out (k := 0) (by simp [plI])
  rw [isX_isC, hc] at CI
  have e1 : ((c.kd : Int) == 1) = false := by simp; omega
  have e4 : ¬ (4 : Int) < c.kd := by omega
  obtain ⟨a, ha⟩ : ∃ a, Hid (atI c.id L = a) := ⟨_, rfl⟩
  obtain ⟨k, t, hk1, hk2, hk3⟩ := atI_has hh
  obtain rfl : (k : Int) = a := hk1.symm.trans ha.out
  have e5 : ¬ (k : Int) < 0 := by omega
  have HK2 := hid hk2
  have HK3 := hid hk3
  clear hk1 hk2 hk3 hh
  have e2 : ((c.kd : Int) == 2) = false := by simp [hk]
  have e3 : ((c.kd : Int) == 3) = true := by simp [hk]
  have v1 : c.wh < 0 := hw
  clear hw
  clear hk
  clear hs hr hG
  go_enter Tryz.func22, Tryz.ntmps22
  go_upto_region 1 with fail
  rw [← hW]
  clear hW
  go_wp2_with (with_reducible refine wpList_load_cm rfl (.tmp 4) rfl rfl K1.out ?_)
  refine CI.mono ?_
  rintro y w2 ⟨rfl, hb2⟩
  have K2 := hid (var_on hb2 K1.out (lt_of_at K1.out))
  have HR2 := hid (HR1.out.later hb2)
  have hB2 := below_on hB hb2
  clear CI K1 HR1 n0 hb2 hB
  have n0 : w2.cell? ⟨w.heap.size, 0, none⟩ = some (.int .i64 c.kd) := cell_i K2.out (k := 0) (by simp [plI])
  have n4 : w2.cell? ⟨w.heap.size, 4, none⟩ = some (.int .i64 c.x) := cell_i K2.out (k := 4) (by simp [plI])
  have n5 : w2.cell? ⟨w.heap.size, 5, none⟩ = some (.int .i64 c.y) := cell_i K2.out (k := 5) (by simp [plI])
  obtain ⟨B, hBB⟩ : ∃ B, Hid (((ofN c.x c.y : Nat) : Int) = B) := ⟨_, rfl⟩
  have CC := ref_cell w2 c.x c.y
  obtain ⟨E, hE⟩ : ∃ E, Hid (ofE c.x c.y = E) := ⟨_, rfl⟩
  rw [hBB.out, hE.out] at CC
  go_wp2_with fail
  refine CC.mono ?_
  rintro y w3 ⟨rfl, hb3⟩
  have K3 := hid (var_on hb3 K2.out (lt_of_at K2.out))
  have HR3 := hid (HR2.out.later hb3)
  have hB3 := below_on hB2 hb3
  clear CC n0 n4 n5 K2 HR2 hb3 hB2
  have n0 : w3.cell? ⟨w.heap.size, 0, none⟩ = some (.int .i64 c.kd) := cell_i K3.out (k := 0) (by simp [plI])
  have n1 : w3.cell? ⟨w.heap.size, 1, none⟩ = some (.int .i64 c.id) := cell_i K3.out (k := 1) (by simp [plI])
  have CA := ref_at6 (cap := cap) HR3.out hn (by omega) ha
  go_wp2_with fail
  refine CA.mono ?_
  rintro y w4 ⟨rfl, hw4⟩
  rw [hw4]
  clear hw4 w4 CA
  have n2 : w3.cell? ⟨w.heap.size, 2, none⟩ = some (.int .i64 c.wh) := cell_i K3.out (k := 2) (by simp [plI])
  go_wp2_with fail
  go_ret
  exact ⟨rfl, hB3⟩
set_option maxHeartbeats 2000000 in
theorem ref_chkF3b {w : World} {p : Option Addr} {cap : Nat} {L : List Th} (hr : RowT w p L) (hG : Good L) {n : Nat} (hn : Hid (L.length = n)) {c : Cm} (hs : sizedC c) (hc : isCm c = true) (hk : c.kd = 3) (hh : hasT c.id L = true) (hw0 : ¬ c.wh < 0) (hw : 4 ≤ c.wh) :
    Calls Tryz.prog 22 #[.slice p n cap, c.v, .bool true] w fun e w' => e = .returned (.int .i64 18) ∧ Below w.heap.size w w' := by
  obtain ⟨W, hW⟩ : ∃ W, W = w.alloc c.o := ⟨_, rfl⟩
  have hB : Below w.heap.size w W := by rw [hW]; exact below1 _ _
  have K1 := hid (show W.heap[w.heap.size]? = some c.o by rw [hW]; exact new_at _ _ _ rfl)
  have HR1 := hid (hr.later hB)
  have hln : n ≤ 200 := by rw [← hn.out]; exact hG.len
  have HG := hid hG
  have CI := refcm_is W c hs
  have n0 : W.cell? ⟨w.heap.size, 0, none⟩ = some (.int .i64 c.kd) := cell_i K1.out (k := 0) (by simp [plI])
  rw [isX_isC, hc] at CI
  have e1 : ((c.kd : Int) == 1) = false := by simp; omega
  have e4 : ¬ (4 : Int) < c.kd := by omega
  obtain ⟨a, ha⟩ : ∃ a, Hid (atI c.id L = a) := ⟨_, rfl⟩
  obtain ⟨k, t, hk1, hk2, hk3⟩ := atI_has hh
  obtain rfl : (k : Int) = a := hk1.symm.trans ha.out
  have e5 : ¬ (k : Int) < 0 := by omega
  have HK2 := hid hk2
  have HK3 := hid hk3
  clear hk1 hk2 hk3 hh
  have e2 : ((c.kd : Int) == 2) = false := by simp [hk]
  have e3 : ((c.kd : Int) == 3) = true := by simp [hk]
  have v1 : ¬ c.wh < 0 := hw0
  have v2 : (4 : Int) ≤ c.wh := hw
  clear hw0 hw
  clear hk
  clear hs hr hG
  go_enter Tryz.func22, Tryz.ntmps22
  go_upto_region 1 with fail
  rw [← hW]
  clear hW
  go_wp2_with (with_reducible refine wpList_load_cm rfl (.tmp 4) rfl rfl K1.out ?_)
  refine CI.mono ?_
  rintro y w2 ⟨rfl, hb2⟩
  have K2 := hid (var_on hb2 K1.out (lt_of_at K1.out))
  have HR2 := hid (HR1.out.later hb2)
  have hB2 := below_on hB hb2
  clear CI K1 HR1 n0 hb2 hB
  have n0 : w2.cell? ⟨w.heap.size, 0, none⟩ = some (.int .i64 c.kd) := cell_i K2.out (k := 0) (by simp [plI])
  have n4 : w2.cell? ⟨w.heap.size, 4, none⟩ = some (.int .i64 c.x) := cell_i K2.out (k := 4) (by simp [plI])
  have n5 : w2.cell? ⟨w.heap.size, 5, none⟩ = some (.int .i64 c.y) := cell_i K2.out (k := 5) (by simp [plI])
  obtain ⟨B, hBB⟩ : ∃ B, Hid (((ofN c.x c.y : Nat) : Int) = B) := ⟨_, rfl⟩
  have CC := ref_cell w2 c.x c.y
  obtain ⟨E, hE⟩ : ∃ E, Hid (ofE c.x c.y = E) := ⟨_, rfl⟩
  rw [hBB.out, hE.out] at CC
  go_wp2_with fail
  refine CC.mono ?_
  rintro y w3 ⟨rfl, hb3⟩
  have K3 := hid (var_on hb3 K2.out (lt_of_at K2.out))
  have HR3 := hid (HR2.out.later hb3)
  have hB3 := below_on hB2 hb3
  clear CC n0 n4 n5 K2 HR2 hb3 hB2
  have n0 : w3.cell? ⟨w.heap.size, 0, none⟩ = some (.int .i64 c.kd) := cell_i K3.out (k := 0) (by simp [plI])
  have n1 : w3.cell? ⟨w.heap.size, 1, none⟩ = some (.int .i64 c.id) := cell_i K3.out (k := 1) (by simp [plI])
  have CA := ref_at6 (cap := cap) HR3.out hn (by omega) ha
  go_wp2_with fail
  refine CA.mono ?_
  rintro y w4 ⟨rfl, hw4⟩
  rw [hw4]
  clear hw4 w4 CA
  have n2 : w3.cell? ⟨w.heap.size, 2, none⟩ = some (.int .i64 c.wh) := cell_i K3.out (k := 2) (by simp [plI])
  go_wp2_with fail
  go_ret
  exact ⟨rfl, hB3⟩
set_option maxHeartbeats 2000000 in
theorem ref_chkF3c {w : World} {p : Option Addr} {cap : Nat} {L : List Th} (hr : RowT w p L) (hG : Good L) {n : Nat} (hn : Hid (L.length = n)) {c : Cm} (hs : sizedC c) (hc : isCm c = true) (hk : c.kd = 3) (hh : hasT c.id L = true) (hw0 : ¬ c.wh < 0) (hw : ¬ 4 ≤ c.wh) :
    Calls Tryz.prog 22 #[.slice p n cap, c.v, .bool true] w fun e w' => e = .returned (.int .i64 0) ∧ Below w.heap.size w w' := by
  obtain ⟨W, hW⟩ : ∃ W, W = w.alloc c.o := ⟨_, rfl⟩
  have hB : Below w.heap.size w W := by rw [hW]; exact below1 _ _
  have K1 := hid (show W.heap[w.heap.size]? = some c.o by rw [hW]; exact new_at _ _ _ rfl)
  have HR1 := hid (hr.later hB)
  have hln : n ≤ 200 := by rw [← hn.out]; exact hG.len
  have HG := hid hG
  have CI := refcm_is W c hs
  have n0 : W.cell? ⟨w.heap.size, 0, none⟩ = some (.int .i64 c.kd) := cell_i K1.out (k := 0) (by simp [plI])
  rw [isX_isC, hc] at CI
  have e1 : ((c.kd : Int) == 1) = false := by simp; omega
  have e4 : ¬ (4 : Int) < c.kd := by omega
  obtain ⟨a, ha⟩ : ∃ a, Hid (atI c.id L = a) := ⟨_, rfl⟩
  obtain ⟨k, t, hk1, hk2, hk3⟩ := atI_has hh
  obtain rfl : (k : Int) = a := hk1.symm.trans ha.out
  have e5 : ¬ (k : Int) < 0 := by omega
  have HK2 := hid hk2
  have HK3 := hid hk3
  clear hk1 hk2 hk3 hh
  have e2 : ((c.kd : Int) == 2) = false := by simp [hk]
  have e3 : ((c.kd : Int) == 3) = true := by simp [hk]
  have v1 : ¬ c.wh < 0 := hw0
  have v2 : ¬ (4 : Int) ≤ c.wh := hw
  clear hw0 hw
  clear hk
  clear hs hr hG
  go_enter Tryz.func22, Tryz.ntmps22
  go_upto_region 1 with fail
  rw [← hW]
  clear hW
  go_wp2_with (with_reducible refine wpList_load_cm rfl (.tmp 4) rfl rfl K1.out ?_)
  refine CI.mono ?_
  rintro y w2 ⟨rfl, hb2⟩
  have K2 := hid (var_on hb2 K1.out (lt_of_at K1.out))
  have HR2 := hid (HR1.out.later hb2)
  have hB2 := below_on hB hb2
  clear CI K1 HR1 n0 hb2 hB
  have n0 : w2.cell? ⟨w.heap.size, 0, none⟩ = some (.int .i64 c.kd) := cell_i K2.out (k := 0) (by simp [plI])
  have n4 : w2.cell? ⟨w.heap.size, 4, none⟩ = some (.int .i64 c.x) := cell_i K2.out (k := 4) (by simp [plI])
  have n5 : w2.cell? ⟨w.heap.size, 5, none⟩ = some (.int .i64 c.y) := cell_i K2.out (k := 5) (by simp [plI])
  obtain ⟨B, hBB⟩ : ∃ B, Hid (((ofN c.x c.y : Nat) : Int) = B) := ⟨_, rfl⟩
  have CC := ref_cell w2 c.x c.y
  obtain ⟨E, hE⟩ : ∃ E, Hid (ofE c.x c.y = E) := ⟨_, rfl⟩
  rw [hBB.out, hE.out] at CC
  go_wp2_with fail
  refine CC.mono ?_
  rintro y w3 ⟨rfl, hb3⟩
  have K3 := hid (var_on hb3 K2.out (lt_of_at K2.out))
  have HR3 := hid (HR2.out.later hb3)
  have hB3 := below_on hB2 hb3
  clear CC n0 n4 n5 K2 HR2 hb3 hB2
  have n0 : w3.cell? ⟨w.heap.size, 0, none⟩ = some (.int .i64 c.kd) := cell_i K3.out (k := 0) (by simp [plI])
  have n1 : w3.cell? ⟨w.heap.size, 1, none⟩ = some (.int .i64 c.id) := cell_i K3.out (k := 1) (by simp [plI])
  have CA := ref_at6 (cap := cap) HR3.out hn (by omega) ha
  go_wp2_with fail
  refine CA.mono ?_
  rintro y w4 ⟨rfl, hw4⟩
  rw [hw4]
  clear hw4 w4 CA
  have n2 : w3.cell? ⟨w.heap.size, 2, none⟩ = some (.int .i64 c.wh) := cell_i K3.out (k := 2) (by simp [plI])
  go_wp2_with fail
  go_ret
  exact ⟨rfl, hB3⟩
set_option maxHeartbeats 2000000 in
theorem ref_chkF4 {w : World} {p : Option Addr} {cap : Nat} {L : List Th} (hr : RowT w p L) (hG : Good L) {n : Nat} (hn : Hid (L.length = n)) {c : Cm} (hs : sizedC c) (hc : isCm c = true) (hk : c.kd = 4) (hh : hasT c.id L = true) :
    Calls Tryz.prog 22 #[.slice p n cap, c.v, .bool true] w fun e w' => e = .returned (.int .i64 0) ∧ Below w.heap.size w w' := by
  obtain ⟨W, hW⟩ : ∃ W, W = w.alloc c.o := ⟨_, rfl⟩
  have hB : Below w.heap.size w W := by rw [hW]; exact below1 _ _
  have K1 := hid (show W.heap[w.heap.size]? = some c.o by rw [hW]; exact new_at _ _ _ rfl)
  have HR1 := hid (hr.later hB)
  have hln : n ≤ 200 := by rw [← hn.out]; exact hG.len
  have HG := hid hG
  have CI := refcm_is W c hs
  have n0 : W.cell? ⟨w.heap.size, 0, none⟩ = some (.int .i64 c.kd) := cell_i K1.out (k := 0) (by simp [plI])
  rw [isX_isC, hc] at CI
  have e1 : ((c.kd : Int) == 1) = false := by simp; omega
  have e4 : ¬ (4 : Int) < c.kd := by omega
  obtain ⟨a, ha⟩ : ∃ a, Hid (atI c.id L = a) := ⟨_, rfl⟩
  obtain ⟨k, t, hk1, hk2, hk3⟩ := atI_has hh
  obtain rfl : (k : Int) = a := hk1.symm.trans ha.out
  have e5 : ¬ (k : Int) < 0 := by omega
  have HK2 := hid hk2
  have HK3 := hid hk3
  clear hk1 hk2 hk3 hh
  have e2 : ((c.kd : Int) == 2) = false := by simp [hk]
  have e3 : ((c.kd : Int) == 3) = false := by simp [hk]
  clear hk
  clear hs hr hG
  go_enter Tryz.func22, Tryz.ntmps22
  go_upto_region 1 with fail
  rw [← hW]
  clear hW
  go_wp2_with (with_reducible refine wpList_load_cm rfl (.tmp 4) rfl rfl K1.out ?_)
  refine CI.mono ?_
  rintro y w2 ⟨rfl, hb2⟩
  have K2 := hid (var_on hb2 K1.out (lt_of_at K1.out))
  have HR2 := hid (HR1.out.later hb2)
  have hB2 := below_on hB hb2
  clear CI K1 HR1 n0 hb2 hB
  have n0 : w2.cell? ⟨w.heap.size, 0, none⟩ = some (.int .i64 c.kd) := cell_i K2.out (k := 0) (by simp [plI])
  have n4 : w2.cell? ⟨w.heap.size, 4, none⟩ = some (.int .i64 c.x) := cell_i K2.out (k := 4) (by simp [plI])
  have n5 : w2.cell? ⟨w.heap.size, 5, none⟩ = some (.int .i64 c.y) := cell_i K2.out (k := 5) (by simp [plI])
  obtain ⟨B, hBB⟩ : ∃ B, Hid (((ofN c.x c.y : Nat) : Int) = B) := ⟨_, rfl⟩
  have CC := ref_cell w2 c.x c.y
  obtain ⟨E, hE⟩ : ∃ E, Hid (ofE c.x c.y = E) := ⟨_, rfl⟩
  rw [hBB.out, hE.out] at CC
  go_wp2_with fail
  refine CC.mono ?_
  rintro y w3 ⟨rfl, hb3⟩
  have K3 := hid (var_on hb3 K2.out (lt_of_at K2.out))
  have HR3 := hid (HR2.out.later hb3)
  have hB3 := below_on hB2 hb3
  clear CC n0 n4 n5 K2 HR2 hb3 hB2
  have n0 : w3.cell? ⟨w.heap.size, 0, none⟩ = some (.int .i64 c.kd) := cell_i K3.out (k := 0) (by simp [plI])
  have n1 : w3.cell? ⟨w.heap.size, 1, none⟩ = some (.int .i64 c.id) := cell_i K3.out (k := 1) (by simp [plI])
  have CA := ref_at6 (cap := cap) HR3.out hn (by omega) ha
  go_wp2_with fail
  refine CA.mono ?_
  rintro y w4 ⟨rfl, hw4⟩
  rw [hw4]
  clear hw4 w4 CA
  go_wp2_with fail
  go_ret
  exact ⟨rfl, hB3⟩
theorem ref_checkF {w : World} {p : Option Addr} {cap : Nat} {L : List Th} (hr : RowT w p L) (hG : Good L) {n : Nat} (hn : Hid (L.length = n)) {c : Cm} (hs : sizedC c) {x : Int} (hx : Hid (chkF L c = x)) :
    Calls Tryz.prog 22 #[.slice p n cap, c.v, .bool true] w fun e w' => e = .returned (.int .i64 x) ∧ Below w.heap.size w w' := by
  cases hc : isCm c
  · obtain rfl : 11 = x := (chkF_no hc).symm.trans hx.out
    exact ref_chkF0 hr hG hn hs hc
  · by_cases h5 : 4 < c.kd
    · obtain rfl : 11 = x := (chkF_else hc h5).symm.trans hx.out
      exact ref_chkF5 hr hG hn hs hc h5
    · have hb := isC_bounds hc
      have hk : c.kd = 1 ∨ c.kd = 2 ∨ c.kd = 3 ∨ c.kd = 4 := by omega
      have hx' := hx.out
      rcases hk with hk | hk | hk | hk
      · rw [chkF_put hc hk] at hx'
        cases ho : onB c.x c.y
        · rw [if_pos ho] at hx'; subst hx'; exact ref_chkF1a hr hG hn hs hc hk ho
        · rw [if_neg (by rw [ho]; simp)] at hx'
          by_cases hf : 200 ≤ L.length
          · rw [if_pos hf] at hx'; subst hx'; exact ref_chkF1b hr hG hn hs hc hk ho hf
          · rw [if_neg hf] at hx'
            subst hx'; exact ref_chkF1c hr hG hn hs hc hk ho hf
      all_goals cases hh : hasT c.id L
      · rw [chkF_move hc hk, if_pos hh] at hx'; subst hx'; exact ref_chkF2 hr hG hn hs hc (.inl hk) hh
      · rw [chkF_move hc hk, if_neg (by rw [hh]; simp)] at hx'
        cases ho : onB c.x c.y
        · rw [if_pos ho] at hx'; subst hx'; exact ref_chkF2a hr hG hn hs hc hk hh ho
        · rw [if_neg (by rw [ho]; simp)] at hx'
          subst hx'; exact ref_chkF2b hr hG hn hs hc hk hh ho
      · rw [chkF_set hc hk, if_pos hh] at hx'; subst hx'; exact ref_chkF2 hr hG hn hs hc (.inr (.inl hk)) hh
      · rw [chkF_set hc hk, if_neg (by rw [hh]; simp)] at hx'
        by_cases h0 : c.wh < 0
        · rw [if_pos (.inl h0)] at hx'; subst hx'; exact ref_chkF3a hr hG hn hs hc hk hh h0
        · by_cases h4 : 4 ≤ c.wh
          · rw [if_pos (.inr h4)] at hx'; subst hx'; exact ref_chkF3b hr hG hn hs hc hk hh h0 h4
          · rw [if_neg (by omega)] at hx'; subst hx'; exact ref_chkF3c hr hG hn hs hc hk hh h0 h4
      · rw [chkF_drop hc hk, if_pos hh] at hx'; subst hx'; exact ref_chkF2 hr hG hn hs hc (.inr (.inr hk)) hh
      · rw [chkF_drop hc hk, if_neg (by rw [hh]; simp)] at hx'; subst hx'; exact ref_chkF4 hr hG hn hs hc hk hh
end Go.Proofs.YtfoncphdbaaedaaGreatDoor
