/- Contracts of the reference's InCell and Check of layer 11. Of a table as it may be it says what chk says. No conditions beyond those typed. -/
import Derived.Test.YthmnbphpjmfckaaGreatDoorAcQ
import Derived.Test.YthmnbphpjmfckaaGreatDoorCG
import Derived.Test.YthmnbphpjmfckaaGreatDoorTbS
import Derived.Test.YthmnbphpjmfckaaGreatDoorCells2
namespace Go.Proofs.YthmnbphpjmfckaaGreatDoor
open Go.RowKit Go.Maps
set_option linter.unusedVariables false
set_option maxRecDepth 100000
def cntI (L : List Th) (c : Int) : Nat := (L.filter (fun t => ofI t.x t.y == c)).length
theorem cnt_le (L : List Th) (c : Int) : cntI L c ≤ L.length := List.length_filter_le _ _
theorem cnt_take {L : List Th} {k : Nat} {t : Th} (h : L[k]? = some t) (c : Int) : cntI (L.take (k + 1)) c = if ofI t.x t.y = c then cntI (L.take k) c + 1 else cntI (L.take k) c := by
  unfold cntI
  rw [List.take_add_one, h, Option.toList_some, List.filter_append, List.length_append]
  by_cases e : ofI t.x t.y = c <;> simp [e]
theorem cnt_cell {L : List Th} (hG : Good L) {x y : Int} (h : onB x y = true) : cntI L (ofI x y) = (inCell L (ofI x y)).length := by
  unfold cntI inCell inT_r
  congr 1
  refine List.filter_congr fun t ht => ?_
  rw [in_cell_of h (isT_on (hG.is t ht))]
theorem ofI_nat (x y : Int) : 0 ≤ ofI x y := by unfold ofI; omega
set_option maxHeartbeats 1000000 in
theorem ref_inCell {w : World} {p : Option Addr} {cap : Nat} {L : List Th} (hr : RowT w p L) {n : Nat} (hn : Hid (L.length = n)) (hl : n ≤ 999) {c : Int} {m : Nat} (hm : Hid (cntI L c = m)) :
    Calls Tryz.prog 33 #[.slice p n cap, .int .i64 c] w fun e w' => e = .returned (.int .i64 (m : Nat)) ∧ Below w.heap.size w w' := by
  have HR := hid hr
  clear hr
  go_enter Tryz.func33, Tryz.ntmps33
  go_wp2_with fail
  go_loopw [5, 6] (fun s5 s6 wr => ∃ (k j : Nat), k ≤ n ∧ j ≤ k ∧ s6 = .int .i64 (k : Nat) ∧ s5 = .int .i64 (j : Nat) ∧ Hid (cntI (L.take k) c = j) ∧ Below w.heap.size w wr) (fun _ s6 _ => n - (intOf s6).toNat)
  case atStart => exact ⟨0, 0, by omega, by omega, rfl, rfl, (show Hid _ from rfl), Below.refl _ _⟩
  case round =>
    obtain ⟨k, j, hk, hj, rfl, rfl, hc, hb⟩ := hrel
    by_cases hlt : k < n
    · have hlt' : (k : Int) < (n : Int) := by omega
      obtain ⟨t, ht⟩ := get_th L k (by rw [hn.out]; exact hlt)
      obtain ⟨b, off, rfl, hcl⟩ := (HR.out.later hb).at ht
      have HT := hid ht
      obtain ⟨A, hA⟩ : ∃ A, Hid (((ofN t.x t.y : Nat) : Int) = A) := ⟨_, rfl⟩
      have C := fun w => ref_cell w t.x t.y
      rw [hA.out] at C
      clear ht
      go_wp2_with fail
      refine (C _).mono ?_
      rintro y w2 ⟨rfl, hb2⟩
      have hB2 := below_on hb hb2
      clear hcl C hb2 hb
      by_cases hac : A = c
      · have e1 : ((A : Int) == c) = true := by simp [hac]
        have hst : Hid (cntI (L.take (k + 1)) c = j + 1) := by
          show _ = _
          rw [cnt_take HT.out, if_pos (show ofI t.x t.y = c from hA.out.trans hac), hc.out]
        clear hac
        go_wp2_with fail
        go_roundw
        case rel => exact ⟨k + 1, j + 1, by omega, by omega, by go_num, by go_num, hst, hB2⟩
        case measure => simp [intOf]; omega
      · have e1 : ((A : Int) == c) = false := by simp [hac]
        have hst : Hid (cntI (L.take (k + 1)) c = j) := by
          show _ = _
          rw [cnt_take HT.out, if_neg (show ¬ ofI t.x t.y = c from fun e => hac (hA.out.symm.trans e)), hc.out]
        clear hac
        go_wp2_with fail
        go_roundw
        case rel => exact ⟨k + 1, j, by omega, by omega, by go_num, rfl, hst, hB2⟩
        case measure => simp [intOf]; omega
    · obtain rfl : k = n := by omega
      have hlt' : ¬ (k : Int) < (k : Int) := by omega
      have hm2 : j = m := by rw [← hc.out, ← hm.out, List.take_of_length_le (by rw [hn.out]; omega)]
      subst hm2
      go_wp2_with fail
      go_ret
      exact ⟨rfl, hb⟩
theorem ofE_on {x y : Int} (h : onB x y = true) : ofE x y = 0 := by unfold ofE; rw [if_pos h]
theorem ofE_off {x y : Int} (h : onB x y = false) : ofE x y = 14 := by unfold ofE; rw [if_neg (by rw [h]; simp)]
set_option maxHeartbeats 2000000 in
theorem ref_chk0 {w : World} {p : Option Addr} {cap : Nat} {L : List Th} (hr : RowT w p L) (hG : Good L) {n : Nat} (hn : Hid (L.length = n)) {c : Cm} (hs : sizedC c) (hc : isCm c = false) :
    Calls Tryz.prog 16 #[.slice p n cap, c.v, .bool false] w fun e w' => e = .returned (.int .i64 11) ∧ Below w.heap.size w w' := by
  obtain ⟨W, hW⟩ : ∃ W, W = w.alloc c.o := ⟨_, rfl⟩
  have hB : Below w.heap.size w W := by rw [hW]; exact below1 _ _
  have K1 := hid (show W.heap[w.heap.size]? = some c.o by rw [hW]; exact new_at _ _ _ rfl)
  have HR1 := hid (hr.later hB)
  have hln : n ≤ 200 := by rw [← hn.out]; exact hG.len
  have HG := hid hG
  have CI := refcm_is W c hs
  have n0 : W.cell? ⟨w.heap.size, 0, none⟩ = some (.int .i64 c.kd) := cell_i K1.out (k := 0) (by simp [plI])
  rw [isX_isC, hc] at CI
  clear hs hr hG
  go_enter Tryz.func16, Tryz.ntmps16
  go_upto_region 1 with fail
  rw [← hW]
  clear hW
  go_wp2_with (with_reducible refine wpList_load_cm rfl (.tmp 4) rfl rfl K1.out ?_)
  refine CI.mono ?_
  rintro y w2 ⟨rfl, hb2⟩
  have K2 := hid (var_on hb2 K1.out (lt_of_at K1.out))
  have HR2 := hid (HR1.out.later hb2)
  have hB2 := below_on hB hb2
  clear CI K1 HR1 n0 hb2 hB
  go_wp2_with fail
  go_ret
  exact ⟨rfl, hB2⟩
set_option maxHeartbeats 2000000 in
theorem ref_chk5 {w : World} {p : Option Addr} {cap : Nat} {L : List Th} (hr : RowT w p L) (hG : Good L) {n : Nat} (hn : Hid (L.length = n)) {c : Cm} (hs : sizedC c) (hc : isCm c = true) (hk : 4 < c.kd) :
    Calls Tryz.prog 16 #[.slice p n cap, c.v, .bool false] w fun e w' => e = .returned (.int .i64 11) ∧ Below w.heap.size w w' := by
  obtain ⟨W, hW⟩ : ∃ W, W = w.alloc c.o := ⟨_, rfl⟩
  have hB : Below w.heap.size w W := by rw [hW]; exact below1 _ _
  have K1 := hid (show W.heap[w.heap.size]? = some c.o by rw [hW]; exact new_at _ _ _ rfl)
  have HR1 := hid (hr.later hB)
  have hln : n ≤ 200 := by rw [← hn.out]; exact hG.len
  have HG := hid hG
  have CI := refcm_is W c hs
  have n0 : W.cell? ⟨w.heap.size, 0, none⟩ = some (.int .i64 c.kd) := cell_i K1.out (k := 0) (by simp [plI])
  rw [isX_isC, hc] at CI
  have hk9 : (4 : Int) < c.kd := hk
  clear hk
  clear hs hr hG
  go_enter Tryz.func16, Tryz.ntmps16
  go_upto_region 1 with fail
  rw [← hW]
  clear hW
  go_wp2_with (with_reducible refine wpList_load_cm rfl (.tmp 4) rfl rfl K1.out ?_)
  refine CI.mono ?_
  rintro y w2 ⟨rfl, hb2⟩
  have K2 := hid (var_on hb2 K1.out (lt_of_at K1.out))
  have HR2 := hid (HR1.out.later hb2)
  have hB2 := below_on hB hb2
  clear CI K1 HR1 n0 hb2 hB
  have n0 : w2.cell? ⟨w.heap.size, 0, none⟩ = some (.int .i64 c.kd) := cell_i K2.out (k := 0) (by simp [plI])
  go_wp2_with fail
  go_ret
  exact ⟨rfl, hB2⟩
set_option maxHeartbeats 2000000 in
theorem ref_chk1a {w : World} {p : Option Addr} {cap : Nat} {L : List Th} (hr : RowT w p L) (hG : Good L) {n : Nat} (hn : Hid (L.length = n)) {c : Cm} (hs : sizedC c) (hc : isCm c = true) (hk : c.kd = 1) (ho : onB c.x c.y = false) :
    Calls Tryz.prog 16 #[.slice p n cap, c.v, .bool false] w fun e w' => e = .returned (.int .i64 14) ∧ Below w.heap.size w w' := by
  obtain ⟨W, hW⟩ : ∃ W, W = w.alloc c.o := ⟨_, rfl⟩
  have hB : Below w.heap.size w W := by rw [hW]; exact below1 _ _
  have K1 := hid (show W.heap[w.heap.size]? = some c.o by rw [hW]; exact new_at _ _ _ rfl)
  have HR1 := hid (hr.later hB)
  have hln : n ≤ 200 := by rw [← hn.out]; exact hG.len
  have HG := hid hG
  have CI := refcm_is W c hs
  have n0 : W.cell? ⟨w.heap.size, 0, none⟩ = some (.int .i64 c.kd) := cell_i K1.out (k := 0) (by simp [plI])
  rw [isX_isC, hc] at CI
  have e1 : ((c.kd : Int) == 1) = true := by simp [hk]
  have e4 : ¬ (4 : Int) < c.kd := by omega
  have HO := hid ho
  clear hk ho
  clear hs hr hG
  go_enter Tryz.func16, Tryz.ntmps16
  go_upto_region 1 with fail
  rw [← hW]
  clear hW
  go_wp2_with (with_reducible refine wpList_load_cm rfl (.tmp 4) rfl rfl K1.out ?_)
  refine CI.mono ?_
  rintro y w2 ⟨rfl, hb2⟩
  have K2 := hid (var_on hb2 K1.out (lt_of_at K1.out))
  have HR2 := hid (HR1.out.later hb2)
  have hB2 := below_on hB hb2
  clear CI K1 HR1 n0 hb2 hB
  have n0 : w2.cell? ⟨w.heap.size, 0, none⟩ = some (.int .i64 c.kd) := cell_i K2.out (k := 0) (by simp [plI])
  have n4 : w2.cell? ⟨w.heap.size, 4, none⟩ = some (.int .i64 c.x) := cell_i K2.out (k := 4) (by simp [plI])
  have n5 : w2.cell? ⟨w.heap.size, 5, none⟩ = some (.int .i64 c.y) := cell_i K2.out (k := 5) (by simp [plI])
  obtain ⟨B, hBB⟩ : ∃ B, Hid (((ofN c.x c.y : Nat) : Int) = B) := ⟨_, rfl⟩
  have CC := ref_cell w2 c.x c.y
  rw [hBB.out, ofE_off HO.out] at CC
  go_wp2_with fail
  refine CC.mono ?_
  rintro y w3 ⟨rfl, hb3⟩
  have K3 := hid (var_on hb3 K2.out (lt_of_at K2.out))
  have HR3 := hid (HR2.out.later hb3)
  have hB3 := below_on hB2 hb3
  clear CC n0 n4 n5 K2 HR2 hb3 hB2
  have n0 : w3.cell? ⟨w.heap.size, 0, none⟩ = some (.int .i64 c.kd) := cell_i K3.out (k := 0) (by simp [plI])
  go_wp2_with fail
  go_ret
  exact ⟨rfl, hB3⟩
set_option maxHeartbeats 2000000 in
theorem ref_chk1b {w : World} {p : Option Addr} {cap : Nat} {L : List Th} (hr : RowT w p L) (hG : Good L) {n : Nat} (hn : Hid (L.length = n)) {c : Cm} (hs : sizedC c) (hc : isCm c = true) (hk : c.kd = 1) (ho : onB c.x c.y = true) (hf : 200 ≤ L.length) :
    Calls Tryz.prog 16 #[.slice p n cap, c.v, .bool false] w fun e w' => e = .returned (.int .i64 16) ∧ Below w.heap.size w w' := by
  obtain ⟨W, hW⟩ : ∃ W, W = w.alloc c.o := ⟨_, rfl⟩
  have hB : Below w.heap.size w W := by rw [hW]; exact below1 _ _
  have K1 := hid (show W.heap[w.heap.size]? = some c.o by rw [hW]; exact new_at _ _ _ rfl)
  have HR1 := hid (hr.later hB)
  have hln : n ≤ 200 := by rw [← hn.out]; exact hG.len
  have HG := hid hG
  have CI := refcm_is W c hs
  have n0 : W.cell? ⟨w.heap.size, 0, none⟩ = some (.int .i64 c.kd) := cell_i K1.out (k := 0) (by simp [plI])
  rw [isX_isC, hc] at CI
  have e1 : ((c.kd : Int) == 1) = true := by simp [hk]
  have e4 : ¬ (4 : Int) < c.kd := by omega
  have HO := hid ho
  have hf2 : (200 : Int) ≤ (n : Int) := by rw [← hn.out]; omega
  clear hk ho hf
  clear hs hr hG
  go_enter Tryz.func16, Tryz.ntmps16
  go_upto_region 1 with fail
  rw [← hW]
  clear hW
  go_wp2_with (with_reducible refine wpList_load_cm rfl (.tmp 4) rfl rfl K1.out ?_)
  refine CI.mono ?_
  rintro y w2 ⟨rfl, hb2⟩
  have K2 := hid (var_on hb2 K1.out (lt_of_at K1.out))
  have HR2 := hid (HR1.out.later hb2)
  have hB2 := below_on hB hb2
  clear CI K1 HR1 n0 hb2 hB
  have n0 : w2.cell? ⟨w.heap.size, 0, none⟩ = some (.int .i64 c.kd) := cell_i K2.out (k := 0) (by simp [plI])
  have n4 : w2.cell? ⟨w.heap.size, 4, none⟩ = some (.int .i64 c.x) := cell_i K2.out (k := 4) (by simp [plI])
  have n5 : w2.cell? ⟨w.heap.size, 5, none⟩ = some (.int .i64 c.y) := cell_i K2.out (k := 5) (by simp [plI])
  obtain ⟨B, hBB⟩ : ∃ B, Hid (((ofN c.x c.y : Nat) : Int) = B) := ⟨_, rfl⟩
  have CC := ref_cell w2 c.x c.y
  rw [hBB.out, ofE_on HO.out] at CC
  go_wp2_with fail
  refine CC.mono ?_
  rintro y w3 ⟨rfl, hb3⟩
  have K3 := hid (var_on hb3 K2.out (lt_of_at K2.out))
  have HR3 := hid (HR2.out.later hb3)
  have hB3 := below_on hB2 hb3
  clear CC n0 n4 n5 K2 HR2 hb3 hB2
  have n0 : w3.cell? ⟨w.heap.size, 0, none⟩ = some (.int .i64 c.kd) := cell_i K3.out (k := 0) (by simp [plI])
  go_wp2_with fail
  go_ret
  exact ⟨rfl, hB3⟩
set_option maxHeartbeats 2000000 in
theorem ref_chk1c {w : World} {p : Option Addr} {cap : Nat} {L : List Th} (hr : RowT w p L) (hG : Good L) {n : Nat} (hn : Hid (L.length = n)) {c : Cm} (hs : sizedC c) (hc : isCm c = true) (hk : c.kd = 1) (ho : onB c.x c.y = true) (hf : ¬ 200 ≤ L.length) {q : Bool} (hq : Hid (crowdB L c = q)) {x : Int} (hx : Hid (x = if q then 16 else 0)) :
    Calls Tryz.prog 16 #[.slice p n cap, c.v, .bool false] w fun e w' => e = .returned (.int .i64 x) ∧ Below w.heap.size w w' := by
  obtain ⟨W, hW⟩ : ∃ W, W = w.alloc c.o := ⟨_, rfl⟩
  have hB : Below w.heap.size w W := by rw [hW]; exact below1 _ _
  have K1 := hid (show W.heap[w.heap.size]? = some c.o by rw [hW]; exact new_at _ _ _ rfl)
  have HR1 := hid (hr.later hB)
  have hln : n ≤ 200 := by rw [← hn.out]; exact hG.len
  have HG := hid hG
  have CI := refcm_is W c hs
  have n0 : W.cell? ⟨w.heap.size, 0, none⟩ = some (.int .i64 c.kd) := cell_i K1.out (k := 0) (by simp [plI])
  rw [isX_isC, hc] at CI
  have e1 : ((c.kd : Int) == 1) = true := by simp [hk]
  have e4 : ¬ (4 : Int) < c.kd := by omega
  have HO := hid ho
  have hf2 : ¬ (200 : Int) ≤ (n : Int) := by rw [← hn.out]; omega
  obtain ⟨m, hm⟩ : ∃ m, Hid (cntI L ((ofN c.x c.y : Nat) : Int) = m) := ⟨_, rfl⟩
  have hqm : Hid (q = decide (8 ≤ m)) := by
    show _ = _
    rw [← hq.out, ← hm.out]
    unfold crowdB
    rw [← cnt_cell hG ho]; rfl
  clear hk ho hf
  clear hs hr hG
  go_enter Tryz.func16, Tryz.ntmps16
  go_upto_region 1 with fail
  rw [← hW]
  clear hW
  go_wp2_with (with_reducible refine wpList_load_cm rfl (.tmp 4) rfl rfl K1.out ?_)
  refine CI.mono ?_
  rintro y w2 ⟨rfl, hb2⟩
  have K2 := hid (var_on hb2 K1.out (lt_of_at K1.out))
  have HR2 := hid (HR1.out.later hb2)
  have hB2 := below_on hB hb2
  clear CI K1 HR1 n0 hb2 hB
  have n0 : w2.cell? ⟨w.heap.size, 0, none⟩ = some (.int .i64 c.kd) := cell_i K2.out (k := 0) (by simp [plI])
  have n4 : w2.cell? ⟨w.heap.size, 4, none⟩ = some (.int .i64 c.x) := cell_i K2.out (k := 4) (by simp [plI])
  have n5 : w2.cell? ⟨w.heap.size, 5, none⟩ = some (.int .i64 c.y) := cell_i K2.out (k := 5) (by simp [plI])
  obtain ⟨B, hBB⟩ : ∃ B, Hid (((ofN c.x c.y : Nat) : Int) = B) := ⟨_, rfl⟩
  have CC := ref_cell w2 c.x c.y
  rw [hBB.out] at hm
  rw [hBB.out, ofE_on HO.out] at CC
  go_wp2_with fail
  refine CC.mono ?_
  rintro y w3 ⟨rfl, hb3⟩
  have K3 := hid (var_on hb3 K2.out (lt_of_at K2.out))
  have HR3 := hid (HR2.out.later hb3)
  have hB3 := below_on hB2 hb3
  clear CC n0 n4 n5 K2 HR2 hb3 hB2
  have n0 : w3.cell? ⟨w.heap.size, 0, none⟩ = some (.int .i64 c.kd) := cell_i K3.out (k := 0) (by simp [plI])
  have CN := ref_inCell (cap := cap) HR3.out hn (by omega) hm
  go_wp2_with fail
  refine CN.mono ?_
  rintro y w4 ⟨rfl, hb4⟩
  have hB4 := below_on hB3 hb4
  clear CN n0 K3 HR3 hb4 hB3
  by_cases h8 : 8 ≤ m
  · have h8' : (8 : Int) ≤ (m : Int) := by omega
    have hx2 : x = 16 := by rw [hx.out, hqm.out]; simp [h8]
    subst hx2
    clear h8
    go_wp2_with fail
    go_ret
    exact ⟨rfl, hB4⟩
  · have h8' : ¬ (8 : Int) ≤ (m : Int) := by omega
    have hx2 : x = 0 := by rw [hx.out, hqm.out]; simp [h8]
    subst hx2
    clear h8
    go_wp2_with fail
    go_ret
    exact ⟨rfl, hB4⟩
set_option maxHeartbeats 2000000 in
theorem ref_chk2 {w : World} {p : Option Addr} {cap : Nat} {L : List Th} (hr : RowT w p L) (hG : Good L) {n : Nat} (hn : Hid (L.length = n)) {c : Cm} (hs : sizedC c) (hc : isCm c = true) (hk : c.kd = 2 ∨ c.kd = 3 ∨ c.kd = 4) (hh : hasT c.id L = false) :
    Calls Tryz.prog 16 #[.slice p n cap, c.v, .bool false] w fun e w' => e = .returned (.int .i64 15) ∧ Below w.heap.size w w' := by
  obtain ⟨W, hW⟩ : ∃ W, W = w.alloc c.o := ⟨_, rfl⟩
  have hB : Below w.heap.size w W := by rw [hW]; exact below1 _ _
  have K1 := hid (show W.heap[w.heap.size]? = some c.o by rw [hW]; exact new_at _ _ _ rfl)
  have HR1 := hid (hr.later hB)
  have hln : n ≤ 200 := by rw [← hn.out]; exact hG.len
  have HG := hid hG
  have CI := refcm_is W c hs
  have n0 : W.cell? ⟨w.heap.size, 0, none⟩ = some (.int .i64 c.kd) := cell_i K1.out (k := 0) (by simp [plI])
  rw [isX_isC, hc] at CI
  have e1 : ((c.kd : Int) == 1) = false := by simp; omega
  have e4 : ¬ (4 : Int) < c.kd := by omega
  obtain ⟨a, ha⟩ : ∃ a, Hid (atI c.id L = a) := ⟨_, rfl⟩
  have ha2 : a = -1 := by rw [← ha.out]; exact atI_not hh
  subst ha2
  clear hk hh
  clear hs hr hG
  go_enter Tryz.func16, Tryz.ntmps16
  go_upto_region 1 with fail
  rw [← hW]
  clear hW
  go_wp2_with (with_reducible refine wpList_load_cm rfl (.tmp 4) rfl rfl K1.out ?_)
  refine CI.mono ?_
  rintro y w2 ⟨rfl, hb2⟩
  have K2 := hid (var_on hb2 K1.out (lt_of_at K1.out))
  have HR2 := hid (HR1.out.later hb2)
  have hB2 := below_on hB hb2
  clear CI K1 HR1 n0 hb2 hB
  have n0 : w2.cell? ⟨w.heap.size, 0, none⟩ = some (.int .i64 c.kd) := cell_i K2.out (k := 0) (by simp [plI])
  have n4 : w2.cell? ⟨w.heap.size, 4, none⟩ = some (.int .i64 c.x) := cell_i K2.out (k := 4) (by simp [plI])
  have n5 : w2.cell? ⟨w.heap.size, 5, none⟩ = some (.int .i64 c.y) := cell_i K2.out (k := 5) (by simp [plI])
  obtain ⟨B, hBB⟩ : ∃ B, Hid (((ofN c.x c.y : Nat) : Int) = B) := ⟨_, rfl⟩
  have CC := ref_cell w2 c.x c.y
  obtain ⟨E, hE⟩ : ∃ E, Hid (ofE c.x c.y = E) := ⟨_, rfl⟩
  rw [hBB.out, hE.out] at CC
  go_wp2_with fail
  refine CC.mono ?_
  rintro y w3 ⟨rfl, hb3⟩
  have K3 := hid (var_on hb3 K2.out (lt_of_at K2.out))
  have HR3 := hid (HR2.out.later hb3)
  have hB3 := below_on hB2 hb3
  clear CC n0 n4 n5 K2 HR2 hb3 hB2
  have n0 : w3.cell? ⟨w.heap.size, 0, none⟩ = some (.int .i64 c.kd) := cell_i K3.out (k := 0) (by simp [plI])
  have n1 : w3.cell? ⟨w.heap.size, 1, none⟩ = some (.int .i64 c.id) := cell_i K3.out (k := 1) (by simp [plI])
  have CA := ref_at6 (cap := cap) HR3.out hn (by omega) ha
  go_wp2_with fail
  refine CA.mono ?_
  rintro y w4 ⟨rfl, hw4⟩
  rw [hw4]
  clear hw4 w4 CA
  go_wp2_with fail
  go_ret
  exact ⟨rfl, hB3⟩
set_option maxHeartbeats 2000000 in
theorem ref_chk2a {w : World} {p : Option Addr} {cap : Nat} {L : List Th} (hr : RowT w p L) (hG : Good L) {n : Nat} (hn : Hid (L.length = n)) {c : Cm} (hs : sizedC c) (hc : isCm c = true) (hk : c.kd = 2) (hh : hasT c.id L = true) (ho : onB c.x c.y = false) :
    Calls Tryz.prog 16 #[.slice p n cap, c.v, .bool false] w fun e w' => e = .returned (.int .i64 14) ∧ Below w.heap.size w w' := by
  obtain ⟨W, hW⟩ : ∃ W, W = w.alloc c.o := ⟨_, rfl⟩
  have hB : Below w.heap.size w W := by rw [hW]; exact below1 _ _
  have K1 := hid (show W.heap[w.heap.size]? = some c.o by rw [hW]; exact new_at _ _ _ rfl)
  have HR1 := hid (hr.later hB)
  have hln : n ≤ 200 := by rw [← hn.out]; exact hG.len
  have HG := hid hG
  have CI := refcm_is W c hs
  have n0 : W.cell? ⟨w.heap.size, 0, none⟩ = some (.int .i64 c.kd) := cell_i K1.out (k := 0) (by simp [plI])
  rw [isX_isC, hc] at CI
  have e1 : ((c.kd : Int) == 1) = false := by simp; omega
  have e4 : ¬ (4 : Int) < c.kd := by omega
  obtain ⟨a, ha⟩ : ∃ a, Hid (atI c.id L = a) := ⟨_, rfl⟩
  obtain ⟨k, t, hk1, hk2, hk3⟩ := atI_has hh
  obtain rfl : (k : Int) = a := hk1.symm.trans ha.out
  have e5 : ¬ (k : Int) < 0 := by omega
  have HK2 := hid hk2
  have HK3 := hid hk3
  clear hk1 hk2 hk3 hh
  have e2 : ((c.kd : Int) == 2) = true := by simp [hk]
  have HO := hid ho
  clear hk ho
  clear hs hr hG
  go_enter Tryz.func16, Tryz.ntmps16
  go_upto_region 1 with fail
  rw [← hW]
  clear hW
  go_wp2_with (with_reducible refine wpList_load_cm rfl (.tmp 4) rfl rfl K1.out ?_)
  refine CI.mono ?_
  rintro y w2 ⟨rfl, hb2⟩
  have K2 := hid (var_on hb2 K1.out (lt_of_at K1.out))
  have HR2 := hid (HR1.out.later hb2)
  have hB2 := below_on hB hb2
  clear CI K1 HR1 n0 hb2 hB
  have n0 : w2.cell? ⟨w.heap.size, 0, none⟩ = some (.int .i64 c.kd) := cell_i K2.out (k := 0) (by simp [plI])
  have n4 : w2.cell? ⟨w.heap.size, 4, none⟩ = some (.int .i64 c.x) := cell_i K2.out (k := 4) (by simp [plI])
  have n5 : w2.cell? ⟨w.heap.size, 5, none⟩ = some (.int .i64 c.y) := cell_i K2.out (k := 5) (by simp [plI])
  obtain ⟨B, hBB⟩ : ∃ B, Hid (((ofN c.x c.y : Nat) : Int) = B) := ⟨_, rfl⟩
  have CC := ref_cell w2 c.x c.y
  rw [hBB.out, ofE_off HO.out] at CC
  go_wp2_with fail
  refine CC.mono ?_
  rintro y w3 ⟨rfl, hb3⟩
  have K3 := hid (var_on hb3 K2.out (lt_of_at K2.out))
  have HR3 := hid (HR2.out.later hb3)
  have hB3 := below_on hB2 hb3
  clear CC n0 n4 n5 K2 HR2 hb3 hB2
  have n0 : w3.cell? ⟨w.heap.size, 0, none⟩ = some (.int .i64 c.kd) := cell_i K3.out (k := 0) (by simp [plI])
  have n1 : w3.cell? ⟨w.heap.size, 1, none⟩ = some (.int .i64 c.id) := cell_i K3.out (k := 1) (by simp [plI])
  have CA := ref_at6 (cap := cap) HR3.out hn (by omega) ha
  go_wp2_with fail
  refine CA.mono ?_
  rintro y w4 ⟨rfl, hw4⟩
  rw [hw4]
  clear hw4 w4 CA
  go_wp2_with fail
  go_ret
  exact ⟨rfl, hB3⟩
set_option maxHeartbeats 2000000 in
theorem ref_chk2b {w : World} {p : Option Addr} {cap : Nat} {L : List Th} (hr : RowT w p L) (hG : Good L) {n : Nat} (hn : Hid (L.length = n)) {c : Cm} (hs : sizedC c) (hc : isCm c = true) (hk : c.kd = 2) (hh : hasT c.id L = true) (ho : onB c.x c.y = true) (hd : intoB L c = false) (hsame : ofI (thOf L c.id).x (thOf L c.id).y = ofI c.x c.y) :
    Calls Tryz.prog 16 #[.slice p n cap, c.v, .bool false] w fun e w' => e = .returned (.int .i64 0) ∧ Below w.heap.size w w' := by
  obtain ⟨W, hW⟩ : ∃ W, W = w.alloc c.o := ⟨_, rfl⟩
  have hB : Below w.heap.size w W := by rw [hW]; exact below1 _ _
  have K1 := hid (show W.heap[w.heap.size]? = some c.o by rw [hW]; exact new_at _ _ _ rfl)
  have HR1 := hid (hr.later hB)
  have hln : n ≤ 200 := by rw [← hn.out]; exact hG.len
  have HG := hid hG
  have CI := refcm_is W c hs
  have n0 : W.cell? ⟨w.heap.size, 0, none⟩ = some (.int .i64 c.kd) := cell_i K1.out (k := 0) (by simp [plI])
  rw [isX_isC, hc] at CI
  have e1 : ((c.kd : Int) == 1) = false := by simp; omega
  have e4 : ¬ (4 : Int) < c.kd := by omega
  obtain ⟨a, ha⟩ : ∃ a, Hid (atI c.id L = a) := ⟨_, rfl⟩
  obtain ⟨k, t, hk1, hk2, hk3⟩ := atI_has hh
  obtain rfl : (k : Int) = a := hk1.symm.trans ha.out
  have e5 : ¬ (k : Int) < 0 := by omega
  have HK2 := hid hk2
  have HK3 := hid hk3
  clear hk1 hk2 hk3 hh
  have e2 : ((c.kd : Int) == 2) = true := by simp [hk]
  have e3 : ((c.kd : Int) == 3) = false := by simp [hk]
  have HO := hid ho
  have ht : thOf L c.id = t := by unfold thOf; rw [HK3.out]; rfl
  obtain ⟨A, hA⟩ : ∃ A, Hid (((ofN t.x t.y : Nat) : Int) = A) := ⟨_, rfl⟩
  have hAB : Hid (A = ((ofN c.x c.y : Nat) : Int)) := by
    show _ = _
    rw [← hA.out, ← ht]; exact hsame
  clear hk ho hd hsame ht
  clear hs hr hG
  go_enter Tryz.func16, Tryz.ntmps16
  go_upto_region 1 with fail
  rw [← hW]
  clear hW
  go_wp2_with (with_reducible refine wpList_load_cm rfl (.tmp 4) rfl rfl K1.out ?_)
  refine CI.mono ?_
  rintro y w2 ⟨rfl, hb2⟩
  have K2 := hid (var_on hb2 K1.out (lt_of_at K1.out))
  have HR2 := hid (HR1.out.later hb2)
  have hB2 := below_on hB hb2
  clear CI K1 HR1 n0 hb2 hB
  have n0 : w2.cell? ⟨w.heap.size, 0, none⟩ = some (.int .i64 c.kd) := cell_i K2.out (k := 0) (by simp [plI])
  have n4 : w2.cell? ⟨w.heap.size, 4, none⟩ = some (.int .i64 c.x) := cell_i K2.out (k := 4) (by simp [plI])
  have n5 : w2.cell? ⟨w.heap.size, 5, none⟩ = some (.int .i64 c.y) := cell_i K2.out (k := 5) (by simp [plI])
  obtain ⟨B, hBB⟩ : ∃ B, Hid (((ofN c.x c.y : Nat) : Int) = B) := ⟨_, rfl⟩
  have CC := ref_cell w2 c.x c.y
  rw [hBB.out] at hAB
  rw [hBB.out, ofE_on HO.out] at CC
  go_wp2_with fail
  refine CC.mono ?_
  rintro y w3 ⟨rfl, hb3⟩
  have K3 := hid (var_on hb3 K2.out (lt_of_at K2.out))
  have HR3 := hid (HR2.out.later hb3)
  have hB3 := below_on hB2 hb3
  clear CC n0 n4 n5 K2 HR2 hb3 hB2
  have n0 : w3.cell? ⟨w.heap.size, 0, none⟩ = some (.int .i64 c.kd) := cell_i K3.out (k := 0) (by simp [plI])
  have n1 : w3.cell? ⟨w.heap.size, 1, none⟩ = some (.int .i64 c.id) := cell_i K3.out (k := 1) (by simp [plI])
  have CA := ref_at6 (cap := cap) HR3.out hn (by omega) ha
  go_wp2_with fail
  refine CA.mono ?_
  rintro y w4 ⟨rfl, hw4⟩
  rw [hw4]
  clear hw4 w4 CA
  obtain ⟨b, off, rfl, hcl⟩ := HR3.out.at HK2.out
  have hkn : k < n := by rw [← hn.out]; exact (List.getElem?_eq_some_iff.1 HK2.out).1
  have CT := fun w => ref_cell w t.x t.y
  rw [hA.out] at CT
  go_wp2_with fail
  refine (CT _).mono ?_
  rintro y w5 ⟨rfl, hb5⟩
  have HR5 := hid (HR3.out.later hb5)
  have hB5 := below_on hB3 hb5
  clear CT hcl K3 n0 n1 hb5 hB3 HR3
  have e6 : ((A : Int) != B) = false := by simp [hAB.out]
  go_wp2_with fail
  go_ret
  exact ⟨rfl, hB5⟩
set_option maxHeartbeats 2000000 in
theorem ref_chk2c {w : World} {p : Option Addr} {cap : Nat} {L : List Th} (hr : RowT w p L) (hG : Good L) {n : Nat} (hn : Hid (L.length = n)) {c : Cm} (hs : sizedC c) (hc : isCm c = true) (hk : c.kd = 2) (hh : hasT c.id L = true) (ho : onB c.x c.y = true) (hdif : ¬ ofI (thOf L c.id).x (thOf L c.id).y = ofI c.x c.y) {q : Bool} (hq : Hid (crowdB L c = q)) {x : Int} (hx : Hid (x = if q then 16 else 0)) :
    Calls Tryz.prog 16 #[.slice p n cap, c.v, .bool false] w fun e w' => e = .returned (.int .i64 x) ∧ Below w.heap.size w w' := by
  obtain ⟨W, hW⟩ : ∃ W, W = w.alloc c.o := ⟨_, rfl⟩
  have hB : Below w.heap.size w W := by rw [hW]; exact below1 _ _
  have K1 := hid (show W.heap[w.heap.size]? = some c.o by rw [hW]; exact new_at _ _ _ rfl)
  have HR1 := hid (hr.later hB)
  have hln : n ≤ 200 := by rw [← hn.out]; exact hG.len
  have HG := hid hG
  have CI := refcm_is W c hs
  have n0 : W.cell? ⟨w.heap.size, 0, none⟩ = some (.int .i64 c.kd) := cell_i K1.out (k := 0) (by simp [plI])
  rw [isX_isC, hc] at CI
  have e1 : ((c.kd : Int) == 1) = false := by simp; omega
  have e4 : ¬ (4 : Int) < c.kd := by omega
  obtain ⟨a, ha⟩ : ∃ a, Hid (atI c.id L = a) := ⟨_, rfl⟩
  obtain ⟨k, t, hk1, hk2, hk3⟩ := atI_has hh
  obtain rfl : (k : Int) = a := hk1.symm.trans ha.out
  have e5 : ¬ (k : Int) < 0 := by omega
  have HK2 := hid hk2
  have HK3 := hid hk3
  clear hk1 hk2 hk3 hh
  have e2 : ((c.kd : Int) == 2) = true := by simp [hk]
  have e3 : ((c.kd : Int) == 3) = false := by simp [hk]
  have HO := hid ho
  have ht : thOf L c.id = t := by unfold thOf; rw [HK3.out]; rfl
  obtain ⟨A, hA⟩ : ∃ A, Hid (((ofN t.x t.y : Nat) : Int) = A) := ⟨_, rfl⟩
  have hAB : Hid (¬ A = ((ofN c.x c.y : Nat) : Int)) := by
    show ¬ _
    rw [← hA.out, ← ht]; exact hdif
  obtain ⟨m, hm⟩ : ∃ m, Hid (cntI L ((ofN c.x c.y : Nat) : Int) = m) := ⟨_, rfl⟩
  have hqm : Hid (q = decide (8 ≤ m)) := by
    show _ = _
    rw [← hq.out, ← hm.out]
    unfold crowdB
    rw [← cnt_cell hG ho]; rfl
  clear hk ho hdif ht
  clear hs hr hG
  go_enter Tryz.func16, Tryz.ntmps16
  go_upto_region 1 with fail
  rw [← hW]
  clear hW
  go_wp2_with (with_reducible refine wpList_load_cm rfl (.tmp 4) rfl rfl K1.out ?_)
  refine CI.mono ?_
  rintro y w2 ⟨rfl, hb2⟩
  have K2 := hid (var_on hb2 K1.out (lt_of_at K1.out))
  have HR2 := hid (HR1.out.later hb2)
  have hB2 := below_on hB hb2
  clear CI K1 HR1 n0 hb2 hB
  have n0 : w2.cell? ⟨w.heap.size, 0, none⟩ = some (.int .i64 c.kd) := cell_i K2.out (k := 0) (by simp [plI])
  have n4 : w2.cell? ⟨w.heap.size, 4, none⟩ = some (.int .i64 c.x) := cell_i K2.out (k := 4) (by simp [plI])
  have n5 : w2.cell? ⟨w.heap.size, 5, none⟩ = some (.int .i64 c.y) := cell_i K2.out (k := 5) (by simp [plI])
  obtain ⟨B, hBB⟩ : ∃ B, Hid (((ofN c.x c.y : Nat) : Int) = B) := ⟨_, rfl⟩
  have CC := ref_cell w2 c.x c.y
  rw [hBB.out] at hAB hm
  rw [hBB.out, ofE_on HO.out] at CC
  go_wp2_with fail
  refine CC.mono ?_
  rintro y w3 ⟨rfl, hb3⟩
  have K3 := hid (var_on hb3 K2.out (lt_of_at K2.out))
  have HR3 := hid (HR2.out.later hb3)
  have hB3 := below_on hB2 hb3
  clear CC n0 n4 n5 K2 HR2 hb3 hB2
  have n0 : w3.cell? ⟨w.heap.size, 0, none⟩ = some (.int .i64 c.kd) := cell_i K3.out (k := 0) (by simp [plI])
  have n1 : w3.cell? ⟨w.heap.size, 1, none⟩ = some (.int .i64 c.id) := cell_i K3.out (k := 1) (by simp [plI])
  have CA := ref_at6 (cap := cap) HR3.out hn (by omega) ha
  go_wp2_with fail
  refine CA.mono ?_
  rintro y w4 ⟨rfl, hw4⟩
  rw [hw4]
  clear hw4 w4 CA
  obtain ⟨b, off, rfl, hcl⟩ := HR3.out.at HK2.out
  have hkn : k < n := by rw [← hn.out]; exact (List.getElem?_eq_some_iff.1 HK2.out).1
  have CT := fun w => ref_cell w t.x t.y
  rw [hA.out] at CT
  go_wp2_with fail
  refine (CT _).mono ?_
  rintro y w5 ⟨rfl, hb5⟩
  have HR5 := hid (HR3.out.later hb5)
  have hB5 := below_on hB3 hb5
  clear CT hcl K3 n0 n1 hb5 hB3 HR3
  have e6 : ((A : Int) != B) = true := by simp [hAB.out]
  have CN := ref_inCell (cap := cap) HR5.out hn (by omega) hm
  go_wp2_with fail
  refine CN.mono ?_
  rintro y w6 ⟨rfl, hb6⟩
  have hB6 := below_on hB5 hb6
  clear CN HR5 hb6 hB5
  by_cases h8 : 8 ≤ m
  · have h8' : (8 : Int) ≤ (m : Int) := by omega
    have hx2 : x = 16 := by rw [hx.out, hqm.out]; simp [h8]
    subst hx2
    clear h8
    go_wp2_with fail
    go_ret
    exact ⟨rfl, hB6⟩
  · have h8' : ¬ (8 : Int) ≤ (m : Int) := by omega
    have hx2 : x = 0 := by rw [hx.out, hqm.out]; simp [h8]
    subst hx2
    clear h8
    go_wp2_with fail
    go_ret
    exact ⟨rfl, hB6⟩
set_option maxHeartbeats 2000000 in
theorem ref_chk3a {w : World} {p : Option Addr} {cap : Nat} {L : List Th} (hr : RowT w p L) (hG : Good L) {n : Nat} (hn : Hid (L.length = n)) {c : Cm} (hs : sizedC c) (hc : isCm c = true) (hk : c.kd = 3) (hh : hasT c.id L = true) (hw : c.wh < 0) :
    Calls Tryz.prog 16 #[.slice p n cap, c.v, .bool false] w fun e w' => e = .returned (.int .i64 18) ∧ Below w.heap.size w w' := by
  obtain ⟨W, hW⟩ : ∃ W, W = w.alloc c.o := ⟨_, rfl⟩
  have hB : Below w.heap.size w W := by rw [hW]; exact below1 _ _
  have K1 := hid (show W.heap[w.heap.size]? = some c.o by rw [hW]; exact new_at _ _ _ rfl)
  have HR1 := hid (hr.later hB)
  have hln : n ≤ 200 := by rw [← hn.out]; exact hG.len
  have HG := hid hG
  have CI := refcm_is W c hs
  have n0 : W.cell? ⟨w.heap.size, 0, none⟩ = some (.int .i64 c.kd) := cell_i K1.out (k := 0) (by simp [plI])
  rw [isX_isC, hc] at CI
  have e1 : ((c.kd : Int) == 1) = false := by simp; omega
  have e4 : ¬ (4 : Int) < c.kd := by omega
  obtain ⟨a, ha⟩ : ∃ a, Hid (atI c.id L = a) := ⟨_, rfl⟩
  obtain ⟨k, t, hk1, hk2, hk3⟩ := atI_has hh
  obtain rfl : (k : Int) = a := hk1.symm.trans ha.out
  have e5 : ¬ (k : Int) < 0 := by omega
  have HK2 := hid hk2
  have HK3 := hid hk3
  clear hk1 hk2 hk3 hh
  have e2 : ((c.kd : Int) == 2) = false := by simp [hk]
  have e3 : ((c.kd : Int) == 3) = true := by simp [hk]
  have v1 : c.wh < 0 := hw
  clear hw
  clear hk
  clear hs hr hG
  go_enter Tryz.func16, Tryz.ntmps16
  go_upto_region 1 with fail
  rw [← hW]
  clear hW
  go_wp2_with (with_reducible refine wpList_load_cm rfl (.tmp 4) rfl rfl K1.out ?_)
  refine CI.mono ?_
  rintro y w2 ⟨rfl, hb2⟩
  have K2 := hid (var_on hb2 K1.out (lt_of_at K1.out))
  have HR2 := hid (HR1.out.later hb2)
  have hB2 := below_on hB hb2
  clear CI K1 HR1 n0 hb2 hB
  have n0 : w2.cell? ⟨w.heap.size, 0, none⟩ = some (.int .i64 c.kd) := cell_i K2.out (k := 0) (by simp [plI])
  have n4 : w2.cell? ⟨w.heap.size, 4, none⟩ = some (.int .i64 c.x) := cell_i K2.out (k := 4) (by simp [plI])
  have n5 : w2.cell? ⟨w.heap.size, 5, none⟩ = some (.int .i64 c.y) := cell_i K2.out (k := 5) (by simp [plI])
  obtain ⟨B, hBB⟩ : ∃ B, Hid (((ofN c.x c.y : Nat) : Int) = B) := ⟨_, rfl⟩
  have CC := ref_cell w2 c.x c.y
  obtain ⟨E, hE⟩ : ∃ E, Hid (ofE c.x c.y = E) := ⟨_, rfl⟩
  rw [hBB.out, hE.out] at CC
  go_wp2_with fail
  refine CC.mono ?_
  rintro y w3 ⟨rfl, hb3⟩
  have K3 := hid (var_on hb3 K2.out (lt_of_at K2.out))
  have HR3 := hid (HR2.out.later hb3)
  have hB3 := below_on hB2 hb3
  clear CC n0 n4 n5 K2 HR2 hb3 hB2
  have n0 : w3.cell? ⟨w.heap.size, 0, none⟩ = some (.int .i64 c.kd) := cell_i K3.out (k := 0) (by simp [plI])
  have n1 : w3.cell? ⟨w.heap.size, 1, none⟩ = some (.int .i64 c.id) := cell_i K3.out (k := 1) (by simp [plI])
  have CA := ref_at6 (cap := cap) HR3.out hn (by omega) ha
  go_wp2_with fail
  refine CA.mono ?_
  rintro y w4 ⟨rfl, hw4⟩
  rw [hw4]
  clear hw4 w4 CA
  have n2 : w3.cell? ⟨w.heap.size, 2, none⟩ = some (.int .i64 c.wh) := cell_i K3.out (k := 2) (by simp [plI])
  go_wp2_with fail
  go_ret
  exact ⟨rfl, hB3⟩
set_option maxHeartbeats 2000000 in
theorem ref_chk3b {w : World} {p : Option Addr} {cap : Nat} {L : List Th} (hr : RowT w p L) (hG : Good L) {n : Nat} (hn : Hid (L.length = n)) {c : Cm} (hs : sizedC c) (hc : isCm c = true) (hk : c.kd = 3) (hh : hasT c.id L = true) (hw0 : ¬ c.wh < 0) (hw : 4 ≤ c.wh) :
    Calls Tryz.prog 16 #[.slice p n cap, c.v, .bool false] w fun e w' => e = .returned (.int .i64 18) ∧ Below w.heap.size w w' := by
  obtain ⟨W, hW⟩ : ∃ W, W = w.alloc c.o := ⟨_, rfl⟩
  have hB : Below w.heap.size w W := by rw [hW]; exact below1 _ _
  have K1 := hid (show W.heap[w.heap.size]? = some c.o by rw [hW]; exact new_at _ _ _ rfl)
  have HR1 := hid (hr.later hB)
  have hln : n ≤ 200 := by rw [← hn.out]; exact hG.len
  have HG := hid hG
  have CI := refcm_is W c hs
  have n0 : W.cell? ⟨w.heap.size, 0, none⟩ = some (.int .i64 c.kd) := cell_i K1.out (k := 0) (by simp [plI])
  rw [isX_isC, hc] at CI
  have e1 : ((c.kd : Int) == 1) = false := by simp; omega
  have e4 : ¬ (4 : Int) < c.kd := by omega
  obtain ⟨a, ha⟩ : ∃ a, Hid (atI c.id L = a) := ⟨_, rfl⟩
  obtain ⟨k, t, hk1, hk2, hk3⟩ := atI_has hh
  obtain rfl : (k : Int) = a := hk1.symm.trans ha.out
  have e5 : ¬ (k : Int) < 0 := by omega
  have HK2 := hid hk2
  have HK3 := hid hk3
  clear hk1 hk2 hk3 hh
  have e2 : ((c.kd : Int) == 2) = false := by simp [hk]
  have e3 : ((c.kd : Int) == 3) = true := by simp [hk]
  have v1 : ¬ c.wh < 0 := hw0
  have v2 : (4 : Int) ≤ c.wh := hw
  clear hw0 hw
  clear hk
  clear hs hr hG
  go_enter Tryz.func16, Tryz.ntmps16
  go_upto_region 1 with fail
  rw [← hW]
  clear hW
  go_wp2_with (with_reducible refine wpList_load_cm rfl (.tmp 4) rfl rfl K1.out ?_)
  refine CI.mono ?_
  rintro y w2 ⟨rfl, hb2⟩
  have K2 := hid (var_on hb2 K1.out (lt_of_at K1.out))
  have HR2 := hid (HR1.out.later hb2)
  have hB2 := below_on hB hb2
  clear CI K1 HR1 n0 hb2 hB
  have n0 : w2.cell? ⟨w.heap.size, 0, none⟩ = some (.int .i64 c.kd) := cell_i K2.out (k := 0) (by simp [plI])
  have n4 : w2.cell? ⟨w.heap.size, 4, none⟩ = some (.int .i64 c.x) := cell_i K2.out (k := 4) (by simp [plI])
  have n5 : w2.cell? ⟨w.heap.size, 5, none⟩ = some (.int .i64 c.y) := cell_i K2.out (k := 5) (by simp [plI])
  obtain ⟨B, hBB⟩ : ∃ B, Hid (((ofN c.x c.y : Nat) : Int) = B) := ⟨_, rfl⟩
  have CC := ref_cell w2 c.x c.y
  obtain ⟨E, hE⟩ : ∃ E, Hid (ofE c.x c.y = E) := ⟨_, rfl⟩
  rw [hBB.out, hE.out] at CC
  go_wp2_with fail
  refine CC.mono ?_
  rintro y w3 ⟨rfl, hb3⟩
  have K3 := hid (var_on hb3 K2.out (lt_of_at K2.out))
  have HR3 := hid (HR2.out.later hb3)
  have hB3 := below_on hB2 hb3
  clear CC n0 n4 n5 K2 HR2 hb3 hB2
  have n0 : w3.cell? ⟨w.heap.size, 0, none⟩ = some (.int .i64 c.kd) := cell_i K3.out (k := 0) (by simp [plI])
  have n1 : w3.cell? ⟨w.heap.size, 1, none⟩ = some (.int .i64 c.id) := cell_i K3.out (k := 1) (by simp [plI])
  have CA := ref_at6 (cap := cap) HR3.out hn (by omega) ha
  go_wp2_with fail
  refine CA.mono ?_
  rintro y w4 ⟨rfl, hw4⟩
  rw [hw4]
  clear hw4 w4 CA
  have n2 : w3.cell? ⟨w.heap.size, 2, none⟩ = some (.int .i64 c.wh) := cell_i K3.out (k := 2) (by simp [plI])
  go_wp2_with fail
  go_ret
  exact ⟨rfl, hB3⟩
set_option maxHeartbeats 2000000 in
theorem ref_chk3c {w : World} {p : Option Addr} {cap : Nat} {L : List Th} (hr : RowT w p L) (hG : Good L) {n : Nat} (hn : Hid (L.length = n)) {c : Cm} (hs : sizedC c) (hc : isCm c = true) (hk : c.kd = 3) (hh : hasT c.id L = true) (hw0 : ¬ c.wh < 0) (hw : ¬ 4 ≤ c.wh) :
    Calls Tryz.prog 16 #[.slice p n cap, c.v, .bool false] w fun e w' => e = .returned (.int .i64 0) ∧ Below w.heap.size w w' := by
  obtain ⟨W, hW⟩ : ∃ W, W = w.alloc c.o := ⟨_, rfl⟩
  have hB : Below w.heap.size w W := by rw [hW]; exact below1 _ _
  have K1 := hid (show W.heap[w.heap.size]? = some c.o by rw [hW]; exact new_at _ _ _ rfl)
  have HR1 := hid (hr.later hB)
  have hln : n ≤ 200 := by rw [← hn.out]; exact hG.len
  have HG := hid hG
  have CI := refcm_is W c hs
  have n0 : W.cell? ⟨w.heap.size, 0, none⟩ = some (.int .i64 c.kd) := cell_i K1.out (k := 0) (by simp [plI])
  rw [isX_isC, hc] at CI
  have e1 : ((c.kd : Int) == 1) = false := by simp; omega
  have e4 : ¬ (4 : Int) < c.kd := by omega
  obtain ⟨a, ha⟩ : ∃ a, Hid (atI c.id L = a) := ⟨_, rfl⟩
  obtain ⟨k, t, hk1, hk2, hk3⟩ := atI_has hh
  obtain rfl : (k : Int) = a := hk1.symm.trans ha.out
  have e5 : ¬ (k : Int) < 0 := by omega
  have HK2 := hid hk2
  have HK3 := hid hk3
  clear hk1 hk2 hk3 hh
  have e2 : ((c.kd : Int) == 2) = false := by simp [hk]
  have e3 : ((c.kd : Int) == 3) = true := by simp [hk]
  have v1 : ¬ c.wh < 0 := hw0
  have v2 : ¬ (4 : Int) ≤ c.wh := hw
  clear hw0 hw
  clear hk
  clear hs hr hG
  go_enter Tryz.func16, Tryz.ntmps16
  go_upto_region 1 with fail
  rw [← hW]
  clear hW
  go_wp2_with (with_reducible refine wpList_load_cm rfl (.tmp 4) rfl rfl K1.out ?_)
  refine CI.mono ?_
  rintro y w2 ⟨rfl, hb2⟩
  have K2 := hid (var_on hb2 K1.out (lt_of_at K1.out))
  have HR2 := hid (HR1.out.later hb2)
  have hB2 := below_on hB hb2
  clear CI K1 HR1 n0 hb2 hB
  have n0 : w2.cell? ⟨w.heap.size, 0, none⟩ = some (.int .i64 c.kd) := cell_i K2.out (k := 0) (by simp [plI])
  have n4 : w2.cell? ⟨w.heap.size, 4, none⟩ = some (.int .i64 c.x) := cell_i K2.out (k := 4) (by simp [plI])
  have n5 : w2.cell? ⟨w.heap.size, 5, none⟩ = some (.int .i64 c.y) := cell_i K2.out (k := 5) (by simp [plI])
  obtain ⟨B, hBB⟩ : ∃ B, Hid (((ofN c.x c.y : Nat) : Int) = B) := ⟨_, rfl⟩
  have CC := ref_cell w2 c.x c.y
  obtain ⟨E, hE⟩ : ∃ E, Hid (ofE c.x c.y = E) := ⟨_, rfl⟩
  rw [hBB.out, hE.out] at CC
  go_wp2_with fail
  refine CC.mono ?_
  rintro y w3 ⟨rfl, hb3⟩
  have K3 := hid (var_on hb3 K2.out (lt_of_at K2.out))
  have HR3 := hid (HR2.out.later hb3)
  have hB3 := below_on hB2 hb3
  clear CC n0 n4 n5 K2 HR2 hb3 hB2
  have n0 : w3.cell? ⟨w.heap.size, 0, none⟩ = some (.int .i64 c.kd) := cell_i K3.out (k := 0) (by simp [plI])
  have n1 : w3.cell? ⟨w.heap.size, 1, none⟩ = some (.int .i64 c.id) := cell_i K3.out (k := 1) (by simp [plI])
  have CA := ref_at6 (cap := cap) HR3.out hn (by omega) ha
  go_wp2_with fail
  refine CA.mono ?_
  rintro y w4 ⟨rfl, hw4⟩
  rw [hw4]
  clear hw4 w4 CA
  have n2 : w3.cell? ⟨w.heap.size, 2, none⟩ = some (.int .i64 c.wh) := cell_i K3.out (k := 2) (by simp [plI])
  go_wp2_with fail
  go_ret
  exact ⟨rfl, hB3⟩
set_option maxHeartbeats 2000000 in
theorem ref_chk4 {w : World} {p : Option Addr} {cap : Nat} {L : List Th} (hr : RowT w p L) (hG : Good L) {n : Nat} (hn : Hid (L.length = n)) {c : Cm} (hs : sizedC c) (hc : isCm c = true) (hk : c.kd = 4) (hh : hasT c.id L = true) :
    Calls Tryz.prog 16 #[.slice p n cap, c.v, .bool false] w fun e w' => e = .returned (.int .i64 0) ∧ Below w.heap.size w w' := by
  obtain ⟨W, hW⟩ : ∃ W, W = w.alloc c.o := ⟨_, rfl⟩
  have hB : Below w.heap.size w W := by rw [hW]; exact below1 _ _
  have K1 := hid (show W.heap[w.heap.size]? = some c.o by rw [hW]; exact new_at _ _ _ rfl)
  have HR1 := hid (hr.later hB)
  have hln : n ≤ 200 := by rw [← hn.out]; exact hG.len
  have HG := hid hG
  have CI := refcm_is W c hs
  have n0 : W.cell? ⟨w.heap.size, 0, none⟩ = some (.int .i64 c.kd) := cell_i K1.out (k := 0) (by simp [plI])
  rw [isX_isC, hc] at CI
  have e1 : ((c.kd : Int) == 1) = false := by simp; omega
  have e4 : ¬ (4 : Int) < c.kd := by omega
  obtain ⟨a, ha⟩ : ∃ a, Hid (atI c.id L = a) := ⟨_, rfl⟩
  obtain ⟨k, t, hk1, hk2, hk3⟩ := atI_has hh
  obtain rfl : (k : Int) = a := hk1.symm.trans ha.out
  have e5 : ¬ (k : Int) < 0 := by omega
  have HK2 := hid hk2
  have HK3 := hid hk3
  clear hk1 hk2 hk3 hh
  have e2 : ((c.kd : Int) == 2) = false := by simp [hk]
  have e3 : ((c.kd : Int) == 3) = false := by simp [hk]
  clear hk
  clear hs hr hG
  go_enter Tryz.func16, Tryz.ntmps16
  go_upto_region 1 with fail
  rw [← hW]
  clear hW
  go_wp2_with (with_reducible refine wpList_load_cm rfl (.tmp 4) rfl rfl K1.out ?_)
  refine CI.mono ?_
  rintro y w2 ⟨rfl, hb2⟩
  have K2 := hid (var_on hb2 K1.out (lt_of_at K1.out))
  have HR2 := hid (HR1.out.later hb2)
  have hB2 := below_on hB hb2
  clear CI K1 HR1 n0 hb2 hB
  have n0 : w2.cell? ⟨w.heap.size, 0, none⟩ = some (.int .i64 c.kd) := cell_i K2.out (k := 0) (by simp [plI])
  have n4 : w2.cell? ⟨w.heap.size, 4, none⟩ = some (.int .i64 c.x) := cell_i K2.out (k := 4) (by simp [plI])
  have n5 : w2.cell? ⟨w.heap.size, 5, none⟩ = some (.int .i64 c.y) := cell_i K2.out (k := 5) (by simp [plI])
  obtain ⟨B, hBB⟩ : ∃ B, Hid (((ofN c.x c.y : Nat) : Int) = B) := ⟨_, rfl⟩
  have CC := ref_cell w2 c.x c.y
  obtain ⟨E, hE⟩ : ∃ E, Hid (ofE c.x c.y = E) := ⟨_, rfl⟩
  rw [hBB.out, hE.out] at CC
  go_wp2_with fail
  refine CC.mono ?_
  rintro y w3 ⟨rfl, hb3⟩
  have K3 := hid (var_on hb3 K2.out (lt_of_at K2.out))
  have HR3 := hid (HR2.out.later hb3)
  have hB3 := below_on hB2 hb3
  clear CC n0 n4 n5 K2 HR2 hb3 hB2
  have n0 : w3.cell? ⟨w.heap.size, 0, none⟩ = some (.int .i64 c.kd) := cell_i K3.out (k := 0) (by simp [plI])
  have n1 : w3.cell? ⟨w.heap.size, 1, none⟩ = some (.int .i64 c.id) := cell_i K3.out (k := 1) (by simp [plI])
  have CA := ref_at6 (cap := cap) HR3.out hn (by omega) ha
  go_wp2_with fail
  refine CA.mono ?_
  rintro y w4 ⟨rfl, hw4⟩
  rw [hw4]
  clear hw4 w4 CA
  go_wp2_with fail
  go_ret
  exact ⟨rfl, hB3⟩
theorem ref_check {w : World} {p : Option Addr} {cap : Nat} {L : List Th} (hr : RowT w p L) (hG : Good L) {n : Nat} (hn : Hid (L.length = n)) {c : Cm} (hs : sizedC c) {x : Int} (hx : Hid (chk L c = x)) :
    Calls Tryz.prog 16 #[.slice p n cap, c.v, .bool false] w fun e w' => e = .returned (.int .i64 x) ∧ Below w.heap.size w w' := by
  cases hc : isCm c
  · obtain rfl : 11 = x := (chk_no hc).symm.trans hx.out
    exact ref_chk0 hr hG hn hs hc
  · by_cases h5 : 4 < c.kd
    · obtain rfl : 11 = x := (chk_else hc h5).symm.trans hx.out
      exact ref_chk5 hr hG hn hs hc h5
    · have hb := isC_bounds hc
      have hk : c.kd = 1 ∨ c.kd = 2 ∨ c.kd = 3 ∨ c.kd = 4 := by omega
      have hx' := hx.out
      rcases hk with hk | hk | hk | hk
      · rw [chk_put hc hk] at hx'
        cases ho : onB c.x c.y
        · rw [if_pos ho] at hx'; subst hx'; exact ref_chk1a hr hG hn hs hc hk ho
        · rw [if_neg (by rw [ho]; simp)] at hx'
          by_cases hf : 200 ≤ L.length
          · rw [if_pos hf] at hx'; subst hx'; exact ref_chk1b hr hG hn hs hc hk ho hf
          · rw [if_neg hf] at hx'
            exact ref_chk1c hr hG hn hs hc hk ho hf rfl (hid hx'.symm)
      all_goals cases hh : hasT c.id L
      · rw [chk_move hc hk, if_pos hh] at hx'; subst hx'; exact ref_chk2 hr hG hn hs hc (.inl hk) hh
      · rw [chk_move hc hk, if_neg (by rw [hh]; simp)] at hx'
        cases ho : onB c.x c.y
        · rw [if_pos ho] at hx'; subst hx'; exact ref_chk2a hr hG hn hs hc hk hh ho
        · rw [if_neg (by rw [ho]; simp)] at hx'
          by_cases hsm : ofI (thOf L c.id).x (thOf L c.id).y = ofI c.x c.y
          · have hi : intoB L c = false := by unfold intoB; simp [hsm]
            rw [if_neg (by rw [hi]; simp)] at hx'
            subst hx'; exact ref_chk2b hr hG hn hs hc hk hh ho hi hsm
          · have hi : intoB L c = crowdB L c := by unfold intoB; simp [hsm]
            rw [hi] at hx'
            exact ref_chk2c hr hG hn hs hc hk hh ho hsm rfl (hid hx'.symm)
      · rw [chk_set hc hk, if_pos hh] at hx'; subst hx'; exact ref_chk2 hr hG hn hs hc (.inr (.inl hk)) hh
      · rw [chk_set hc hk, if_neg (by rw [hh]; simp)] at hx'
        by_cases h0 : c.wh < 0
        · rw [if_pos (.inl h0)] at hx'; subst hx'; exact ref_chk3a hr hG hn hs hc hk hh h0
        · by_cases h4 : 4 ≤ c.wh
          · rw [if_pos (.inr h4)] at hx'; subst hx'; exact ref_chk3b hr hG hn hs hc hk hh h0 h4
          · rw [if_neg (by omega)] at hx'; subst hx'; exact ref_chk3c hr hG hn hs hc hk hh h0 h4
      · rw [chk_drop hc hk, if_pos hh] at hx'; subst hx'; exact ref_chk2 hr hG hn hs hc (.inr (.inr hk)) hh
      · rw [chk_drop hc hk, if_neg (by rw [hh]; simp)] at hx'; subst hx'; exact ref_chk4 hr hG hn hs hc hk hh
end Go.Proofs.YthmnbphpjmfckaaGreatDoor
