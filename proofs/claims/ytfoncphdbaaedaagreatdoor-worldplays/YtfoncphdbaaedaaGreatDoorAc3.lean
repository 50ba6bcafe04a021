/- Contract of Check of the package act: the first reason against a command, if there is one. -/
import Derived.Test.YtfoncphdbaaedaaGreatDoorAc1
import Derived.Test.YtfoncphdbaaedaaGreatDoorAc2
import Derived.Test.YtfoncphdbaaedaaGreatDoorCE
namespace Go.Proofs.YtfoncphdbaaedaaGreatDoor
open Go.RowKit Go.Maps
set_option linter.unusedVariables false
theorem ac_reason {W0 w : World} {tb : Nat} {L : List Th} {K : List Nat} (h : TK W0 w tb L K) {c : Cm} (hi : inI c.id) {r f : Nat} (hr : r < 6) (hf : Hid (rsF r = f)) {q : Bool} (hq : Hid (rsB L c r = q)) : Calls Tryz.prog f #[.pointer (some ⟨tb, 0, none⟩), c.v] w fun e w' => e = .returned (.bool q) ∧ Below w.heap.size w w' := by
  rw [← hf.out, ← hq.out]
  obtain rfl | rfl | rfl | rfl | rfl | rfl : r = 0 ∨ r = 1 ∨ r = 2 ∨ r = 3 ∨ r = 4 ∨ r = 5 := by omega
  · exact ac_lacks h hi
  · exact ac_beyond w tb c
  · exact ac_fieldless w tb c
  · exact ac_full h c
  · exact ac_crowded h c
  · exact ac_into h hi
theorem call_rsF {r f : Nat} (hr : r < 6) (hf : Hid (rsF r = f)) : ∀ (args : Array Value) (W : World), (callFunc f args).run Tryz.prog W = .ok (.enter f args) W := by
  intro args W
  rw [← hf.out]
  obtain rfl | rfl | rfl | rfl | rfl | rfl : r = 0 ∨ r = 1 ∨ r = 2 ∨ r = 3 ∨ r = 4 ∨ r = 5 := by omega
  all_goals kernel_rfl
set_option maxHeartbeats 4000000 in
set_option maxRecDepth 100000 in
theorem act_check {W0 w : World} {tb : Nat} {L : List Th} {K : List Nat} (h : TK W0 w tb L K) {c : Cm} (hs : sizedC c) {x : Int} (hx : Hid (chk L c = x)) :
    Calls Tryz.prog 45 #[.pointer (some ⟨tb, 0, none⟩), c.v] w fun e w' => e = .returned (.int .i64 x) ∧ Below w.heap.size w w' := by
  obtain ⟨W, hW⟩ : ∃ W, W = w.alloc c.o := ⟨_, rfl⟩
  have hB : Below w.heap.size w W := by rw [hW]; exact below1 _ _
  have K1 := hid (show W.heap[w.heap.size]? = some c.o by rw [hW]; exact new_at _ _ _ rfl)
  have T1 := hid (h.later hB)
  obtain ⟨q, hq⟩ : ∃ q, Hid (isCm c = q) := ⟨_, rfl⟩
  have CI := fun w => cmd_is w c hs
  rw [hq.out] at CI
  clear h hs
  cases q
  · have hx' : x = 11 := by rw [← hx.out]; exact chk_no hq.out
    subst hx'
    go_enter Tryz.func45, Tryz.ntmps45
    go_wp2_with fail
    go_step3
    go_upto_region 1 with fail
    rw [← hW]
    clear hW
    go_wp2_with (with_reducible refine wpList_load_cm rfl (.tmp 3) rfl rfl K1.out ?_)
    refine (CI _).mono ?_
    rintro y w2 ⟨rfl, hb2⟩
    have hB2 := below_on hB hb2
    clear CI K1 T1
    go_wp2_with fail
    try rw [Exit.noGoto_ret]
    go_ret
    exact ⟨rfl, hB2⟩
  · have hx' : Hid (chkK L c (kinL.drop 0) 11 = x) := by
      show _ = _
      rw [← hx.out]; unfold chk; rw [hq.out]; rfl
    have hid2 := isC_id hq.out
    have hi : Hid (inI c.id) := (show inI c.id from ⟨by omega, by omega⟩)
    clear hid2 hx hq
    go_enter Tryz.func45, Tryz.ntmps45
    go_wp2_with fail
    go_step3
    go_upto_region 1 with fail
    rw [← hW]
    clear hW
    go_wp2_with (with_reducible refine wpList_load_cm rfl (.tmp 3) rfl rfl K1.out ?_)
    refine (CI _).mono ?_
    rintro y w2 ⟨rfl, hb2⟩
    have K2 := hid (var_on hb2 K1.out (lt_of_at K1.out))
    have T2 := hid (T1.out.later hb2)
    have hB2 := below_on hB hb2
    clear CI K1 T1 hb2 hB
    go_wp2_with fail
    go_step3
    go_wp2_with fail
    refine (ac_kinds _).mono ?_
    rintro y w3 ⟨b, r1, r2, r3, r4, rfl, hk3, hb3⟩
    have K3 := hid (var_on hb3 K2.out (lt_of_at K2.out))
    have T3 := hid (T2.out.later hb3)
    have hB3 := below_on hB2 hb3
    have Q3 := hid hk3
    clear K2 T2 hb3 hB2 hk3
    go_wp2_with fail
    go_loopw [5, 15] (fun e5 i wr => ∃ (k : Nat) (z : Int), k ≤ 4 ∧ e5 = .int .i64 z ∧ i = .int .i64 (k : Nat) ∧ Hid (chkK L c (kinL.drop k) z = x) ∧ Hid (KAt wr b r1 r2 r3 r4) ∧ Hid (wr.heap[w.heap.size]? = some c.o) ∧ Hid (TK W0 wr tb L K) ∧ Below w.heap.size w wr) (fun _ i _ => 4 - (intOf i).toNat)
    case atStart => exact ⟨0, 11, by omega, rfl, rfl, hx', Q3, K3, T3, hB3⟩
    case round =>
      obtain ⟨k, z, hk, rfl, rfl, hz, HK, HC, HT, hb⟩ := hrel
      clear hx' Q3 K3 T3 hB3
      by_cases hlt : k < 4
      · have hlt' : (k : Int) < (4 : Int) := by omega
        obtain ⟨d, hd⟩ : ∃ d, kinL[k]? = some d := ⟨kinL[k]'hlt, List.getElem?_eq_getElem hlt⟩
        obtain ⟨k1, r, k2, hR⟩ := HK.out.kind hd
        have n0 : wr.cell? ⟨w.heap.size, 0, none⟩ = some (.int .i64 c.kd) := cell_i HC.out (k := 0) (by simp [plI])
        have hlc := lt_of_at HC.out
        have HD := hid hd
        have HR := hid hR
        have hn3 := kin_len hd
        clear hd hR
        by_cases hkd : d.of = c.kd
        · have hne : ((d.of : Int) != c.kd) = false := by simp [hkd]
          obtain ⟨n, hn⟩ : ∃ n, Hid (d.rs.length = n) := ⟨_, rfl⟩
          have hkd' := hid hkd
          rw [hn.out] at k2 hn3
          obtain ⟨W4, hW4⟩ : ∃ W4, wr.alloc (.cells #[.int .i64 d.of, .slice (some ⟨r, 0, none⟩) n n] 115) = W4 := ⟨_, rfl⟩
          have hb4 : Below wr.heap.size wr W4 := by rw [← hW4]; exact below1 _ _
          have J4 := hid (show W4.heap[wr.heap.size]? = some (.cells #[.int .i64 d.of, .slice (some ⟨r, 0, none⟩) n n] 115 (0, 0)) by rw [← hW4]; exact new_at _ _ _ rfl)
          have HW4 := hid hW4
          clear hW4 hkd
          go_upto_region 7 with fail
          rw [HW4.out]
          have m0 : W4.cell? ⟨w.heap.size, 0, none⟩ = some (.int .i64 c.kd) := cell_below hb4 n0
          have HK4 := hid (HK.out.later hb4)
          have HC4 := hid (var_on hb4 HC.out hlc)
          have HT4 := hid (HT.out.later hb4)
          have HR4 := hid (HR.out.later hb4)
          have hB4 := below_on hb hb4
          obtain ⟨kb, hkb⟩ : ∃ kb, wr.heap.size = kb := ⟨_, rfl⟩
          rw [hkb] at J4 ⊢
          clear HW4 k1 k2 n0 HK HC HT HR hb hb4 hlc hkb
          clear wr
          have c4 := cells_at J4.out
          obtain ⟨F, hF⟩ : ∃ F, Hid (firstR L c d.rs = F) := ⟨_, rfl⟩
          have hF0 : Hid (firstR L c (d.rs.drop 0) = F) := hF
          go_wp2_with fail
          clear c4 J4 m0
          go_loopw [5, 27] (fun e5 i wr => ∃ j : Nat, j ≤ n ∧ e5 = .int .i64 0 ∧ i = .int .i64 (j : Nat) ∧ Hid (firstR L c (d.rs.drop j) = F) ∧ Hid (RAt wr r d.rs) ∧ Hid (KAt wr b r1 r2 r3 r4) ∧ Hid (wr.heap[w.heap.size]? = some c.o) ∧ Hid (TK W0 wr tb L K) ∧ Below w.heap.size w wr) (fun _ i _ => n - (intOf i).toNat)
          case atStart => exact ⟨0, by omega, rfl, rfl, hF0, HR4, HK4, HC4, HT4, hB4⟩
          case round =>
            obtain ⟨j, hj, rfl, rfl, hf, HR, HK, HC, HT, hb⟩ := hrel
            clear hF0 HR4 HK4 HC4 HT4 hB4
            by_cases hjn : j < n
            · have hjn' : (j : Int) < (n : Int) := by omega
              obtain ⟨s, hs⟩ : ∃ s, d.rs[j]? = some s := ⟨d.rs[j]'(by rw [hn.out]; exact hjn), by simp⟩
              obtain ⟨s1, s2, s3⟩ := HR.out j s hs
              have HS := hid hs
              obtain ⟨fn, hfn⟩ : ∃ fn, Hid (rsF s.r = fn) := ⟨_, rfl⟩
              rw [hfn.out] at s2
              have hlc := lt_of_at HC.out
              obtain ⟨W5, hW5⟩ : ∃ W5, wr.alloc (.cells #[.int .i64 s.e, fnV fn] 118) = W5 := ⟨_, rfl⟩
              have hb5 : Below wr.heap.size wr W5 := by rw [← hW5]; exact below1 _ _
              have J5 := hid (show W5.heap[wr.heap.size]? = some (.cells #[.int .i64 s.e, fnV fn] 118 (0, 0)) by rw [← hW5]; exact new_at _ _ _ rfl)
              have HW5 := hid hW5
              clear hW5 hs
              go_upto_region 12 with fail
              rw [HW5.out]
              have HK5 := hid (HK.out.later hb5)
              have HC5 := hid (var_on hb5 HC.out hlc)
              have HT5 := hid (HT.out.later hb5)
              have HR5 := hid (HR.out.later hb5)
              have hB5 := below_on hb hb5
              obtain ⟨rb, hrb⟩ : ∃ rb, wr.heap.size = rb := ⟨_, rfl⟩
              rw [hrb] at J5 ⊢
              clear HW5 s1 s2 HK HC HT HR hb hb5 hlc hrb
              clear wr
              have c5 := cells_at J5.out
              obtain ⟨p, hp⟩ : ∃ p, Hid (rsB L c s.r = p) := ⟨_, rfl⟩
              have hcf := call_rsF s3 hfn
              go_wp2_with (with_reducible refine wpList_load_cm rfl (.tmp 3) rfl rfl HC5.out ?_)
              refine (ac_reason HT5.out hi.out s3 hfn hp).mono ?_
              rintro y w6 ⟨rfl, hb6⟩
              have HK6 := hid (HK5.out.later hb6)
              have HC6 := hid (var_on hb6 HC5.out (lt_of_at HC5.out))
              have HT6 := hid (HT5.out.later hb6)
              have HR6 := hid (HR5.out.later hb6)
              have J6 := hid (var_on hb6 J5.out (lt_of_at J5.out))
              have hB6 := below_on hB5 hb6
              clear hcf c5 J5 HK5 HC5 HT5 HR5 hb6 hB5
              cases p
              · go_wp2_with fail
                go_roundw
                case rel => exact ⟨j + 1, by omega, rfl, by go_num, (firstR_no HS.out hp.out).symm.trans hf.out, HR6, HK6, HC6, HT6, hB6⟩
                case measure => simp [intOf]; omega
              · have hF2 : F = some s.e := hf.out.symm.trans (firstR_yes HS.out hp.out)
                have hx2 : x = s.e := by rw [← hz.out]; exact chkK_hit HD.out hkd'.out (hF.out.trans hF2)
                subst hx2
                have c6 := cells_at J6.out
                clear hF2
                go_wp2_with fail
                try rw [Exit.noGoto_ret]
                go_ret
                exact ⟨rfl, hB6⟩
            · obtain rfl : j = n := by omega
              have hjn' : ¬ (j : Int) < (j : Int) := by omega
              have hF2 : F = none := by
                rw [← hf.out, List.drop_of_length_le (by rw [hn.out]; omega)]; rfl
              have hz2 : Hid (chkK L c (kinL.drop (k + 1)) 0 = x) := (chkK_miss HD.out hkd'.out (hF.out.trans hF2)).symm.trans hz.out
              clear hF2
              go_wp2_with fail
              go_roundw
              case rel => exact ⟨k + 1, 0, by omega, rfl, by go_num, hz2, HK, HC, HT, hb⟩
              case measure => simp [intOf]; omega
        · have hne : ((d.of : Int) != c.kd) = true := by simp [hkd]
          have hz2 : Hid (chkK L c (kinL.drop (k + 1)) z = x) := (chkK_skip HD.out hkd).symm.trans hz.out
          have hb4 := fun o => below1 wr o
          have HC4 := fun o => old_at HC.out o
          go_wp2_with fail
          go_roundw
          case rel => exact ⟨k + 1, z, by omega, rfl, by go_num, hz2, HK.out.later (hb4 _), HC4 _, HT.out.later (hb4 _), below_on hb (hb4 _)⟩
          case measure => simp [intOf]; omega
      · obtain rfl : k = 4 := by omega
        have hlt' : ¬ ((4 : Nat) : Int) < (4 : Int) := by omega
        have hx2 : z = x := hz.out
        subst hx2
        go_wp2_with fail
        try rw [Exit.noGoto_ret]
        go_ret
        exact ⟨rfl, hb⟩
end Go.Proofs.YtfoncphdbaaedaaGreatDoor
