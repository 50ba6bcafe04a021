/- Contracts of Fold, Apply of the package event: what events make of a row of things that rises, in memory of its own; nothing that was there is changed. Contract of Apply of the package event: what one event makes of a row of things that rises. -/
import Derived.Test.YtjdlcocncacmlaaEvG
import Derived.Test.YtjdlcocncacmlaaEvE
import Derived.Test.YtjdlcocncacmlaaSH
import Derived.Test.YtjdlcocncacmlaaXD
import Derived.Deep.Onto
import Derived.WalkMore
namespace Go.Proofs.Ytjdlcocncacmlaa
section
open Go.RowKit
set_option linter.unusedVariables false
theorem setT_at {W : World} {g b o : Nat} {x : Obj} (h : W.heap[b]? = some x) (hne : b ≠ g) (t : Th) : (((((((((((W.setCell ⟨g, o, none⟩ (.int .i64 t.id)).setCell ⟨g, o + 1, none⟩ (.int .i64 t.x)).setCell ⟨g, o + 2, none⟩ (.int .i64 t.y)).setCell ⟨g, o + 3, none⟩ (.int .i64 t.f0.n)).setCell ⟨g, o + 4, none⟩ (.string t.f0.s)).setCell ⟨g, o + 5, none⟩ (.int .i64 t.f1.n)).setCell ⟨g, o + 6, none⟩ (.string t.f1.s)).setCell ⟨g, o + 7, none⟩ (.int .i64 t.f2.n)).setCell ⟨g, o + 8, none⟩ (.string t.f2.s)).setCell ⟨g, o + 9, none⟩ (.int .i64 t.f3.n)).setCell ⟨g, o + 10, none⟩ (.string t.f3.s)).heap[b]? = some x := (set_off (set_off (set_off (set_off (set_off (set_off (set_off (set_off (set_off (set_off (set_off h hne _) hne _) hne _) hne _) hne _) hne _) hne _) hne _) hne _) hne _) hne _)
theorem setT_but {w W : World} {g o : Nat} (h : But g w W) (t : Th) : But g w (((((((((((W.setCell ⟨g, o, none⟩ (.int .i64 t.id)).setCell ⟨g, o + 1, none⟩ (.int .i64 t.x)).setCell ⟨g, o + 2, none⟩ (.int .i64 t.y)).setCell ⟨g, o + 3, none⟩ (.int .i64 t.f0.n)).setCell ⟨g, o + 4, none⟩ (.string t.f0.s)).setCell ⟨g, o + 5, none⟩ (.int .i64 t.f1.n)).setCell ⟨g, o + 6, none⟩ (.string t.f1.s)).setCell ⟨g, o + 7, none⟩ (.int .i64 t.f2.n)).setCell ⟨g, o + 8, none⟩ (.string t.f2.s)).setCell ⟨g, o + 9, none⟩ (.int .i64 t.f3.n)).setCell ⟨g, o + 10, none⟩ (.string t.f3.s)) := (((((((((((h.setCell _ _).setCell _ _).setCell _ _).setCell _ _).setCell _ _).setCell _ _).setCell _ _).setCell _ _).setCell _ _).setCell _ _).setCell _ _)
/-- a thing set in an owned row -/
theorem owns_setT {W : World} {base g n cap k : Nat} {A : List Th} {t : Th} (h : W.ownsRow base 40 11 (.slice (some ⟨g, 0, none⟩) n cap) n (flatT A)) (hn : A.length = n) (hk : k < n) :
    (W.setCells g (k * 11) t.cs).ownsRow base 40 11 (.slice (some ⟨g, 0, none⟩) n cap) n (flatT (A.set k t)) := by
  rcases h.2 with ⟨h1, h2⟩ | ⟨g', cap', cur, h1, h2, h3, h4, h5, h6, h7⟩
  · omega
  · simp only [Value.slice.injEq, Option.some.injEq, Addr.mk.injEq, and_true, true_and] at h1
    obtain ⟨rfl, rfl⟩ := h1
    obtain ⟨cur1, b1, b2⟩ := setCells_block g (e := 40) (fr := (0, 0)) t.cs (k * 11) W cur h3 (by rw [Th.z, h6]; omega)
    have hc0 : cur.toList.length = cap * 11 := by simpa using h6
    have hc1 : cur1.toList.length = cap * 11 := by
      rw [b2, List.length_append, List.length_append, List.length_take, List.length_drop, Th.z]; omega
    refine ⟨by rw [flatT_length, List.length_set, hn], .inr ⟨g, cap, cur1, rfl, h2, b1, h4, h5, by simpa using hc1, ?_⟩⟩
    have e0 : cur.toList = flatT A ++ cur.toList.drop (n * 11) := by rw [← h7, List.take_append_drop]
    have l1 : (flatT (A.take k)).length = k * 11 := by rw [flatT_length, List.length_take, hn]; omega
    have l2 : (flatT (A.drop (k + 1))).length = (n - (k + 1)) * 11 := by rw [flatT_length, List.length_drop, hn]
    have e1 : cur.toList.take (k * 11) = flatT (A.take k) := by
      rw [e0, List.take_append_of_le_length (by rw [flatT_length, hn]; omega), flatT_take]
    have e2 : cur.toList.drop (k * 11 + t.cs.length) = flatT (A.drop (k + 1)) ++ cur.toList.drop (n * 11) := by
      rw [Th.z, show k * 11 + 11 = (k + 1) * 11 by omega]
      rw [show cur.toList.drop ((k + 1) * 11) = (flatT A ++ cur.toList.drop (n * 11)).drop ((k + 1) * 11) by rw [← e0]]
      rw [List.drop_append_of_le_length (by rw [flatT_length, hn]; omega), flatT_drop]
    have e3 : flatT (A.set k t) = flatT (A.take k) ++ (t.cs ++ flatT (A.drop (k + 1))) := by
      rw [List.set_eq_take_append_cons_drop, if_pos (by omega), flatT_append]
      rfl
    have e4 : flatT (A.take k) ++ t.cs ++ (flatT (A.drop (k + 1)) ++ cur.toList.drop (n * 11)) = (flatT (A.take k) ++ (t.cs ++ flatT (A.drop (k + 1)))) ++ cur.toList.drop (n * 11) := by simp only [List.append_assoc]
    have e5 : (flatT (A.take k) ++ (t.cs ++ flatT (A.drop (k + 1)))).length = n * 11 := by rw [List.length_append, List.length_append, l1, l2, Th.z]; omega
    rw [b2, e1, e2, e3, e4, List.take_append_of_le_length (by omega), List.take_of_length_le (by omega)]
theorem owns_setT' {W : World} {base g n cap k : Nat} {A : List Th} {t : Th} (h : W.ownsRow base 40 11 (.slice (some ⟨g, 0, none⟩) n cap) n (flatT A)) (hn : A.length = n) (hk : k < n) :
    (((((((((((W.setCell ⟨g, k * 11, none⟩ (.int .i64 t.id)).setCell ⟨g, k * 11 + 1, none⟩ (.int .i64 t.x)).setCell ⟨g, k * 11 + 2, none⟩ (.int .i64 t.y)).setCell ⟨g, k * 11 + 3, none⟩ (.int .i64 t.f0.n)).setCell ⟨g, k * 11 + 4, none⟩ (.string t.f0.s)).setCell ⟨g, k * 11 + 5, none⟩ (.int .i64 t.f1.n)).setCell ⟨g, k * 11 + 6, none⟩ (.string t.f1.s)).setCell ⟨g, k * 11 + 7, none⟩ (.int .i64 t.f2.n)).setCell ⟨g, k * 11 + 8, none⟩ (.string t.f2.s)).setCell ⟨g, k * 11 + 9, none⟩ (.int .i64 t.f3.n)).setCell ⟨g, k * 11 + 10, none⟩ (.string t.f3.s)).ownsRow base 40 11 (.slice (some ⟨g, 0, none⟩) n cap) n (flatT (A.set k t)) := owns_setT h hn hk
theorem But.grown {w W : World} {g : Nat} (h : But g w W) : w.grownBy W (some g) := ⟨h.os, h.tape, h.output, h.size, fun k hk hne => h.block k hk (fun e => hne (by rw [e]))⟩
/-- what Fold answers -/
def FoldPost (w : World) (M : List Th) (m : Nat) (b : Bool) : Ending → World → Prop := fun x w' => ∃ p cap, x = .returned (.tuple #[.slice p m cap, .bool b]) ∧ w'.ownsRow w.heap.size 40 11 (.slice p m cap) m (flatT M) ∧ Below w.heap.size w w'
set_option maxRecDepth 100000 in
set_option maxHeartbeats 16000000 in
theorem event_fold {w : World} {p q : Option Addr} {cap cap' n m r : Nat} {L M : List Th} {es : List Ev} {b : Bool} (h : Hid (foE L es = (M, b))) (hr : RowT w p L) (hR : Rise L) (hn : Hid (L.length = n)) (hl : n ≤ 400) (hq : RowE w q es) (hm : Hid (es.length = m)) (hl' : m ≤ 400) (hi : ∀ e ∈ es, inE e) (hM : Hid (M.length = r)) :
    Calls Try.prog 18 #[.slice p n cap, .slice q m cap'] w (FoldPost w M r b) := by
  have HR := hid hr
  have HQ := hid hq
  have HCL := fun (W : World) (hb : Below w.heap.size w W) => clone_t (cap := cap) (hr.later hb) hn (by omega)
  have HI := hid hi
  have HRi := hid hR
  clear hr hq hi hR
  obtain ⟨Q, hQ0⟩ : ∃ Q, FoldPost w M r b = Q := ⟨_, rfl⟩
  rw [hQ0]
  have HP := hid hQ0
  clear hQ0
  go_enter Try.func18, Try.ntmps18
  go_wp2_with fail
  go_step3
  go_wp2_with fail
  refine (HCL w (Below.refl _ _)).mono ?_
  rintro x w1 ⟨v1, rfl, ho1, hb1⟩
  obtain ⟨p1, c1, rfl⟩ := owns_slice ho1
  go_wp2_with fail
  go_step3
  go_wp2_with fail
  go_loopw [6, 7, 16] (fun v ok c wr => ∃ (k na : Nat) (A : List Th), k ≤ m ∧ c = .int .i64 k ∧ ok = .bool true ∧ Hid (foE L es = foS L A (es.drop k)) ∧ Hid (Rise A) ∧ Hid (A.length = na) ∧ na ≤ n + k ∧ wr.ownsRow w.heap.size 40 11 v na (flatT A) ∧ Below w.heap.size w wr) (fun _ _ c _ => m - (intOf c).toNat)
  case atStart => exact ⟨0, n, L, by omega, rfl, rfl, hid (by rw [List.drop_zero]; rfl), HRi, hn, by omega, ho1, hb1⟩
  case round =>
    clear ho1 hb1
    obtain ⟨k, na, A, hk, rfl, rfl, HF, HA, HN, hna, ho, hb⟩ := hrel
    obtain ⟨pv, cv, rfl⟩ := owns_slice ho
    by_cases hlt : k < m
    · have hlt' : (k : Int) < (m : Int) := by omega
      obtain ⟨e, he⟩ := get_some es k (by rw [hm.out]; exact hlt)
      obtain ⟨bq, oq, rfl, hcc⟩ := (HQ.out.later hb).at he
      have HE := hid he
      have HG := hid hcc
      have hie := HI.out e (List.mem_of_getElem? he)
      clear he hcc
      have hs := hb.size
      obtain ⟨at_, hat⟩ : ∃ a, Hid (posT e.i A = a) := ⟨_, rfl⟩
      obtain ⟨th, hth⟩ : ∃ b, Hid (hasT e.i A = b) := ⟨_, rfl⟩
      obtain ⟨qi, hqi⟩ : ∃ b, Hid (isE e = b) := ⟨_, rfl⟩
      have hle : at_ ≤ na := by rw [← hat.out, ← HN.out]; exact posT_le _ _
      go_upto_region 5 with (first
        | with_reducible refine wpList_load_mid_ev rfl (.tmp 18) rfl rfl HG.out ?_
        | ((with_reducible refine wpList_store_ev (c := e) rfl (.tmp 9) (.tmp 19) rfl rfl rfl (new_zeroE _) ?_); intro W3 h3 b3 s3))
      have hB3r := b3.below (below1 wr _) (Nat.le_refl _)
      have hB3 := below_on hb hB3r
      have ho3 := owns_on ho hB3r
      obtain ⟨ge, hge⟩ : ∃ ge, Hid (wr.heap.size = ge) := ⟨_, rfl⟩
      rw [hge.out] at h3
      have hgw : w.heap.size ≤ ge := by rw [← hge.out]; exact hs
      have hog : Hid ((Value.slice pv na cv).ownBlock ≠ some ge) := fun e => by have := (ho.lt _ e).2; rw [hge.out] at this; omega
      have K3 := hid h3
      try rw [hge.out]
      clear HG hb ho b3 s3 h3 hB3r hs hge
      clear wr
      simp only [Act.put]
      have c3 := cells_at K3.out
      go_wp2_with fail
      refine (event_find (row_own ho3 HN.out.symm) HA.out HN (by omega) hat hth).mono ?_
      rintro x w4 ⟨rfl, hb4⟩
      have K4 := hid (var_on hb4 K3.out (lt_of_at K3.out))
      have ho4 := owns_on ho3 hb4
      have hB4 := below_on hB3 hb4
      clear c3 K3 ho3 hB3 hb4
      have IS := fun w => event_is hqi hie w
      go_wp2_with (with_reducible refine wpList_load_ev rfl (.tmp 9) rfl rfl K4.out ?_)
      refine (IS _).mono ?_
      rintro x w5 ⟨rfl, hb5⟩
      have K5 := hid (var_on hb5 K4.out (lt_of_at K4.out))
      have ho5 := owns_on ho4 hb5
      have hB5 := below_on hB4 hb5
      clear K4 ho4 hB4 hb5 IS
      cases qi
      · have hfin := HF.out.symm.trans h.out
        rw [foS_stop HE.out (doE_bad hqi.out)] at hfin
        simp only [Prod.mk.injEq] at hfin
        obtain ⟨rfl, rfl⟩ := hfin
        have hrn : r = n := hM.out.symm.trans hn.out
        subst hrn
        go_wp2_with fail
        refine (HCL w5 hB5).mono ?_
        rintro x w6 ⟨v6, rfl, ho6, hb6⟩
        obtain ⟨p6, c6, rfl⟩ := owns_slice ho6
        have HE6 := hid (show FoldPost w L r false (.returned (.tuple #[.slice p6 r c6, .bool false])) w6 from ⟨p6, c6, rfl, ho6.mono hB5.size, below_on hB5 hb6⟩)
        clear ho6 hb6 HCL ho5 hB5
        go_wp2_with fail
        rw [← HP.out]
        exact HE6.out
      · have c5 := cells_at K5.out
        rcases isE_kind hqi.out with k1 | k2 | k3
        · have e1 : (e.k == 1) = true := by simp [k1]
          cases th
          · have hd := doE_1 hqi.out k1 hth.out
            obtain ⟨t1, t2⟩ := is_enter hqi.out k1
            have hti : e.i = e.t.id := by rw [t2]
            have hF2 := hid (HF.out.trans (foS_step HE.out hd))
            have hA2 := hid (doE_rise HA.out hd)
            have hN2 := hid (show (witT e.t A).length = na + 1 by rw [wit_length0 (by rw [← hti]; exact hth.out), HN.out])
            have hins := hid (show insS A at_ e.t = witT e.t A by rw [← hat.out, hti]; exact insS_pos HA.out (by rw [← hti]; exact hth.out))
            have INS := fun (W : World) (vb : Nat) (ho : W.ownsRow w.heap.size 40 11 (.slice pv na cv) na (flatT A)) (hv : W.heap[vb]? = some e.t.o) (hne : (Value.slice pv na cv).ownBlock ≠ some vb) (hb : w.heap.size ≤ W.heap.size) => insert_at (i := at_) (vb := vb) (by rw [HN.out]; exact ho) (by rw [HN.out]; omega) (by rw [HN.out]; exact hle) hv hne hb
            clear hd t1 t2 k1 hie
            go_wp2_with fail
            refine (INS _ w5.heap.size (ho5.alloc _) (heap_alloc_new _ _) (fun e => by have := (ho5.lt _ e).2; omega) (by simp; have := hB5.size; omega)).mono ?_
            rintro x w6 ⟨g6, cap6, rfl, ho6, hgr6, -⟩
            rw [HN.out, hins.out] at ho6
            rw [HN.out]
            have hB6 : Below w.heap.size w w6 := (hB5.alloc hB5.size _).grown hgr6 (by simp; have := hB5.size; omega) (fun k hk => (ho5.lt k hk).1)
            clear INS hgr6 c5
            go_wp2_with fail
            go_roundw
            case rel => exact ⟨k + 1, na + 1, witT e.t A, by omega, by go_num, rfl, hF2, hA2, hN2, by omega, ho6, hB6⟩
            case measure => simp [intOf]; omega
          · have hfin := HF.out.symm.trans h.out
            rw [foS_stop HE.out (doE_no (by rw [hth.out, k1]; rfl))] at hfin
            simp only [Prod.mk.injEq] at hfin
            obtain ⟨rfl, rfl⟩ := hfin
            have hrn : r = n := hM.out.symm.trans hn.out
            subst hrn
            clear k1
            go_wp2_with fail
            refine (HCL w5 hB5).mono ?_
            rintro x w6 ⟨v6, rfl, ho6, hb6⟩
            obtain ⟨p6, c6, rfl⟩ := owns_slice ho6
            have HE6 := hid (show FoldPost w L r false (.returned (.tuple #[.slice p6 r c6, .bool false])) w6 from ⟨p6, c6, rfl, ho6.mono hB5.size, below_on hB5 hb6⟩)
            clear ho6 hb6 HCL ho5 hB5
            go_wp2_with fail
            rw [← HP.out]
            exact HE6.out
        · have e1 : (e.k == 1) = false := by simp [k2]
          have e2 : (e.k == 2) = true := by simp [k2]
          cases th
          · have hfin := HF.out.symm.trans h.out
            rw [foS_stop HE.out (doE_no (by rw [hth.out, k2]; rfl))] at hfin
            simp only [Prod.mk.injEq] at hfin
            obtain ⟨rfl, rfl⟩ := hfin
            have hrn : r = n := hM.out.symm.trans hn.out
            subst hrn
            clear k2
            go_wp2_with fail
            refine (HCL w5 hB5).mono ?_
            rintro x w6 ⟨v6, rfl, ho6, hb6⟩
            obtain ⟨p6, c6, rfl⟩ := owns_slice ho6
            have HE6 := hid (show FoldPost w L r false (.returned (.tuple #[.slice p6 r c6, .bool false])) w6 from ⟨p6, c6, rfl, ho6.mono hB5.size, below_on hB5 hb6⟩)
            clear ho6 hb6 HCL ho5 hB5
            go_wp2_with fail
            rw [← HP.out]
            exact HE6.out
          · have hd := doE_2 hqi.out k2 hth.out
            obtain ⟨x1, x2, x3⟩ := atT_at HA.out hth.out
            rw [hat.out] at x1
            have hlt5 : at_ < na := by rw [← HN.out]; exact (List.getElem?_eq_some_iff.1 x1).1
            obtain ⟨t, ht⟩ : ∃ t, Hid (atT e.i A = t) := ⟨_, rfl⟩
            obtain ⟨u, hu⟩ : ∃ u, Hid (apply t e.d = u) := ⟨_, rfl⟩
            rw [ht.out] at x1 x2
            have hui := hid (show u.id = e.i by rw [← hu.out, apply_id, x2])
            rw [ht.out, hu.out] at hd
            have hF2 := hid (HF.out.trans (foS_step HE.out hd))
            have hA2 := hid (doE_rise HA.out hd)
            have hset := hid (show A.set at_ u = witT u A by rw [← hat.out, ← hui.out]; exact set_pos HA.out (by rw [hui.out]; exact hth.out))
            have hN2 := hid (show (witT u A).length = na by rw [← hset.out, List.length_set, HN.out])
            have AP := fun w => (by have := fields_apply w t e.d hie.2.1; rw [hu.out] at this; exact this : Calls Try.prog 31 #[t.v, e.d.v] w fun x w' => x = .returned u.v ∧ Below w.heap.size w w')
            obtain ⟨gv, rfl, hgv1, hgv2, -, -⟩ := owns_some ho5 (by omega)
            obtain ⟨gx, ox, hpx, hcx⟩ := (row_own ho5 HN.out.symm).at x1
            simp only [Option.some.injEq, Addr.mk.injEq, and_true] at hpx
            obtain ⟨rfl, rfl⟩ := hpx
            rw [Nat.zero_add] at hcx
            have hne : ge ≠ gv := fun e => hog.out (by rw [e]; rfl)
            have HX := hid x1
            clear hd x1 x2 x3 k2 hie
            have j1 : (at_ : Int) < (na : Int) := by omega
            go_upto_region 12 with fail
            refine wp_region_held_drew (S := fun w' => w'.heap[ge]? = some e.o) (by kernel_rfl) K5.out (fun hHeld => ?_)
            refine take_yes (i := 0) (v := ?v0b) rfl (by kernel_rfl) (by kernel_rfl) (by kernel_rfl) (fun _ _ _ h => h) (by rfl) ?hy0b hHeld ?rest0b
            case hy0b =>
              intro w' hSw
              have c9 := cells_at hSw
              go_simp <;> with_reducible rfl
            try simp only [Act.put, List.setIfInBounds_toArray, List.set_cons_zero, List.set_cons_succ]
            refine take_yes (i := 1) (v := ?v1b) rfl (by kernel_rfl) (by kernel_rfl) (by kernel_rfl) (fun _ _ _ h => h) (by rfl) ?hy1b hHeld ?rest1b
            case hy1b =>
              intro w' hSw
              have c9 := cells_at hSw
              go_simp <;> with_reducible rfl
            try simp only [Act.put, List.setIfInBounds_toArray, List.set_cons_zero, List.set_cons_succ]
            refine take_yes (i := 2) (v := ?v2b) rfl (by kernel_rfl) (by kernel_rfl) (by kernel_rfl) (fun _ _ _ h => h) (by rfl) ?hy2b hHeld ?rest2b
            case hy2b =>
              intro w' hSw
              have c9 := cells_at hSw
              go_simp <;> with_reducible rfl
            try simp only [Act.put, List.setIfInBounds_toArray, List.set_cons_zero, List.set_cons_succ]
            refine take_yes (i := 3) (v := ?v3b) rfl (by kernel_rfl) (by kernel_rfl) (by kernel_rfl) (fun _ _ _ h => h) (by rfl) ?hy3b hHeld ?rest3b
            case hy3b =>
              intro w' hSw
              have c9 := cells_at hSw
              go_simp <;> with_reducible rfl
            try simp only [Act.put, List.setIfInBounds_toArray, List.set_cons_zero, List.set_cons_succ]
            refine take_yes (i := 4) (v := ?v4b) rfl (by kernel_rfl) (by kernel_rfl) (by kernel_rfl) (fun _ _ _ h => h) (by rfl) ?hy4b hHeld ?rest4b
            case hy4b =>
              intro w' hSw
              have c9 := cells_at hSw
              go_simp <;> with_reducible rfl
            try simp only [Act.put, List.setIfInBounds_toArray, List.set_cons_zero, List.set_cons_succ]
            refine take_yes (i := 6) (v := ?v6b) rfl (by kernel_rfl) (by kernel_rfl) (by kernel_rfl) (fun _ _ _ h => h) (by rfl) ?hy6b hHeld ?rest6b
            case hy6b =>
              intro w' hSw
              have c9 := cells_at hSw
              go_simp <;> with_reducible rfl
            try simp only [Act.put, List.setIfInBounds_toArray, List.set_cons_zero, List.set_cons_succ]
            refine take_yes (i := 7) (v := ?v7b) rfl (by kernel_rfl) (by kernel_rfl) (by kernel_rfl) (fun _ _ _ h => h) (by rfl) ?hy7b hHeld ?rest7b
            case hy7b =>
              intro w' hSw
              have c9 := cells_at hSw
              go_simp <;> with_reducible rfl
            try simp only [Act.put, List.setIfInBounds_toArray, List.set_cons_zero, List.set_cons_succ]
            refine wpAnyH_ready (rs := [5]) (by kernel_rfl) (by simp) (cons_at (i := 5) rfl (fun K5b hK5b => ?_) AllReadyH.nil)
            go_simp
            refine hK5b.out _ _ hHeld (fun hHeld => ?_)
            clear hK5b K5b
            try simp only [Act.put, List.setIfInBounds_toArray, List.set_cons_zero, List.set_cons_succ]
            refine wpAnyH_ready (rs := [8]) (by kernel_rfl) (by simp) (cons_at (i := 8) rfl (fun K8b hK8b => ?_) AllReadyH.nil)
            go_simp
            go_at_call 31
            with_reducible refine (AP _).mono ?_
            rintro x W6 ⟨rfl, hb6'⟩
            have hb6 : Below w5.heap.size w5 W6 := below_on (Below.refl _ _).drew hb6'
            have ho6 := owns_on ho5 hb6
            have K6 := hid (var_on hb6 K5.out (lt_of_at K5.out))
            have hB6 := below_on hB5 hb6
            have f6 : ∀ j, W6.frozen? ⟨gv, j, none⟩ = false := fun j => ho6.frozenAt j
            have c6 : cellsT W6 gv (at_ * 11) t := cellsT_later hcx hb6
            clear hb6' hHeld
            go_wp2_with fail
            refine hK8b.out _ _ K6.out (fun hHeld => ?_)
            clear hK8b K8b
            try simp only [Act.put, List.setIfInBounds_toArray, List.set_cons_zero, List.set_cons_succ]
            refine take_yes (i := 9) (v := ?v9b) rfl (by kernel_rfl) (by kernel_rfl) (by kernel_rfl) (fun _ _ _ h => h) (by rfl) ?hy9b hHeld ?rest9b
            case hy9b =>
              intro w' hSw
              have c9 := cells_at hSw
              go_simp <;> with_reducible rfl
            try simp only [Act.put, List.setIfInBounds_toArray, List.set_cons_zero, List.set_cons_succ]
            refine wpAnyH_ready (rs := [10]) (by kernel_rfl) (by simp) (cons_at (i := 10) rfl (fun K10b hK10b => ?_) AllReadyH.nil)
            go_simp
            refine hK10b.out _ _ (by with_reducible exact setT_at K6.out hne u) (fun hHeld => ?_)
            clear hK10b K10b
            try simp only [Act.put, List.setIfInBounds_toArray, List.set_cons_zero, List.set_cons_succ]
            refine wpAnyH_done (by kernel_rfl) ?_ _
            have ho7 := hid (owns_setT' (t := u) ho6 HN.out hlt5)
            have hB7 := hid (But.below hB6 (setT_but (o := at_ * 11) (But.refl gv W6) u) hgv1)
            go_wp2_with fail
            go_roundw
            case rel => exact ⟨k + 1, na, witT u A, by omega, by go_num, rfl, hF2, hA2, hN2, by omega, by rw [← hset.out]; with_reducible exact ho7.out, by with_reducible exact hB7.out⟩
            case measure => simp [intOf]; omega
        · have e1 : (e.k == 1) = false := by simp [k3]
          have e2 : (e.k == 2) = false := by simp [k3]
          have e3 : (e.k == 3) = true := by simp [k3]
          cases th
          · have hfin := HF.out.symm.trans h.out
            rw [foS_stop HE.out (doE_no (by rw [hth.out, k3]; rfl))] at hfin
            simp only [Prod.mk.injEq] at hfin
            obtain ⟨rfl, rfl⟩ := hfin
            have hrn : r = n := hM.out.symm.trans hn.out
            subst hrn
            clear k3
            go_wp2_with fail
            refine (HCL w5 hB5).mono ?_
            rintro x w6 ⟨v6, rfl, ho6, hb6⟩
            obtain ⟨p6, c6, rfl⟩ := owns_slice ho6
            have HE6 := hid (show FoldPost w L r false (.returned (.tuple #[.slice p6 r c6, .bool false])) w6 from ⟨p6, c6, rfl, ho6.mono hB5.size, below_on hB5 hb6⟩)
            clear ho6 hb6 HCL ho5 hB5
            go_wp2_with fail
            rw [← HP.out]
            exact HE6.out
          · have hd := doE_3 hqi.out k3 hth.out
            obtain ⟨x1, x2, x3⟩ := atT_at HA.out hth.out
            rw [hat.out] at x1
            have hlt5 : at_ < na := by rw [← HN.out]; exact (List.getElem?_eq_some_iff.1 x1).1
            have hF2 := hid (HF.out.trans (foS_step HE.out hd))
            have hA2 := hid (doE_rise HA.out hd)
            have hdel := hid (show delS A at_ = outT e.i A by rw [← hat.out]; exact delS_pos HA.out hth.out)
            have hN2 := hid (show (outT e.i A).length = na - 1 by rw [← hdel.out, delS_length (by rw [HN.out]; exact hlt5), HN.out])
            have DEL := delete_at (i := at_) (by rw [HN.out]; exact ho5) (by rw [HN.out]; omega) (by rw [HN.out]; exact hlt5)
            clear hd x1 x2 x3 k3 hie
            go_wp2_with fail
            refine DEL.mono ?_
            rintro x w6 ⟨v6, rfl, ho6, hgr6, hob6⟩
            rw [hdel.out, hN2.out] at ho6
            have hB6 : Below w.heap.size w w6 := hB5.grown hgr6 hB5.size (fun k hk => (ho5.lt k hk).1)
            obtain ⟨p6, c6, rfl⟩ := owns_slice ho6
            clear DEL hgr6 c5
            go_wp2_with fail
            go_roundw
            case rel => exact ⟨k + 1, na - 1, outT e.i A, by omega, by go_num, rfl, hF2, hA2, hN2, by omega, ho6, hB6⟩
            case measure => simp [intOf]; omega
    · obtain rfl : k = m := by omega
      have hlt' : ¬ (k : Int) < (k : Int) := by omega
      have hfin := HF.out.symm.trans h.out
      rw [foS_end (by rw [hm.out]; exact Nat.le_refl _)] at hfin
      simp only [Prod.mk.injEq] at hfin
      obtain ⟨rfl, rfl⟩ := hfin
      have hrn : r = na := hM.out.symm.trans HN.out
      subst hrn
      go_wp2_with fail
      rw [← HP.out]
      exact ⟨pv, cv, rfl, ho, hb⟩
end
section
open Go.RowKit
set_option linter.unusedVariables false
theorem rowE_one {W : World} {g : Nat} {e : Ev} (h : W.heap[g]? = some e.o) : RowE W (some ⟨g, 0, none⟩) [e] := by
  refine .inr ⟨g, 0, rfl, fun k t hk j v hv => ?_⟩
  cases k with
  | zero =>
    simp only [List.getElem?_cons_zero, Option.some.injEq] at hk
    subst hk
    have := World.news_of_block h j v (by simpa [Ev.cs] using hv)
    rw [Addr.add_lit] at this
    simpa using this
  | succ k => simp at hk
end
end Go.Proofs.Ytjdlcocncacmlaa
