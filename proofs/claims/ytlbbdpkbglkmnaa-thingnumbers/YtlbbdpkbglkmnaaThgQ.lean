/- Contract of the reference's Some. -/
import Derived.Test.YtlbbdpkbglkmnaaThgM
namespace Go.Proofs.Ytlbbdpkbglkmnaa
open Go.RowKit
set_option linter.unusedVariables false
set_option maxHeartbeats 2000000 in
set_option maxRecDepth 100000 in
theorem ref_some {s : ByteArray} {L : List Th} {z e : Nat} (h : Hid (someL s.data.toList = (L, z, e))) (hs : s.size ≤ 1000000) (w : World) :
    Calls Try.prog 27 #[.string s] w (RowsOf w L z e) := by
  obtain ⟨i0, hi, hz0, hz1, hz2⟩ := info_parts Try.infoT
  rcases hg : get s.data.toList with ⟨n, z0, x⟩
  obtain ⟨a1, a2, a3, a4, a5⟩ := get_ok hg
  have a2 : z0 ≤ s.size := a2
  have HG := hid hg
  clear hg a4 a5
  have e1 := h.out
  clear h
  by_cases hx : x = 0
  · subst hx
    by_cases hn : 200 < n
    · rw [someT_2 HG.out hn] at e1
      simp only [Prod.mk.injEq] at e1
      obtain ⟨rfl, rfl, rfl⟩ := e1
      have hn' : (200 : Int) < (n : Int) := by omega
      go_enter Try.func27, Try.ntmps27
      go_wp2_with fail
      refine (ref_get_eq HG (by unfold maxLen; omega) _).mono ?_
      rintro y w1 ⟨rfl, h1⟩
      rw [h1]
      clear h1 w1
      go_wp2_with fail
      exact bodyPost_ret (v := .tuple #[.slice none 0 0, .int .i64 0, .int .i64 13]) (by simp [results, Try.results27, go_sem]) rfl ⟨_, rfl, World.ownsRow_nil _ _ _ _, Below.refl _ _⟩
    · have hn' : (n : Int) ≤ 200 := by omega
      have hn2 : n ≤ 200 := by omega
      have E1 := hid e1
      clear e1 hn
      go_enter Try.func27, Try.ntmps27
      go_wp2_with fail
      refine (ref_get_eq HG (by unfold maxLen; omega) _).mono ?_
      rintro y w1 ⟨rfl, h1⟩
      rw [h1]
      clear h1 w1
      go_wp2_with fail
      go_loopw [6, 8, 9] (fun zv v c wr => ∃ (k zN : Nat) (M : List Th), k ≤ n ∧ c = .int .i64 k ∧ zv = .int .i64 zN ∧ runS s.data.toList z0 k = (M, zN, 0) ∧ M.length = k ∧ wr.ownsRow w.heap.size 28 11 v k (flatT M) ∧ zN ≤ s.size ∧ Below w.heap.size w wr) (fun _ _ c _ => n - (intOf c).toNat)
      case atStart => exact ⟨0, z0, [], by omega, rfl, rfl, rfl, rfl, World.ownsRow_nil _ _ _ _, a2, Below.refl _ _⟩
      case round =>
        obtain ⟨k, zN, M, hk, rfl, rfl, hS, hM, ho, hzs, hb⟩ := hrel
        have HS := hid hS
        have HM := hid hM
        clear hS hM
        obtain ⟨p, cap, rfl⟩ := owns_slice ho
        by_cases hlt : k < n
        · have hlt' : (k : Int) < (n : Int) := by omega
          rcases hr : readT (s.data.toList.drop zN) with ⟨t, m, e2⟩
          obtain ⟨r1, r2, r3, r4, r5, r6, r7, r8, r9⟩ := readT_fits hr
          have r1 : m ≤ s.size - zN := by have := r1; rw [List.length_drop] at this; exact this
          have HR := hid hr
          clear hr r2 r3 r4 r5 r6 r7 r8 r9
          by_cases he : e2 = 0
          · subst he
            obtain ⟨q, hq⟩ : ∃ q, Hid (risesB M t = q) := ⟨_, rfl⟩
            have hkm : Hid (k = M.length) := HM.out.symm
            have hkx : k ≤ maxLen := by unfold maxLen; omega
            go_wp2_with fail
            refine (refreadcut_at HR hs _).mono ?_
            rintro y w2 ⟨rfl, hb2⟩
            have ho2 := (owns_on ho hb2).alloc t.o
            have hB2 := below_on hb hb2
            have hs2 := hB2.size
            have hB3 := hB2.alloc hs2 t.o
            have K3 : Hid ((w2.alloc t.o).heap[w2.heap.size]? = some t.o) := new_at _ _ _ rfl
            clear ho hb hb2 hB2
            have ct := grown_cells K3.out
            have hfin : ∀ d os, Hid (Below w.heap.size w (Sort.grow (redrawn (w2.alloc t.o) d) os)) := fun d os => below_on hB3 (below_regrown _ d os)
            have hown4 : ∀ d os, Hid ((Sort.grow (redrawn (w2.alloc t.o) d) os).ownsRow w.heap.size 28 11 (.slice p k cap) k (flatT M)) := fun d os => owns_on ho2 (below_regrown _ d os)
            have M4 : ∀ d os, Hid ((Sort.grow (redrawn (w2.alloc t.o) d) os).heap[w2.heap.size]? = some t.o) := fun d os => var_on (below_regrown _ d os) K3.out (at_lt K3.out)
            have hrow := hid (row_own ho2 HM.out.symm)
            clear ho2 hB3
            unfold Th.o at hfin hown4 M4
            have hnext : Hid (q = true → runS s.data.toList z0 (k + 1) = (M ++ [t], zN + m, 0)) := fun h => someS_next HS.out HR.out (hq.out.trans h)
            have hdown : Hid (q = false → someL s.data.toList = ([], 0, 11)) := fun h => someT_down HG.out hn2 hlt HS.out HR.out (hq.out.trans h)
            clear HS HR
            cases k with
            | zero =>
              have hqq : q = true := by
                have hM0 : M = [] := List.length_eq_zero_iff.1 HM.out
                rw [← hq.out, hM0]; rfl
              subst hqq
              clear hrow
              go_wp2_with fail
              refine wp_region_quiet_below (by kernel_rfl) (by kernel_rfl) ?_
              repeat (first | go_big_quiet_skip | (go_big_quiet_want; go_big_quiet_op; first | go_big_quiet_on | go_big_quiet_call (fail)))
              refine wpQuiet_nil ?_
              intro _ hw'
              obtain ⟨⟨dq, osq⟩, hw''⟩ := hw'
              subst hw''
              have hB4 := (hfin dq osq).out
              have ho4 := (hown4 dq osq).out
              have K4 := M4 dq osq
              obtain ⟨W8, hW8⟩ : ∃ W8, Sort.grow (redrawn (w2.alloc t.o) dq) osq = W8 := ⟨_, rfl⟩
              unfold Th.o at hW8
              rw [hW8] at hB4 ho4 K4 ⊢
              clear hW8 hfin hown4 M4 ct
              have c4 := cells_at K4.out
              have l4 := at_lt K4.out
              have hs4 := hB4.size
              go_wp2_with (at_builtin; refine wpList_append_lies _ rfl _ _ 29 rfl w.heap.size 28 i0 zT.v 11 120 Try.underlying29 hi hz0 hz1 hz2 rfl (by decide) _ _ _ rfl (ho4.alloc _) ⟨W8.heap.size, 0, none⟩ 1 1 t.cs rfl rfl (World.news_of_block (heap_alloc_new _ _)) (cs_one t) (by decide) (by unfold maxLen; omega) (by omega) (by simp; omega) (W8.heap.size + 1) (by simp) ?_)
              intro g cap' w5 hown hgrow hat hg5
              go_wp2_with fail
              go_roundw
              case rel =>
                refine ⟨0 + 1, zN + m, M ++ [t], by omega, by go_num, by go_num, hnext.out (by trivial), by rw [List.length_append, HM.out]; rfl, ?_, by omega, ?_⟩
                · rw [flatT_append, flatT_one]; exact hown
                · exact (hB4.alloc hs4 _).grown hgrow (by simp; omega) (fun k hk => (ho4.lt k hk).1)
              case measure => simp [intOf]; omega
            | succ j =>
              obtain ⟨u, hu⟩ := get_th M j (by rw [HM.out]; omega)
              obtain ⟨b, off, rfl, _⟩ := hrow.out.at hu
              have cu := fun d os => (hrow.out.grown hu d os).1
              have hqq : q = decide (u.id < t.id) := by rw [← hq.out, risesB_one HM.out hu]
              clear hu hrow
              have hj0 : (0 : Int) < (j : Int) + 1 := by omega
              have hj1 : (0 : Int) ≤ (j : Int) := by omega
              unfold Th.o at cu
              by_cases hut : u.id < t.id
              · have hut' : ¬ t.id ≤ u.id := by omega
                rw [decide_eq_true hut] at hqq
                subst hqq
                go_wp2_with fail
                refine wp_region_quiet_below (by kernel_rfl) (by kernel_rfl) ?_
                repeat (first | go_big_quiet_skip | (go_big_quiet_want; go_big_quiet_op; first | go_big_quiet_on | go_big_quiet_call (fail)))
                refine wpQuiet_nil ?_
                intro _ hw'
                obtain ⟨⟨dq, osq⟩, hw''⟩ := hw'
                subst hw''
                have hB4 := (hfin dq osq).out
                have ho4 := (hown4 dq osq).out
                have K4 := M4 dq osq
                obtain ⟨W8, hW8⟩ : ∃ W8, Sort.grow (redrawn (w2.alloc t.o) dq) osq = W8 := ⟨_, rfl⟩
                unfold Th.o at hW8
                rw [hW8] at hB4 ho4 K4 ⊢
                clear cu hW8 hfin hown4 M4 ct
                have c4 := cells_at K4.out
                have l4 := at_lt K4.out
                have hs4 := hB4.size
                go_wp2_with (at_builtin; refine wpList_append_lies _ rfl _ _ 29 rfl w.heap.size 28 i0 zT.v 11 120 Try.underlying29 hi hz0 hz1 hz2 rfl (by decide) _ _ _ rfl (ho4.alloc _) ⟨W8.heap.size, 0, none⟩ 1 1 t.cs rfl rfl (World.news_of_block (heap_alloc_new _ _)) (cs_one t) (by decide) (by unfold maxLen; omega) (by omega) (by simp; omega) (W8.heap.size + 1) (by simp) ?_)
                intro g cap' w5 hown hgrow hat hg5
                go_wp2_with fail
                go_roundw
                case rel =>
                  refine ⟨j + 1 + 1, zN + m, M ++ [t], by omega, by go_num, by go_num, hnext.out (by trivial), by rw [List.length_append, HM.out]; rfl, ?_, by omega, ?_⟩
                  · rw [flatT_append, flatT_one]; exact hown
                  · exact (hB4.alloc hs4 _).grown hgrow (by simp; omega) (fun k hk => (ho4.lt k hk).1)
                case measure => simp [intOf]; omega
              · have hut' : t.id ≤ u.id := by omega
                rw [decide_eq_false hut] at hqq
                subst hqq
                have e1 := E1.out
                rw [hdown.out rfl] at e1
                simp only [Prod.mk.injEq] at e1
                obtain ⟨rfl, rfl, rfl⟩ := e1
                clear E1
                go_wp2_with fail
                refine wp_region_quiet_below (by kernel_rfl) (by kernel_rfl) ?_
                repeat (first | go_big_quiet_skip | (go_big_quiet_want; go_big_quiet_op; first | go_big_quiet_on | go_big_quiet_call (fail)))
                refine wpQuiet_nil ?_
                intro _ hw'
                obtain ⟨⟨dq, osq⟩, hw''⟩ := hw'
                subst hw''
                have hB4 := (hfin dq osq).out
                have ho4 := (hown4 dq osq).out
                have K4 := M4 dq osq
                obtain ⟨W8, hW8⟩ : ∃ W8, Sort.grow (redrawn (w2.alloc t.o) dq) osq = W8 := ⟨_, rfl⟩
                unfold Th.o at hW8
                rw [hW8] at hB4 ho4 K4 ⊢
                clear cu hW8 hfin hown4 M4 ct
                have c4 := cells_at K4.out
                have l4 := at_lt K4.out
                have hs4 := hB4.size
                go_wp2_with fail
                exact bodyPost_ret (v := .tuple #[.slice none 0 0, .int .i64 0, .int .i64 11]) (by simp [results, Try.results27, go_sem]) rfl ⟨_, rfl, World.ownsRow_nil _ _ _ _, hB4⟩
          · have q1 : ((e2 : Int) != 0) = true := by simpa using he
            have e1 := E1.out
            rw [someT_bad HG.out hn2 hlt HS.out HR.out he] at e1
            simp only [Prod.mk.injEq] at e1
            obtain ⟨rfl, rfl, rfl⟩ := e1
            clear E1 he
            go_wp2_with fail
            refine (refreadcut_at HR hs _).mono ?_
            rintro y w2 ⟨rfl, hb2⟩
            have hB2 := below_on hb hb2
            have hs2 := hB2.size
            clear hb hb2
            go_wp2_with fail
            exact bodyPost_ret (v := .tuple #[.slice none 0 0, .int .i64 0, .int .i64 e2]) (by simp [results, Try.results27, go_sem]) rfl ⟨_, rfl, World.ownsRow_nil _ _ _ _, hB2.alloc hs2 _⟩
        · obtain rfl : k = n := by omega
          have e1 := E1.out
          rw [someT_3 HG.out hn2, HS.out] at e1
          simp only [Prod.mk.injEq] at e1
          obtain ⟨rfl, rfl, rfl⟩ := e1
          clear E1
          go_wp2_with fail
          exact bodyPost_ret (v := .tuple #[.slice p k cap, .int .i64 zN, .int .i64 0]) (by simp [results, Try.results27, go_sem]) rfl ⟨_, rfl, by rw [HM.out]; exact ho, hb⟩
  · have q1 : ((x : Int) != 0) = true := by simpa using hx
    rw [someT_1 HG.out hx] at e1
    simp only [Prod.mk.injEq] at e1
    obtain ⟨rfl, rfl, rfl⟩ := e1
    clear hx
    go_enter Try.func27, Try.ntmps27
    go_wp2_with fail
    refine (ref_get_eq HG (by unfold maxLen; omega) _).mono ?_
    rintro y w1 ⟨rfl, h1⟩
    rw [h1]
    clear h1 w1
    go_wp2_with fail
    exact bodyPost_ret (v := .tuple #[.slice none 0 0, .int .i64 0, .int .i64 x]) (by simp [results, Try.results27, go_sem]) rfl ⟨_, rfl, World.ownsRow_nil _ _ _ _, Below.refl _ _⟩
end Go.Proofs.Ytlbbdpkbglkmnaa
