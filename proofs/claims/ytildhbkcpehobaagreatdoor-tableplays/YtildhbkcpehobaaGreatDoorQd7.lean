/- Contract of In over this translation: the numbers of all that are found, rising; nothing that was there is changed. -/
import Derived.Test.YtildhbkcpehobaaGreatDoorQd6
import Derived.Test.YtildhbkcpehobaaGreatDoorShelf
import Derived.Sort.OwnSortedInts
import Derived.Deep.Onto
namespace Go.Proofs.YtildhbkcpehobaaGreatDoor
open Go.RowKit Go.Sort
set_option linter.unusedVariables false
def cI (n : Int) : List Value := [.int .i64 n]
theorem cI_z (n : Int) : (cI n).length = 1 := rfl
theorem flat_ints (l : List Int) : flatG cI l = l.map (Value.int .i64) := by
  induction l with
  | nil => rfl
  | cons a l ih => simp [flatG, cI] at ih ⊢; exact ih
def srt (l : List Int) : List Int := l.mergeSort fun x y => decide (x ≤ y)
theorem sort_own {w : World} {base : Nat} {v : Value} {zs : List Int} (h : w.ownsRow base 3 1 v zs.length (flatG cI zs)) (hl : zs.length < 4611686018427387904) :
    Calls Tryz.prog 53 #[v] w fun e w' => e = .returned (.tuple #[]) ∧ w'.ownsRow base 3 1 v (srt zs).length (flatG cI (srt zs)) ∧ w.grownBy w' v.ownBlock := by
  have hls : (srt zs).length = zs.length := List.length_mergeSort zs
  rw [hls]
  rcases h.2 with ⟨rfl, h2⟩ | ⟨g, cap, cur, rfl, h2, h3, h4, h5, h6, h7⟩
  · refine (Tryz.slices_Sort_int_none none 0 w).mono ?_
    rintro e w' ⟨rfl, rfl⟩
    have : zs = [] := List.length_eq_zero_iff.1 h2
    subst this
    have e : srt [] = [] := by simp [srt]
    rw [e]
    exact ⟨rfl, h, ⟨rfl, rfl, rfl, Nat.le_refl _, fun _ _ _ => rfl⟩⟩
  · have hH := holds_of_blockI (ss := zs) h3 (by rw [← flat_ints, ← h7, Nat.mul_one])
    refine (Tryz.slices_Sort_int g 0 cap zs w hH (lt_of_at h3) hl).mono ?_
    rintro e w' ⟨rfl, n, os, rfl⟩
    refine ⟨rfl, ?_, grownBy_sortedI _⟩
    rw [flat_ints]
    exact ownsRow_sortedI (ss := zs) hls h2 h3 h4 h5 h6
def inP (r : Rc) (p : Sp) : Bool := inB r (plX p.c) (plY p.c)
def idsOf (r : Rc) (l : List Sp) : List Int := (l.filter (inP r)).map Sp.id
def collect (S : List Sp) (r : Rc) (T : List Sq) : List Int := T.flatMap fun s => idsOf r (wth S s)
/-- what In tells -/
def inL (S : List Sp) (r : Rc) : List Int := srt (collect S r (lv S r ⟨0, 0⟩))
theorem collect_take {S : List Sp} {r : Rc} {T : List Sq} {k : Nat} {s : Sq} (h : T[k]? = some s) : collect S r (T.take (k + 1)) = collect S r (T.take k) ++ idsOf r (wth S s) := by
  rw [List.take_add_one, h]
  simp [collect]
theorem ids_yes {r : Rc} {l : List Sp} {j : Nat} {a : Sp} (h : l[j]? = some a) (hq : inP r a = true) : idsOf r (l.take (j + 1)) = idsOf r (l.take j) ++ [a.id] := by
  rw [List.take_add_one, h]
  simp [idsOf, hq]
theorem ids_no {r : Rc} {l : List Sp} {j : Nat} {a : Sp} (h : l[j]? = some a) (hq : inP r a = false) : idsOf r (l.take (j + 1)) = idsOf r (l.take j) := by
  rw [List.take_add_one, h]
  simp [idsOf, hq]
theorem ids_le (r : Rc) (l : List Sp) : (idsOf r l).length ≤ l.length := by
  unfold idsOf
  rw [List.length_map]
  exact List.length_filter_le _ _
theorem wth_le (S : List Sp) (s : Sq) : (wth S s).length ≤ S.length := by
  unfold wth
  rw [List.length_take, List.length_drop]; omega
theorem wth_mem {S : List Sp} {s : Sq} {a : Sp} (h : a ∈ wth S s) : a ∈ S := List.mem_of_mem_drop (List.mem_of_mem_take h)
theorem in_at {r0 r1 r2 r3 x y : Int} {q : Bool} (h : Hid (inB ⟨r0, r1, r2, r3⟩ x y = q)) (w : World) : Calls Tryz.prog 59 #[rc r0 r1 r2 r3, pt x y] w fun e w' => e = .returned (.bool q) ∧ Below w.heap.size w w' := by
  rw [← h.out]; exact geom_in w r0 r1 r2 r3 x y
theorem Tryz.info3 : (Tryz.prog.info? 3).map (fun i => (i.zero, i.size, i.bytes)) = some (some (.int .i64 0), 1, 8) := by kernel_rfl
set_option maxHeartbeats 4000000 in
theorem tree_in {w : World} {base tb : Nat} {v : Value} {S : List Sp} (h : Tr w base tb v S) (hl : S.length ≤ 1000) (hS : Rising S) (hM : Masks w) (hC : ∀ p ∈ S, p.c < 4294967296) (r0 r1 r2 r3 : Int) :
    Calls Tryz.prog 40 #[.pointer (some ⟨tb, 0, none⟩), rc r0 r1 r2 r3] w fun e w' => ∃ p cap, e = .returned (.slice p (inL S ⟨r0, r1, r2, r3⟩).length cap) ∧ w'.ownsRow w.heap.size 3 1 (.slice p (inL S ⟨r0, r1, r2, r3⟩).length cap) (inL S ⟨r0, r1, r2, r3⟩).length (flatG cI (inL S ⟨r0, r1, r2, r3⟩)) ∧ Below w.heap.size w w' := by
  obtain ⟨W0, hW0⟩ : ∃ W0, W0 = w.alloc (.cells #[.int .i64 r0, .int .i64 r1, .int .i64 r2, .int .i64 r3] 35) := ⟨_, rfl⟩
  have hB0 : Below w.heap.size w W0 := by rw [hW0]; exact below1 _ _
  have KR0 := hid (show W0.heap[w.heap.size]? = some (.cells #[.int .i64 r0, .int .i64 r1, .int .i64 r2, .int .i64 r3] 35 (0, 0)) by rw [hW0]; exact new_at _ _ _ rfl)
  have HM0 := hid (hM.below hB0)
  have HT0 := hid (h.later hB0)
  clear h hM
  have C1 := tree_leaves HT0.out (by omega) hS HM0.out r0 r1 r2 r3
  obtain ⟨r, hr⟩ : ∃ r : Rc, Hid (r = ⟨r0, r1, r2, r3⟩) := ⟨_, rfl⟩
  rw [← hr.out] at C1 ⊢
  obtain ⟨T, hT⟩ : ∃ T, Hid (lv S r ⟨0, 0⟩ = T) := ⟨_, rfl⟩
  obtain ⟨R, hR⟩ : ∃ R, Hid (inL S r = R) := ⟨_, rfl⟩
  rw [hR.out]
  rw [hT.out] at C1
  obtain ⟨i0, hi, hz0, hz1, hz2⟩ := info_parts3 Tryz.info3
  have cR := cells_at KR0.out
  go_enter Tryz.func40, Tryz.ntmps40
  go_wp2_with fail
  rw [← hW0]
  clear hW0 cR
  refine C1.mono ?_
  rintro x W1 ⟨p12, c12, rfl, hrow, hok, hlen, hb1⟩
  have hB1 := below_on hB0 hb1
  have KR := hid (var_on hb1 KR0.out (lt_of_at KR0.out))
  have HM := hid (HM0.out.below hb1)
  have HT := hid (HT0.out.later hb1)
  have HOK := hid hok
  have HROW := hid hrow
  clear KR0 HM0 HT0 hb1 hB0 C1 hok hrow W0
  obtain ⟨n, hn⟩ : ∃ n, Hid (T.length = n) := ⟨_, rfl⟩
  rw [hn.out] at hlen ⊢
  go_wp2_with fail
  go_loopw [14, 5] (fun s14 s5 wr => ∃ (k : Nat) (L : List Int), k ≤ n ∧ s14 = .int .i64 (k : Nat) ∧ Hid (L = collect S r (T.take k)) ∧ L.length ≤ k * 1000 ∧ wr.ownsRow W1.heap.size 3 1 s5 L.length (flatG cI L) ∧ Below W1.heap.size W1 wr) (fun s14 _ _ => n - (intOf s14).toNat)
  case atStart => exact ⟨0, [], by omega, rfl, (show Hid _ from rfl), by simp, World.ownsRow_nil _ _ _ _, Below.refl _ _⟩
  case round =>
    obtain ⟨k, L, hk, rfl, hL, hLl, ho, hb⟩ := hrel
    by_cases hlt : k < n
    · have hlt' : (k : Int) < (n : Int) := by omega
      obtain ⟨s, hs⟩ := get_some T k (by rw [hn.out]; exact hlt)
      have HS := hid hs
      have hoks := HOK.out s (List.mem_of_getElem? hs)
      obtain ⟨b12, off12, rfl, hc⟩ := square_at (HROW.out.later hb) hs
      obtain ⟨sd, sb⟩ := s
      simp only at hc
      have C2 := tree_within ((HT.out.later hb).later (below1 wr (.cells #[.int .i64 (sd : Nat), .int .u32 (sb : Nat)] 96))) (by omega) hS sd sb hoks.1 (by have := okQ_b hoks; simp only at this; omega)
      obtain ⟨P, hP⟩ : ∃ P, Hid (wth S ⟨sd, sb⟩ = P) := ⟨_, rfl⟩
      have hPl : P.length ≤ 1000 := by rw [← hP.out]; have := wth_le S ⟨sd, sb⟩; omega
      have HPC : Hid (∀ p ∈ P, p.c < 4294967296) := fun p hp => hC p (by rw [← hP.out] at hp; exact wth_mem hp)
      rw [hP.out] at C2
      clear hs
      have hs1 := hb.size
      go_wp2_with fail
      refine C2.mono ?_
      rintro x W2 ⟨p20, c20, rfl, hrow, hb2⟩
      have ho2 := owns_on (ho.alloc (.cells #[.int .i64 (sd : Nat), .int .u32 (sb : Nat)] 96)) hb2
      have hB2 := (hb.alloc hs1 (.cells #[.int .i64 (sd : Nat), .int .u32 (sb : Nat)] 96)).trans (hb2.mono (by rw [World.size_alloc]; omega))
      clear hb2 C2 hc ho hb hs1
      have HROW2 := hid hrow
      clear hrow
      obtain ⟨m, hm⟩ : ∃ m, Hid (P.length = m) := ⟨_, rfl⟩
      rw [hm.out] at hPl ⊢
      go_wp2_with fail
      rename World => W2'
      go_loopw [22, 5] (fun s22 s5 wr => ∃ (j : Nat) (M : List Int), j ≤ m ∧ s22 = .int .i64 (j : Nat) ∧ Hid (M = L ++ idsOf r (P.take j)) ∧ M.length ≤ k * 1000 + j ∧ wr.ownsRow W1.heap.size 3 1 s5 M.length (flatG cI M) ∧ Below W1.heap.size W1 wr) (fun s22 _ _ => m - (intOf s22).toNat)
      case atStart =>
        refine ⟨0, L, Nat.zero_le _, rfl, (show Hid (L = L ++ idsOf r (P.take 0)) from (List.append_nil L).symm), ?_, ho2, hB2⟩
        rw [Nat.add_zero]; exact hLl
      case round =>
        obtain ⟨j, M, hj, rfl, hM', hMl, ho, hb⟩ := hrel
        clear ho2 hB2
        by_cases hlt2 : j < m
        · have hlt2' : (j : Int) < (m : Int) := by omega
          obtain ⟨a, ha⟩ := get_some P j (by rw [hm.out]; exact hlt2)
          have HA := hid ha
          have hac := HPC.out a (List.mem_of_getElem? ha)
          obtain ⟨b20, off20, rfl, hc⟩ := spot_at (HROW2.out wr (HT.out.later hb)) ha
          clear ha
          obtain ⟨aid, ac⟩ := a
          simp only at hc hac
          obtain ⟨x, hx⟩ : ∃ x, Hid (plX ac = x) := ⟨_, rfl⟩
          obtain ⟨y, hy⟩ : ∃ y, Hid (plY ac = y) := ⟨_, rfl⟩
          obtain ⟨q, hq⟩ : ∃ q, Hid (inB ⟨r0, r1, r2, r3⟩ x y = q) := ⟨_, rfl⟩
          have hin : Hid (inP r ⟨aid, ac⟩ = q) := by
            show inP r ⟨aid, ac⟩ = q
            unfold inP
            rw [hr.out, hx.out, hy.out, hq.out]
          have hs1 := hb.size
          have hne : w.heap.size ≠ wr.heap.size := by have := lt_of_at KR.out; omega
          go_wp2_with fail
          obtain ⟨W3, hW3⟩ : ∃ W3, wr.alloc (.cells #[.int .i64 aid, .int .u32 (ac : Nat)] 82) = W3 := ⟨_, rfl⟩
          rw [hW3]
          have ho3 := ho.alloc (.cells #[.int .i64 aid, .int .u32 (ac : Nat)] 82)
          rw [hW3] at ho3
          have hB3 : Below W1.heap.size W1 W3 := by rw [← hW3]; exact hb.alloc hs1 _
          have K3 := hid (show W3.heap[wr.heap.size]? = some (.cells #[.int .i64 aid, .int .u32 (ac : Nat)] 82 (0, 0)) by rw [← hW3]; exact new_at _ _ _ rfl)
          clear hW3 ho hb hc hs1
          have e1 := grown_cells (var_on hB3 KR.out (lt_of_at KR.out))
          have e2 := grown_cells K3.out
          have D1 : ∀ D os, Calls Tryz.prog 60 #[.int .u32 (ac : Nat)] (Sort.grow (redrawn W3 D) os) _ := fun D os => place_at hac hx hy _ ((HM.out.below hB3).below (below_regrown W3 D os))
          have D2 := fun w => in_at hq w
          refine wp_region_quiet_below (by kernel_rfl) (by kernel_rfl) ?_
          repeat (first | go_big_quiet_skip | (go_big_quiet_want; go_big_quiet_op; first | go_big_quiet_on | go_big_quiet_call (first | with_reducible exact Calls.regrown_of (D1 _ _) | with_reducible exact Calls.regrown_of (D2 _))))
          refine wpQuiet_nil ?_
          intro W4 hw'
          obtain ⟨⟨dq, osq⟩, hw''⟩ := hw'
          have hb4 : Below W3.heap.size W3 W4 := by rw [hw'']; exact below_regrown _ _ _
          clear hw'' e1 e2 D1 D2
          replace ho3 := owns_on ho3 hb4
          have hB4 := hB3.trans (hb4.mono hB3.size)
          have c4 := cells_at (var_on hb4 K3.out (lt_of_at K3.out))
          clear hb4 hB3 K3 hx hy hq hne
          have hs4 := hB4.size
          cases q
          · go_wp2_with fail
            go_roundw
            case rel =>
              refine ⟨j + 1, M, by omega, by go_num, ?_, by omega, ho3, hB4⟩
              show M = _
              rw [ids_no HA.out hin.out]; exact hM'.out
            case measure => simp [intOf]; omega
          · go_wp2_with (at_builtin; refine wpList_append_lies _ rfl _ _ 69 rfl W1.heap.size 3 i0 (.int .i64 0) 1 8 Tryz.underlying69 hi hz0 hz1 hz2 rfl (by decide) _ _ _ rfl (ho3.alloc _) ⟨W4.heap.size, 0, none⟩ 1 1 (cI aid) rfl rfl (World.news_of_block (heap_alloc_new _ _)) (by intro u hu; rw [List.mem_singleton.1 hu]; rfl) (by decide) (by unfold maxLen; omega) (by omega) (by simp; omega) _ rfl ?_)
            intro g cap w5 hown hgrow hat hg5
            have hB5 := (hB4.alloc hs4 (.cells #[.int .i64 aid] 3)).grown hgrow (by simp; omega) (fun k hk => (ho3.lt k hk).1)
            clear hgrow hat ho3 c4
            go_wp2_with fail
            go_roundw
            case rel =>
              refine ⟨j + 1, M ++ [aid], by omega, by go_num, ?_, by simp; omega, ?_, hB5⟩
              · show M ++ [aid] = _
                rw [ids_yes HA.out hin.out, hM'.out, List.append_assoc]
              · rw [flatG_append, flatG_one, List.length_append]; exact hown
            case measure => simp [intOf]; omega
        · obtain rfl : j = m := by omega
          have hlt2' : ¬ (j : Int) < (j : Int) := by omega
          go_wp2_with fail
          go_roundw
          case rel =>
            refine ⟨k + 1, M, by omega, by go_num, ?_, by omega, ho, hb⟩
            show M = _
            rw [hM'.out, collect_take HS.out, hL.out, hP.out, ← hm.out, List.take_length]
          case measure => simp [intOf]; omega
    · obtain rfl : k = n := by omega
      have hlt' : ¬ (k : Int) < (k : Int) := by omega
      have C3 := sort_own ho (by omega)
      have hend : Hid (srt L = R) := by
        show srt L = R
        rw [← hR.out, hL.out, ← hn.out, List.take_length]
        unfold inL
        rw [hT.out]
      rw [hend.out] at C3
      obtain ⟨p5, c5, rfl⟩ := owns_slice ho
      go_wp2_with fail
      refine C3.mono ?_
      rintro x W3 ⟨rfl, ho3, hg3⟩
      have hB3 := hb.grown hg3 hb.size (fun k hk => (ho.lt k hk).1)
      clear C3 hg3 hb
      go_wp2
      go_ret
      have hRl : L.length = R.length := by rw [← hend.out]; exact (List.length_mergeSort L).symm
      rw [hRl] at ho3 ⊢
      exact ⟨_, _, rfl, ho3.mono hB1.size, below_on hB1 hB3⟩
end Go.Proofs.YtildhbkcpehobaaGreatDoor
