/- Contract of In over this translation: the numbers of all that are found, rising; nothing that was there is changed. Contracts of the document's tree over this translation: In, deep, Depth; and of the statements' same. Each returns what the plain functions say, and changes nothing that was there. Plain facts, of no program: which codes lie in a square; what is in a square of a rising row; the squares that aren't split have all that there is, once. Plain facts, of no program: a row of spots and a row of marks that say the same: what is put, moved, dropped, found, how deep it is. The tree's contracts over this translation, in the document's terms: what a tree holds is a row of marks by their numbers. Each call returns what the document's tree would, and leaves the rest as it was. -/
import Derived.Test.YtfoncphdbaaedaaGreatDoorQB
import Derived.Test.YtfoncphdbaaedaaGreatDoorShelf
import Derived.Sort.OwnSortedInts
import Derived.Deep.Onto
import Derived.Test.YtfoncphdbaaedaaGreatDoorQD
import Derived.Test.YtfoncphdbaaedaaGreatDoorQC
namespace Go.Proofs.YtfoncphdbaaedaaGreatDoor
section
open Go.RowKit Go.Sort
set_option linter.unusedVariables false
def cI (n : Int) : List Value := [.int .i64 n]
theorem cI_z (n : Int) : (cI n).length = 1 := rfl
theorem flat_ints (l : List Int) : flatG cI l = l.map (Value.int .i64) := by
  induction l with
  | nil => rfl
  | cons a l ih => simp [flatG, cI] at ih ⊢; exact ih
def srt (l : List Int) : List Int := l.mergeSort fun x y => decide (x ≤ y)
theorem sort_own {w : World} {base : Nat} {v : Value} {zs : List Int} (h : w.ownsRow base 3 1 v zs.length (flatG cI zs)) (hl : zs.length < 4611686018427387904) :
    Calls Tryz.prog 58 #[v] w fun e w' => e = .returned (.tuple #[]) ∧ w'.ownsRow base 3 1 v (srt zs).length (flatG cI (srt zs)) ∧ w.grownBy w' v.ownBlock := by
  have hls : (srt zs).length = zs.length := List.length_mergeSort zs
  rw [hls]
  rcases h.2 with ⟨rfl, h2⟩ | ⟨g, cap, cur, rfl, h2, h3, h4, h5, h6, h7⟩
  · refine (Tryz.slices_Sort_int_none none 0 w).mono ?_
    rintro e w' ⟨rfl, rfl⟩
    have : zs = [] := List.length_eq_zero_iff.1 h2
    subst this
    have e : srt [] = [] := by simp [srt]
    rw [e]
    exact ⟨rfl, h, ⟨rfl, rfl, rfl, Nat.le_refl _, fun _ _ _ => rfl⟩⟩
  · have hH := holds_of_blockI (ss := zs) h3 (by rw [← flat_ints, ← h7, Nat.mul_one])
    refine (Tryz.slices_Sort_int g 0 cap zs w hH (lt_of_at h3) hl).mono ?_
    rintro e w' ⟨rfl, n, os, rfl⟩
    refine ⟨rfl, ?_, grownBy_sortedI _⟩
    rw [flat_ints]
    exact ownsRow_sortedI (ss := zs) hls h2 h3 h4 h5 h6
def inP (r : Rc) (p : Sp) : Bool := inB r (plX p.c) (plY p.c)
def idsOf (r : Rc) (l : List Sp) : List Int := (l.filter (inP r)).map Sp.id
def collect (S : List Sp) (r : Rc) (T : List Sq) : List Int := T.flatMap fun s => idsOf r (wth S s)
/-- what In tells -/
def inL (S : List Sp) (r : Rc) : List Int := srt (collect S r (lv S r ⟨0, 0⟩))
theorem collect_take {S : List Sp} {r : Rc} {T : List Sq} {k : Nat} {s : Sq} (h : T[k]? = some s) : collect S r (T.take (k + 1)) = collect S r (T.take k) ++ idsOf r (wth S s) := by
  rw [List.take_add_one, h]
  simp [collect]
theorem ids_yes {r : Rc} {l : List Sp} {j : Nat} {a : Sp} (h : l[j]? = some a) (hq : inP r a = true) : idsOf r (l.take (j + 1)) = idsOf r (l.take j) ++ [a.id] := by
  rw [List.take_add_one, h]
  simp [idsOf, hq]
theorem ids_no {r : Rc} {l : List Sp} {j : Nat} {a : Sp} (h : l[j]? = some a) (hq : inP r a = false) : idsOf r (l.take (j + 1)) = idsOf r (l.take j) := by
  rw [List.take_add_one, h]
  simp [idsOf, hq]
theorem ids_le (r : Rc) (l : List Sp) : (idsOf r l).length ≤ l.length := by
  unfold idsOf
  rw [List.length_map]
  exact List.length_filter_le _ _
theorem wth_le (S : List Sp) (s : Sq) : (wth S s).length ≤ S.length := by
  unfold wth
  rw [List.length_take, List.length_drop]; omega
theorem wth_mem {S : List Sp} {s : Sq} {a : Sp} (h : a ∈ wth S s) : a ∈ S := List.mem_of_mem_drop (List.mem_of_mem_take h)
theorem in_at {r0 r1 r2 r3 x y : Int} {q : Bool} (h : Hid (inB ⟨r0, r1, r2, r3⟩ x y = q)) (w : World) : Calls Tryz.prog 62 #[rc r0 r1 r2 r3, pt x y] w fun e w' => e = .returned (.bool q) ∧ Below w.heap.size w w' := by
  rw [← h.out]; exact geom_in w r0 r1 r2 r3 x y
theorem Tryz.info3 : (Tryz.prog.info? 3).map (fun i => (i.zero, i.size, i.bytes)) = some (some (.int .i64 0), 1, 8) := by kernel_rfl
set_option maxHeartbeats 4000000 in
theorem tree_in {w : World} {base tb : Nat} {v : Value} {S : List Sp} (h : Tr w base tb v S) (hl : S.length ≤ 1000) (hS : Rising S) (hM : Masks w) (hC : ∀ p ∈ S, p.c < 4294967296) (r0 r1 r2 r3 : Int) :
    Calls Tryz.prog 42 #[.pointer (some ⟨tb, 0, none⟩), rc r0 r1 r2 r3] w fun e w' => ∃ p cap, e = .returned (.slice p (inL S ⟨r0, r1, r2, r3⟩).length cap) ∧ w'.ownsRow w.heap.size 3 1 (.slice p (inL S ⟨r0, r1, r2, r3⟩).length cap) (inL S ⟨r0, r1, r2, r3⟩).length (flatG cI (inL S ⟨r0, r1, r2, r3⟩)) ∧ Below w.heap.size w w' := by
  obtain ⟨W0, hW0⟩ : ∃ W0, W0 = w.alloc (.cells #[.int .i64 r0, .int .i64 r1, .int .i64 r2, .int .i64 r3] 25) := ⟨_, rfl⟩
  have hB0 : Below w.heap.size w W0 := by rw [hW0]; exact below1 _ _
  have KR0 := hid (show W0.heap[w.heap.size]? = some (.cells #[.int .i64 r0, .int .i64 r1, .int .i64 r2, .int .i64 r3] 25 (0, 0)) by rw [hW0]; exact new_at _ _ _ rfl)
  have HM0 := hid (hM.below hB0)
  have HT0 := hid (h.later hB0)
  clear h hM
  have C1 := tree_leaves HT0.out (by omega) hS HM0.out r0 r1 r2 r3
  obtain ⟨r, hr⟩ : ∃ r : Rc, Hid (r = ⟨r0, r1, r2, r3⟩) := ⟨_, rfl⟩
  rw [← hr.out] at C1 ⊢
  obtain ⟨T, hT⟩ : ∃ T, Hid (lv S r ⟨0, 0⟩ = T) := ⟨_, rfl⟩
  obtain ⟨R, hR⟩ : ∃ R, Hid (inL S r = R) := ⟨_, rfl⟩
  rw [hR.out]
  rw [hT.out] at C1
  obtain ⟨i0, hi, hz0, hz1, hz2⟩ := info_parts3 Tryz.info3
  have cR := cells_at KR0.out
  go_enter Tryz.func42, Tryz.ntmps42
  go_wp2_with fail
  rw [← hW0]
  clear hW0 cR
  refine C1.mono ?_
  rintro x W1 ⟨p12, c12, rfl, hrow, hok, hlen, hb1⟩
  have hB1 := below_on hB0 hb1
  have KR := hid (var_on hb1 KR0.out (lt_of_at KR0.out))
  have HM := hid (HM0.out.below hb1)
  have HT := hid (HT0.out.later hb1)
  have HOK := hid hok
  have HROW := hid hrow
  clear KR0 HM0 HT0 hb1 hB0 C1 hok hrow W0
  obtain ⟨n, hn⟩ : ∃ n, Hid (T.length = n) := ⟨_, rfl⟩
  rw [hn.out] at hlen ⊢
  go_wp2_with fail
  go_loopw [14, 5] (fun s14 s5 wr => ∃ (k : Nat) (L : List Int), k ≤ n ∧ s14 = .int .i64 (k : Nat) ∧ Hid (L = collect S r (T.take k)) ∧ L.length ≤ k * 1000 ∧ wr.ownsRow W1.heap.size 3 1 s5 L.length (flatG cI L) ∧ Below W1.heap.size W1 wr) (fun s14 _ _ => n - (intOf s14).toNat)
  case atStart => exact ⟨0, [], by omega, rfl, (show Hid _ from rfl), by simp, World.ownsRow_nil _ _ _ _, Below.refl _ _⟩
  case round =>
    obtain ⟨k, L, hk, rfl, hL, hLl, ho, hb⟩ := hrel
    by_cases hlt : k < n
    · have hlt' : (k : Int) < (n : Int) := by omega
      obtain ⟨s, hs⟩ := get_some T k (by rw [hn.out]; exact hlt)
      have HS := hid hs
      have hoks := HOK.out s (List.mem_of_getElem? hs)
      obtain ⟨b12, off12, rfl, hc⟩ := square_at (HROW.out.later hb) hs
      obtain ⟨sd, sb⟩ := s
      simp only at hc
      have C2 := tree_within ((HT.out.later hb).later (below1 wr (.cells #[.int .i64 (sd : Nat), .int .u32 (sb : Nat)] 108))) (by omega) hS sd sb hoks.1 (by have := okQ_b hoks; simp only at this; omega)
      obtain ⟨P, hP⟩ : ∃ P, Hid (wth S ⟨sd, sb⟩ = P) := ⟨_, rfl⟩
      have hPl : P.length ≤ 1000 := by rw [← hP.out]; have := wth_le S ⟨sd, sb⟩; omega
      have HPC : Hid (∀ p ∈ P, p.c < 4294967296) := fun p hp => hC p (by rw [← hP.out] at hp; exact wth_mem hp)
      rw [hP.out] at C2
      clear hs
      have hs1 := hb.size
      go_wp2_with fail
      refine C2.mono ?_
      rintro x W2 ⟨p20, c20, rfl, hrow, hb2⟩
      have ho2 := owns_on (ho.alloc (.cells #[.int .i64 (sd : Nat), .int .u32 (sb : Nat)] 108)) hb2
      have hB2 := (hb.alloc hs1 (.cells #[.int .i64 (sd : Nat), .int .u32 (sb : Nat)] 108)).trans (hb2.mono (by rw [World.size_alloc]; omega))
      clear hb2 C2 hc ho hb hs1
      have HROW2 := hid hrow
      clear hrow
      obtain ⟨m, hm⟩ : ∃ m, Hid (P.length = m) := ⟨_, rfl⟩
      rw [hm.out] at hPl ⊢
      go_wp2_with fail
      rename World => W2'
      go_loopw [22, 5] (fun s22 s5 wr => ∃ (j : Nat) (M : List Int), j ≤ m ∧ s22 = .int .i64 (j : Nat) ∧ Hid (M = L ++ idsOf r (P.take j)) ∧ M.length ≤ k * 1000 + j ∧ wr.ownsRow W1.heap.size 3 1 s5 M.length (flatG cI M) ∧ Below W1.heap.size W1 wr) (fun s22 _ _ => m - (intOf s22).toNat)
      case atStart =>
        refine ⟨0, L, Nat.zero_le _, rfl, (show Hid (L = L ++ idsOf r (P.take 0)) from (List.append_nil L).symm), ?_, ho2, hB2⟩
        rw [Nat.add_zero]; exact hLl
      case round =>
        obtain ⟨j, M, hj, rfl, hM', hMl, ho, hb⟩ := hrel
        clear ho2 hB2
        by_cases hlt2 : j < m
        · have hlt2' : (j : Int) < (m : Int) := by omega
          obtain ⟨a, ha⟩ := get_some P j (by rw [hm.out]; exact hlt2)
          have HA := hid ha
          have hac := HPC.out a (List.mem_of_getElem? ha)
          obtain ⟨b20, off20, rfl, hc⟩ := spot_at (HROW2.out wr (HT.out.later hb)) ha
          clear ha
          obtain ⟨aid, ac⟩ := a
          simp only at hc hac
          obtain ⟨x, hx⟩ : ∃ x, Hid (plX ac = x) := ⟨_, rfl⟩
          obtain ⟨y, hy⟩ : ∃ y, Hid (plY ac = y) := ⟨_, rfl⟩
          obtain ⟨q, hq⟩ : ∃ q, Hid (inB ⟨r0, r1, r2, r3⟩ x y = q) := ⟨_, rfl⟩
          have hin : Hid (inP r ⟨aid, ac⟩ = q) := by
            show inP r ⟨aid, ac⟩ = q
            unfold inP
            rw [hr.out, hx.out, hy.out, hq.out]
          have hs1 := hb.size
          have hne : w.heap.size ≠ wr.heap.size := by have := lt_of_at KR.out; omega
          go_wp2_with fail
          obtain ⟨W3, hW3⟩ : ∃ W3, wr.alloc (.cells #[.int .i64 aid, .int .u32 (ac : Nat)] 90) = W3 := ⟨_, rfl⟩
          rw [hW3]
          have ho3 := ho.alloc (.cells #[.int .i64 aid, .int .u32 (ac : Nat)] 90)
          rw [hW3] at ho3
          have hB3 : Below W1.heap.size W1 W3 := by rw [← hW3]; exact hb.alloc hs1 _
          have K3 := hid (show W3.heap[wr.heap.size]? = some (.cells #[.int .i64 aid, .int .u32 (ac : Nat)] 90 (0, 0)) by rw [← hW3]; exact new_at _ _ _ rfl)
          clear hW3 ho hb hc hs1
          have e1 := grown_cells (var_on hB3 KR.out (lt_of_at KR.out))
          have e2 := grown_cells K3.out
          have D1 : ∀ D os, Calls Tryz.prog 63 #[.int .u32 (ac : Nat)] (Sort.grow (redrawn W3 D) os) _ := fun D os => place_at hac hx hy _ ((HM.out.below hB3).below (below_regrown W3 D os))
          have D2 := fun w => in_at hq w
          refine wp_region_quiet_below (by kernel_rfl) (by kernel_rfl) ?_
          repeat (first | go_big_quiet_skip | (go_big_quiet_want; go_big_quiet_op; first | go_big_quiet_on | go_big_quiet_call (first | with_reducible exact Calls.regrown_of (D1 _ _) | with_reducible exact Calls.regrown_of (D2 _))))
          refine wpQuiet_nil ?_
          intro W4 hw'
          obtain ⟨⟨dq, osq⟩, hw''⟩ := hw'
          have hb4 : Below W3.heap.size W3 W4 := by rw [hw'']; exact below_regrown _ _ _
          clear hw'' e1 e2 D1 D2
          replace ho3 := owns_on ho3 hb4
          have hB4 := hB3.trans (hb4.mono hB3.size)
          have c4 := cells_at (var_on hb4 K3.out (lt_of_at K3.out))
          clear hb4 hB3 K3 hx hy hq hne
          have hs4 := hB4.size
          cases q
          · go_wp2_with fail
            go_roundw
            case rel =>
              refine ⟨j + 1, M, by omega, by go_num, ?_, by omega, ho3, hB4⟩
              show M = _
              rw [ids_no HA.out hin.out]; exact hM'.out
            case measure => simp [intOf]; omega
          · go_wp2_with (at_builtin; refine wpList_append_lies _ rfl _ _ 23 rfl W1.heap.size 3 i0 (.int .i64 0) 1 8 Tryz.underlying23 hi hz0 hz1 hz2 rfl (by decide) _ _ _ rfl (ho3.alloc _) ⟨W4.heap.size, 0, none⟩ 1 1 (cI aid) rfl rfl (World.news_of_block (heap_alloc_new _ _)) (by intro u hu; rw [List.mem_singleton.1 hu]; rfl) (by decide) (by unfold maxLen; omega) (by omega) (by simp; omega) _ rfl ?_)
            intro g cap w5 hown hgrow hat hg5
            have hB5 := (hB4.alloc hs4 (.cells #[.int .i64 aid] 3)).grown hgrow (by simp; omega) (fun k hk => (ho3.lt k hk).1)
            clear hgrow hat ho3 c4
            go_wp2_with fail
            go_roundw
            case rel =>
              refine ⟨j + 1, M ++ [aid], by omega, by go_num, ?_, by simp; omega, ?_, hB5⟩
              · show M ++ [aid] = _
                rw [ids_yes HA.out hin.out, hM'.out, List.append_assoc]
              · rw [flatG_append, flatG_one, List.length_append]; exact hown
            case measure => simp [intOf]; omega
        · obtain rfl : j = m := by omega
          have hlt2' : ¬ (j : Int) < (j : Int) := by omega
          go_wp2_with fail
          go_roundw
          case rel =>
            refine ⟨k + 1, M, by omega, by go_num, ?_, by omega, ho, hb⟩
            show M = _
            rw [hM'.out, collect_take HS.out, hL.out, hP.out, ← hm.out, List.take_length]
          case measure => simp [intOf]; omega
    · obtain rfl : k = n := by omega
      have hlt' : ¬ (k : Int) < (k : Int) := by omega
      have C3 := sort_own ho (by omega)
      have hend : Hid (srt L = R) := by
        show srt L = R
        rw [← hR.out, hL.out, ← hn.out, List.take_length]
        unfold inL
        rw [hT.out]
      rw [hend.out] at C3
      obtain ⟨p5, c5, rfl⟩ := owns_slice ho
      go_wp2_with fail
      refine C3.mono ?_
      rintro x W3 ⟨rfl, ho3, hg3⟩
      have hB3 := hb.grown hg3 hb.size (fun k hk => (ho.lt k hk).1)
      clear C3 hg3 hb
      go_wp2
      go_ret
      have hRl : L.length = R.length := by rw [← hend.out]; exact (List.length_mergeSort L).symm
      rw [hRl] at ho3 ⊢
      exact ⟨_, _, rfl, ho3.mono hB1.size, below_on hB1 hB3⟩
end
section
open Go.RowKit
set_option linter.unusedVariables false
def rinL (L : List Mk) (r : Rc) : List Int := (L.filter fun m => inB r m.x m.y).map Mk.id
theorem rin_yes {r : Rc} {l : List Mk} {j : Nat} {a : Mk} (h : l[j]? = some a) (hq : inB r a.x a.y = true) : rinL (l.take (j + 1)) r = rinL (l.take j) r ++ [a.id] := by
  rw [List.take_add_one, h]
  simp [rinL, hq]
theorem rin_no {r : Rc} {l : List Mk} {j : Nat} {a : Mk} (h : l[j]? = some a) (hq : inB r a.x a.y = false) : rinL (l.take (j + 1)) r = rinL (l.take j) r := by
  rw [List.take_add_one, h]
  simp [rinL, hq]
theorem rin_le (l : List Mk) (r : Rc) : (rinL l r).length ≤ l.length := by
  unfold rinL
  rw [List.length_map]
  exact List.length_filter_le _ _
theorem rin_at {r0 r1 r2 r3 x y : Int} {q : Bool} (h : Hid (inB ⟨r0, r1, r2, r3⟩ x y = q)) (w : World) : Calls Tryz.prog 27 #[rc r0 r1 r2 r3, pt x y] w fun e w' => e = .returned (.bool q) ∧ Below w.heap.size w w' := by
  rw [← h.out]; exact ref_in w r0 r1 r2 r3 x y
def qR (r : Rc) (i : Nat) : Rc := ⟨r.x0 + (i % 2 : Nat) * ((r.x1 - r.x0) / 2), r.y0 + (i / 2 : Nat) * ((r.x1 - r.x0) / 2), r.x0 + (i % 2 : Nat) * ((r.x1 - r.x0) / 2) + (r.x1 - r.x0) / 2, r.y0 + (i / 2 : Nat) * ((r.x1 - r.x0) / 2) + (r.x1 - r.x0) / 2⟩
/-- how deep the document's tree is from a square of depth d on, k levels being left -/
def rdp (L : List Mk) : Nat → Rc → Nat → Nat
  | 0, _, d => d
  | k + 1, r, d => if (rinL L r).length ≤ 4 then d else max (max (max (max d (rdp L k (qR r 0) (d + 1))) (rdp L k (qR r 1) (d + 1))) (rdp L k (qR r 2) (d + 1))) (rdp L k (qR r 3) (d + 1))
def upto (f : Nat → Nat) (d : Nat) : Nat → Nat
  | 0 => d
  | k + 1 => max (upto f d k) (f k)
structure okR (r : Rc) : Prop where
  a : 0 ≤ r.x0
  b : r.x0 ≤ r.x1
  c : r.x1 ≤ 64
  d : 0 ≤ r.y0
  e : r.y0 + (r.x1 - r.x0) ≤ 64
theorem okR_q {r : Rc} (h : okR r) {i : Nat} (hi : i < 4) : okR (qR r i) := by
  obtain ⟨a, b, c, d, e⟩ := h
  have h4 : i = 0 ∨ i = 1 ∨ i = 2 ∨ i = 3 := by omega
  rcases h4 with rfl | rfl | rfl | rfl <;> (constructor <;> simp only [qR] <;> omega)
theorem rdp_le (L : List Mk) : ∀ k r d, rdp L k r d ≤ d + k
  | 0, r, d => Nat.le_refl _
  | k + 1, r, d => by
    have h := fun i => rdp_le L k (qR r i) (d + 1)
    have h0 := h 0
    have h1 := h 1
    have h2 := h 2
    have h3 := h 3
    unfold rdp
    split
    · omega
    · omega
theorem rdp_upto (L : List Mk) (k : Nat) (r : Rc) (d : Nat) (h : ¬ (rinL L r).length ≤ 4) : rdp L (k + 1) r d = upto (fun i => rdp L k (qR r i) (d + 1)) d 4 := by
  rw [rdp, if_neg h]
  rfl
theorem upto_le {f : Nat → Nat} {d B : Nat} (hd : d ≤ B) (hf : ∀ i, f i ≤ B) : ∀ k, upto f d k ≤ B
  | 0 => hd
  | k + 1 => by
    have := upto_le hd hf k
    have := hf k
    unfold upto
    omega
theorem int_at {w : World} {p : Option Addr} {L : List Int} (h : RowG cI 1 w p L) {k : Nat} {a : Int} (hk : L[k]? = some a) : ∃ b off, p = some ⟨b, off, none⟩ ∧ w.cell? ⟨b, off + k, none⟩ = some (.int .i64 a) := by
  obtain ⟨b, off, hp, hc⟩ := h.at hk
  refine ⟨b, off, hp, ?_⟩
  have := hc 0 _ rfl
  simpa using this
end
section
open Go.RowKit
set_option linter.unusedVariables false
theorem gat_div (c m : Nat) (hc : c < 4294967296) : gat (c / 2 ^ (2 * m)) = gat c / 2 ^ m := by
  apply Nat.eq_of_testBit_eq
  intro j
  rw [gat_bit, Nat.testBit_div_two_pow, Nat.testBit_div_two_pow, gat_bit]
  by_cases h1 : j + m < 16
  · have h2 : j < 16 := by omega
    rw [show 2 * j + 2 * m = 2 * (j + m) by omega]
    simp [h1, h2]
  · have : c.testBit (2 * j + 2 * m) = false := lt_bit (n := 32) hc (by omega)
    simp [h1, this]
theorem gat_mul (q m : Nat) (hq : q * 2 ^ (2 * m) < 4294967296) : gat (q * 2 ^ (2 * m)) = gat q * 2 ^ m := by
  have h1 := gat_div (q * 2 ^ (2 * m)) m hq
  rw [Nat.mul_div_cancel _ (Nat.two_pow_pos _)] at h1
  have h2 : gat (q * 2 ^ (2 * m)) % 2 ^ m = 0 := by
    apply Nat.eq_of_testBit_eq
    intro j
    rw [Nat.testBit_mod_two_pow, gat_bit, Nat.testBit_mul_two_pow]
    by_cases h : j < m
    · have : ¬ 2 * m ≤ 2 * j := by omega
      simp [this]
    · simp [h]
  have h3 := Nat.div_add_mod (gat (q * 2 ^ (2 * m))) (2 ^ m)
  rw [h2, ← h1, Nat.add_zero, Nat.mul_comm] at h3
  exact h3.symm
theorem weave_back (c : Nat) (hc : c < 4294967296) : weave (gat c) (gat (c / 2)) = c := by
  apply Nat.eq_of_testBit_eq
  intro j
  rw [weave_bit _ _ _ (gat_lt _) (gat_lt _), gat_bit, gat_bit]
  by_cases hj : j < 32
  · have e1 : j / 2 < 16 := by omega
    have e2 : (c / 2).testBit (2 * (j / 2)) = c.testBit (2 * (j / 2) + 1) := by rw [Nat.testBit_succ]
    rw [e2]
    split
    · rw [show 2 * (j / 2) = j by omega]; simp [e1]
    · rw [show 2 * (j / 2) + 1 = j by omega]; simp [e1]
  · have e1 : ¬ j / 2 < 16 := by omega
    have : c.testBit j = false := lt_bit (n := 32) hc (by omega)
    simp [e1, this]
theorem gat_inj {a b : Nat} (ha : a < 4294967296) (hb : b < 4294967296) (h1 : gat a = gat b) (h2 : gat (a / 2) = gat (b / 2)) : a = b := by
  rw [← weave_back a ha, ← weave_back b hb, h1, h2]
theorem div_iff (a x m : Nat) : (x * 2 ^ m ≤ a ∧ a < x * 2 ^ m + 2 ^ m) ↔ a / 2 ^ m = x := by
  have hp := Nat.two_pow_pos m
  rw [← Nat.succ_mul]
  constructor
  · rintro ⟨h1, h2⟩
    have g1 := (Nat.le_div_iff_mul_le hp).2 h1
    have g2 := (Nat.div_lt_iff_lt_mul hp).2 h2
    omega
  · intro h
    exact ⟨(Nat.le_div_iff_mul_le hp).1 (by omega), (Nat.div_lt_iff_lt_mul hp).1 (by omega)⟩
/-- squares that begin where squares of their depth do -/
def okA (s : Sq) : Prop := s.d ≤ 4 ∧ ∃ q, s.b = q * 2 ^ (2 * (6 - s.d)) ∧ q < 4 ^ s.d
theorem side_pow {d : Nat} (h : d ≤ 4) : sideN d = 2 ^ (6 - d) := by
  rcases five h with rfl | rfl | rfl | rfl | rfl <;> rfl
theorem side_sq {d : Nat} (h : d ≤ 4) : sideN d * sideN d = 2 ^ (2 * (6 - d)) := by
  rcases five h with rfl | rfl | rfl | rfl | rfl <;> rfl
theorem okA_root : okA ⟨0, 0⟩ := ⟨by simp, 0, by simp, by simp⟩
theorem okA_part {s : Sq} (h : okA s) (hd : s.d ≤ 3) {i : Nat} (hi : i < 4) : okA (partQ s i) := by
  obtain ⟨_, q, hq, hl⟩ := h
  refine ⟨by unfold partQ; simp only; omega, 4 * q + i, ?_, ?_⟩
  · unfold partQ qN
    simp only
    rw [side_sq (by omega), hq, show 2 * (6 - s.d) = 2 * (6 - (s.d + 1)) + 2 by omega, Nat.pow_add, Nat.add_mul]
    rw [show q * (2 ^ (2 * (6 - (s.d + 1))) * 2 ^ 2) = 4 * q * 2 ^ (2 * (6 - (s.d + 1))) by rw [Nat.mul_comm (2 ^ (2 * (6 - (s.d + 1)))), ← Nat.mul_assoc, Nat.mul_comm q]]
  · show 4 * q + i < 4 ^ (s.d + 1)
    rw [Nat.pow_succ]; omega
theorem sq_small {d q : Nat} (hd : d ≤ 4) (hq : q < 4 ^ d) : q * 2 ^ (2 * (6 - d)) + 2 ^ (2 * (6 - d)) ≤ 4096 := by
  rcases five hd with rfl | rfl | rfl | rfl | rfl <;> simp at hq ⊢ <;> omega
def inQ (s : Sq) (c : Nat) : Bool := decide (s.b ≤ c) && decide (c < endN s)
theorem inQ_iff {s : Sq} {c : Nat} : inQ s c = true ↔ s.b ≤ c ∧ c < endN s := by simp [inQ]
theorem inB_iff {r : Rc} {x y : Int} : inB r x y = true ↔ r.x0 ≤ x ∧ x < r.x1 ∧ r.y0 ≤ y ∧ y < r.y1 := by simp [inB, and_assoc]
theorem in_square {s : Sq} (h : okA s) {c : Nat} (hc : c < 4096) : inQ s c = inB (rectS s) (plX c) (plY c) := by
  obtain ⟨hd, q, hq, hl⟩ := h
  obtain ⟨d, b⟩ := s
  simp only at hd hq hl
  have hsm := sq_small hd hl
  have hp := Nat.two_pow_pos (2 * (6 - d))
  obtain ⟨m, hm⟩ : ∃ m, 6 - d = m := ⟨_, rfl⟩
  have hq4 : q < 4294967296 := by
    have : q * 1 ≤ q * 2 ^ (2 * (6 - d)) := Nat.mul_le_mul_left q hp
    omega
  have g1 := gat_mul q m (by rw [← hm]; omega)
  have hb2 : gat (b / 2) = gat (q / 2) * 2 ^ m := by
    have : b / 2 = (b / 2) := rfl
    have h1 := gat_div (b / 2) m (by rw [hq]; omega)
    have h2 : b / 2 / 2 ^ (2 * m) = q / 2 := by
      rw [Nat.div_div_eq_div_mul, Nat.mul_comm, ← Nat.div_div_eq_div_mul, hq, hm, Nat.mul_div_cancel _ (Nat.two_pow_pos _)]
    rw [h2] at h1
    have h3 : gat (b / 2) % 2 ^ m = 0 := by
      apply Nat.eq_of_testBit_eq
      intro j
      rw [Nat.testBit_mod_two_pow, gat_bit, ← Nat.testBit_succ, hq, hm, Nat.testBit_mul_two_pow]
      by_cases h : j < m
      · have : ¬ 2 * m ≤ 2 * j + 1 := by omega
        simp [this]
      · simp [h]
    have h4 := Nat.div_add_mod (gat (b / 2)) (2 ^ m)
    rw [h3, ← h1, Nat.add_zero, Nat.mul_comm] at h4
    exact h4.symm
  have gb : gat b = gat q * 2 ^ m := by rw [hq, hm]; exact g1
  have d1 := gat_div c m (by omega)
  have d2 : gat (c / 2 ^ (2 * m) / 2) = gat (c / 2) / 2 ^ m := by
    rw [← gat_div (c / 2) m (by omega), Nat.div_div_eq_div_mul, Nat.mul_comm, ← Nat.div_div_eq_div_mul]
  have hcl : c / 2 ^ (2 * m) < 4294967296 := Nat.lt_of_le_of_lt (Nat.div_le_self _ _) (by omega)
  have k1 : (b ≤ c ∧ c < endN ⟨d, b⟩) ↔ c / 2 ^ (2 * m) = q := by
    unfold endN
    simp only
    rw [side_sq hd, hm, hq, hm]
    exact div_iff c q (2 * m)
  have k2 : (gat b ≤ gat c ∧ gat c < gat b + sideN d) ↔ gat c / 2 ^ m = gat q := by
    rw [gb, side_pow hd, hm]
    exact div_iff (gat c) (gat q) m
  have k3 : (gat (b / 2) ≤ gat (c / 2) ∧ gat (c / 2) < gat (b / 2) + sideN d) ↔ gat (c / 2) / 2 ^ m = gat (q / 2) := by
    rw [hb2, side_pow hd, hm]
    exact div_iff (gat (c / 2)) (gat (q / 2)) m
  have k4 : c / 2 ^ (2 * m) = q ↔ (gat c / 2 ^ m = gat q ∧ gat (c / 2) / 2 ^ m = gat (q / 2)) := by
    rw [← d1, ← d2]
    exact ⟨fun h => by rw [h]; exact ⟨rfl, rfl⟩, fun h => gat_inj hcl hq4 h.1 h.2⟩
  rw [Bool.eq_iff_iff, inB_iff, inQ_iff]
  show (b ≤ c ∧ c < endN ⟨d, b⟩) ↔ ((gat b : Nat) : Int) ≤ ((gat c : Nat) : Int) ∧ ((gat c : Nat) : Int) < ((gat b : Nat) : Int) + ((sideN d : Nat) : Int) ∧ ((gat (b / 2) : Nat) : Int) ≤ ((gat (c / 2) : Nat) : Int) ∧ ((gat (c / 2) : Nat) : Int) < ((gat (b / 2) : Nat) : Int) + ((sideN d : Nat) : Int)
  rw [k1, k4, ← k2, ← k3]
  omega
theorem wth_filter (s : Sq) : ∀ (S : List Sp), S.Pairwise (fun a b => a.c ≤ b.c) → wth S s = S.filter fun a => inQ s a.c
  | [], _ => rfl
  | a :: l, h => by
    obtain ⟨ha, hl⟩ := List.pairwise_cons.1 h
    have ih := wth_filter s l hl
    have hbe := endN_ge s
    have c1 : ∀ c, firstN c (a :: l) = firstN c l + if a.c < c then 1 else 0 := fun c => by
      unfold firstN
      rw [List.countP_cons]
      simp
    have c0 : ∀ c, c ≤ a.c → firstN c l = 0 := fun c hc => by
      unfold firstN
      rw [List.countP_eq_zero]
      intro b hb
      have := ha b hb
      simp only [decide_eq_true_eq]; omega
    rw [List.filter_cons]
    unfold wth at ih ⊢
    rw [c1, c1]
    by_cases h1 : a.c < s.b
    · have h2 : a.c < endN s := by omega
      have h3 : inQ s a.c = false := by rw [← Bool.not_eq_true, inQ_iff]; omega
      rw [if_pos h1, if_pos h2, h3, ← ih]
      rw [show firstN (endN s) l + 1 - (firstN s.b l + 1) = firstN (endN s) l - firstN s.b l by omega]
      simp
    · have z1 := c0 s.b (by omega)
      rw [if_neg h1, z1]
      rw [z1] at ih
      by_cases h2 : a.c < endN s
      · have h3 : inQ s a.c = true := by rw [inQ_iff]; omega
        rw [if_pos h2, h3, if_pos rfl, ← ih]
        simp
      · have h3 : inQ s a.c = false := by rw [← Bool.not_eq_true, inQ_iff]; omega
        have z2 := c0 (endN s) (by omega)
        rw [z2] at ih
        rw [if_neg h2, h3, ← ih, z2]
        simp
theorem rising_pair {S : List Sp} (h : Rising S) : S.Pairwise (fun a b => a.c ≤ b.c) := by
  rw [List.pairwise_iff_getElem]
  intro i j hi hj hij
  exact h i j S[i] S[j] (by omega) (List.getElem?_eq_getElem hi) (List.getElem?_eq_getElem hj)
theorem pair_rising {S : List Sp} (h : S.Pairwise (fun a b => a.c ≤ b.c)) : Rising S := by
  intro i j a b hij ha hb
  obtain ⟨hi, e1⟩ := List.getElem?_eq_some_iff.1 ha
  obtain ⟨hj, e2⟩ := List.getElem?_eq_some_iff.1 hb
  by_cases e : i = j
  · subst e
    rw [← e1, ← e2]; exact Nat.le_refl _
  · have := (List.pairwise_iff_getElem.1 h) i j hi hj (by omega)
    rw [e1, e2] at this
    exact this
def rng (x y : Nat) (c : Nat) : Bool := decide (x ≤ c) && decide (c < y)
theorem rng_iff {x y c : Nat} : rng x y c = true ↔ x ≤ c ∧ c < y := by simp [rng]
theorem two_filter {α : Type} (p q r : α → Bool) (h1 : ∀ a, r a = (p a || q a)) (h2 : ∀ a, p a = true → q a = false) : ∀ l : List α, (l.filter p ++ l.filter q).Perm (l.filter r)
  | [] => .refl _
  | a :: l => by
    have ih := two_filter p q r h1 h2 l
    rw [List.filter_cons, List.filter_cons, List.filter_cons, h1 a]
    cases hp : p a
    · cases hq : q a
      · simpa using ih
      · simp only [Bool.false_or, if_true]
        exact List.perm_middle.trans (ih.cons a)
    · have hq := h2 a hp
      rw [hq]
      simpa using ih.cons a
theorem rng_two (f : Sp → Bool) {x y z : Nat} (h1 : x ≤ y) (h2 : y ≤ z) (S : List Sp) : (S.filter (fun a => rng y z a.c && f a) ++ S.filter (fun a => rng x y a.c && f a)).Perm (S.filter fun a => rng x z a.c && f a) := by
  refine two_filter _ _ _ (fun a => ?_) (fun a ha => ?_) S
  · rw [← Bool.and_or_distrib_right]
    congr 1
    rw [Bool.eq_iff_iff, Bool.or_eq_true, rng_iff, rng_iff, rng_iff]
    omega
  · rw [Bool.and_eq_true, rng_iff] at ha
    have : rng x y a.c = false := by rw [← Bool.not_eq_true, rng_iff]; omega
    rw [this]; rfl
theorem inQ_rng (s : Sq) (c : Nat) : inQ s c = rng s.b (endN s) c := rfl
/-- what the squares hold that have a point of r -/
def collS (S : List Sp) (r : Rc) (T : List Sq) : List Sp := T.flatMap fun s => (wth S s).filter (inP r)
theorem miss_none {S : List Sp} (hC : ∀ p ∈ S, p.c < 4096) {r : Rc} {s : Sq} (ho : okA s) (h : missB r s = true) : S.filter (fun a => inQ s a.c && inP r a) = [] := by
  rw [List.filter_eq_nil_iff]
  intro a ha hh
  rw [Bool.and_eq_true, in_square ho (hC a ha)] at hh
  obtain ⟨h1, h2⟩ := hh
  unfold inP at h2
  rw [inB_iff] at h1 h2
  unfold missB at h
  have he : emptyB (meetR (rectS s) r) = false := by
    unfold meetR
    simp only
    have : emptyB ⟨max (rectS s).x0 r.x0, max (rectS s).y0 r.y0, min (rectS s).x1 r.x1, min (rectS s).y1 r.y1⟩ = false := by
      simp [emptyB]
      omega
    rw [this]
    simpa using this
  rw [he] at h
  cases h
theorem collS_append (S : List Sp) (r : Rc) (T U : List Sq) : collS S r (T ++ U) = collS S r T ++ collS S r U := by simp [collS]
theorem coll_one {S : List Sp} (hP : S.Pairwise (fun a b => a.c ≤ b.c)) (r : Rc) (s : Sq) : (collS S r [s]).Perm (S.filter fun a => inQ s a.c && inP r a) := by
  simp only [collS, List.flatMap_cons, List.flatMap_nil, List.append_nil]
  rw [wth_filter s S hP, List.filter_filter]
  have : (fun a => inP r a && inQ s a.c) = (fun a : Sp => inQ s a.c && inP r a) := by funext a; rw [Bool.and_comm]
  rw [this]
theorem collS_all {S : List Sp} (hP : S.Pairwise (fun a b => a.c ≤ b.c)) (hC : ∀ p ∈ S, p.c < 4096) (r : Rc) : ∀ (k : Nat) (s : Sq), okA s → s.d + k = 4 → (collS S r (lvs S r k s)).Perm (S.filter fun a => inQ s a.c && inP r a) := by
  intro k
  induction k with
  | zero =>
    intro s ho hk
    by_cases hm : missB r s = true
    · have e : lvs S r 0 s = [] := by simp [lvs, hm]
      rw [e, miss_none hC ho hm]
      exact .refl _
    · have hm' : missB r s = false := by simpa using hm
      have e : lvs S r 0 s = [s] := by simp [lvs, hm']
      rw [e]; exact coll_one hP r s
  | succ k ihk =>
    intro s ho hk
    by_cases hm : missB r s = true
    · have e : lvs S r (k + 1) s = [] := by simp [lvs, hm]
      rw [e, miss_none hC ho hm]
      exact .refl _
    · have hm' : missB r s = false := by simpa using hm
      by_cases hs : splB S s = true
      · have e : lvs S r (k + 1) s = lvs S r k (partQ s 3) ++ (lvs S r k (partQ s 2) ++ (lvs S r k (partQ s 1) ++ lvs S r k (partQ s 0))) := by simp [lvs, hm', hs]
        rw [e, collS_append, collS_append, collS_append]
        have ih := fun i (hi : i < 4) => ihk (partQ s i) (okA_part ho (by omega) hi) (by show s.d + 1 + k = 4; omega)
        have i0 := ih 0 (by decide)
        have i1 := ih 1 (by decide)
        have i2 := ih 2 (by decide)
        have i3 := ih 3 (by decide)
        simp only [inQ_rng, end_part] at i0 i1 i2 i3
        have hb0 : (partQ s 0).b = s.b := by unfold partQ; simp
        have hb4 : (partQ s 4).b = endN s := four_end (by omega)
        have m1 := part_le (s := s) (i := 0) (j := 1) (by omega)
        have m2 := part_le (s := s) (i := 1) (j := 2) (by omega)
        have m3 := part_le (s := s) (i := 2) (j := 3) (by omega)
        have m4 := part_le (s := s) (i := 3) (j := 4) (by omega)
        have t1 := (i1.append i0).trans (rng_two (inP r) m1 m2 S)
        have t2 := (i2.append t1).trans (rng_two (inP r) (by omega) m3 S)
        have t3 := (i3.append t2).trans (rng_two (inP r) (by omega) m4 S)
        rw [hb0, hb4] at t3
        exact t3
      · have hs' : splB S s = false := by simpa using hs
        have e : lvs S r (k + 1) s = [s] := by simp [lvs, hm', hs']
        rw [e]; exact coll_one hP r s
theorem srt_eq {l m : List Int} (h : l.Perm m) (hm : m.Pairwise (· ≤ ·)) : srt l = m := by
  refine List.Perm.eq_of_pairwise (le := (· ≤ ·)) (fun a b _ _ h1 h2 => Int.le_antisymm h1 h2) ?_ hm ((List.mergeSort_perm l _).trans h)
  have := List.pairwise_mergeSort (le := fun x y : Int => decide (x ≤ y)) (fun a b c h1 h2 => by simp at *; omega) (fun a b => by simp; omega) l
  unfold srt
  exact this.imp (fun h => by simpa using h)
/-- In tells all that are in r -/
theorem inL_perm {S : List Sp} (hR : Rising S) (hC : ∀ p ∈ S, p.c < 4096) (r : Rc) {m : List Int} (h : (idsOf r S).Perm m) (hm : m.Pairwise (· ≤ ·)) : inL S r = m := by
  unfold inL
  refine srt_eq (List.Perm.trans ?_ h) hm
  have := collS_all (rising_pair hR) hC r 4 ⟨0, 0⟩ okA_root rfl
  have e1 : collect S r (lv S r ⟨0, 0⟩) = (collS S r (lvs S r 4 ⟨0, 0⟩)).map Sp.id := by
    unfold collect collS idsOf lv
    rw [List.map_flatMap]
    rfl
  have e2 : S.filter (fun a => inQ ⟨0, 0⟩ a.c && inP r a) = S.filter (inP r) := by
    apply List.filter_congr
    intro a ha
    have : inQ ⟨0, 0⟩ a.c = true := by
      rw [inQ_iff]
      have := hC a ha
      have e : endN ⟨0, 0⟩ = 4096 := by decide
      rw [e]
      simp only
      omega
    rw [this, Bool.true_and]
  rw [e1]
  unfold idsOf
  rw [← e2]
  exact this.map Sp.id
end
section
open Go.RowKit
set_option linter.unusedVariables false
/-- a spot as a mark -/
def Sp.m (s : Sp) : Mk := ⟨s.id, plX s.c, plY s.c⟩
/-- the spots S, by their codes, and the marks L, by their numbers, say the same -/
structure Sim (S : List Sp) (L : List Mk) : Prop where
  perm : (S.map Sp.m).Perm L
  rise : Rising S
  code : ∀ p ∈ S, p.c < 4096
  ids : L.Pairwise (fun a b => a.id < b.id)
theorem Sim.len {S : List Sp} {L : List Mk} (h : Sim S L) : S.length = L.length := by
  have := h.perm.length_eq
  rwa [List.length_map] at this
theorem Sim.nil : Sim [] [] := ⟨.refl _, fun i j a b _ h => by simp at h, fun p h => by simp at h, .nil⟩
theorem plain_xy {x y : Nat} (hx : x < 64) (hy : y < 64) : plX (weave x y) = x ∧ plY (weave x y) = y ∧ weave x y < 4096 := by
  refine ⟨by unfold plX; rw [weave_gat x y (by omega) (by omega)], by unfold plY; rw [weave_gat1 x y (by omega) (by omega)], ?_⟩
  refine Nat.lt_pow_two_of_testBit (n := 12) _ fun j hj => ?_
  rw [weave_bit x y j (by omega) (by omega)]
  split
  · exact lt_bit (n := 6) (v := x) (by omega) (by omega)
  · exact lt_bit (n := 6) (v := y) (by omega) (by omega)
theorem find_mem {id : Int} {S : List Sp} : 0 ≤ findI id S ↔ ∃ a ∈ S, a.id = id := by
  unfold findI
  cases hf : S.findIdx? (fun s => s.id == id) with
  | none =>
    rw [List.findIdx?_eq_none_iff] at hf
    constructor
    · intro h; simp at h
    · rintro ⟨a, ha, e⟩
      have := hf a ha
      simp [e] at this
  | some i =>
    obtain ⟨hi, h1, _⟩ := List.findIdx?_eq_some_iff_getElem.1 hf
    constructor
    · intro _
      exact ⟨S[i], List.getElem_mem hi, by simpa using h1⟩
    · intro _
      simp
theorem rf_mem {id : Int} {S : List Mk} : 0 ≤ rfI id S ↔ ∃ a ∈ S, a.id = id := by
  unfold rfI
  cases hf : S.findIdx? (fun s => s.id == id) with
  | none =>
    rw [List.findIdx?_eq_none_iff] at hf
    constructor
    · intro h; simp at h
    · rintro ⟨a, ha, e⟩
      have := hf a ha
      simp [e] at this
  | some i =>
    obtain ⟨hi, h1, _⟩ := List.findIdx?_eq_some_iff_getElem.1 hf
    constructor
    · intro _
      exact ⟨S[i], List.getElem_mem hi, by simpa using h1⟩
    · intro _
      simp
theorem find_get {id : Int} {S : List Sp} (h : 0 ≤ findI id S) : ∃ a, S[(findI id S).toNat]? = some a ∧ a.id = id := by
  unfold findI at h ⊢
  cases hf : S.findIdx? (fun s => s.id == id) with
  | none => rw [hf] at h; simp at h
  | some i =>
    obtain ⟨hi, h1, _⟩ := List.findIdx?_eq_some_iff_getElem.1 hf
    exact ⟨S[i], by simp only [Int.toNat_natCast]; exact List.getElem?_eq_getElem hi, by simpa using h1⟩
theorem rf_get {id : Int} {S : List Mk} (h : 0 ≤ rfI id S) : ∃ a, S[(rfI id S).toNat]? = some a ∧ a.id = id := by
  unfold rfI at h ⊢
  cases hf : S.findIdx? (fun s => s.id == id) with
  | none => rw [hf] at h; simp at h
  | some i =>
    obtain ⟨hi, h1, _⟩ := List.findIdx?_eq_some_iff_getElem.1 hf
    exact ⟨S[i], by simp only [Int.toNat_natCast]; exact List.getElem?_eq_getElem hi, by simpa using h1⟩
theorem Sim.find {S : List Sp} {L : List Mk} (h : Sim S L) (id : Int) : 0 ≤ findI id S ↔ 0 ≤ rfI id L := by
  rw [find_mem, rf_mem]
  constructor
  · rintro ⟨a, ha, e⟩
    exact ⟨a.m, h.perm.mem_iff.1 (List.mem_map_of_mem ha), e⟩
  · rintro ⟨a, ha, e⟩
    obtain ⟨b, hb, rfl⟩ := List.mem_map.1 (h.perm.mem_iff.2 ha)
    exact ⟨b, hb, e⟩
theorem uniq {L : List Mk} (h : L.Pairwise (fun a b => a.id < b.id)) {a b : Mk} (ha : a ∈ L) (hb : b ∈ L) (e : a.id = b.id) : a = b := by
  obtain ⟨i, hi, rfl⟩ := List.getElem_of_mem ha
  obtain ⟨j, hj, rfl⟩ := List.getElem_of_mem hb
  have hp := List.pairwise_iff_getElem.1 h
  by_cases hij : i = j
  · subst hij; rfl
  · exfalso
    rcases Nat.lt_or_gt_of_ne hij with hlt | hgt
    · have := hp i j hi hj hlt; omega
    · have := hp j i hj hi hgt; omega
theorem insS_perm {α : Type} (S : List α) (k : Nat) (a : α) : (insS S k a).Perm (a :: S) := by
  unfold insS
  refine List.perm_middle.trans (.cons a ?_)
  rw [List.take_append_drop]
theorem delS_perm {α : Type} {S : List α} {k : Nat} {a : α} (h : S[k]? = some a) : S.Perm (a :: delS S k) := by
  obtain ⟨hk, e⟩ := List.getElem?_eq_some_iff.1 h
  have : S = S.take k ++ a :: S.drop (k + 1) := by
    rw [← e, ← List.drop_eq_getElem_cons hk, List.take_append_drop]
  unfold delS
  conv => lhs; rw [this]
  exact List.perm_middle
theorem firstN_split {c : Nat} : ∀ {S : List Sp}, S.Pairwise (fun a b => a.c ≤ b.c) → (∀ a ∈ S.take (firstN c S), a.c < c) ∧ (∀ a ∈ S.drop (firstN c S), c ≤ a.c)
  | [], _ => ⟨by simp, by simp⟩
  | a :: l, h => by
    obtain ⟨ha, hl⟩ := List.pairwise_cons.1 h
    have ih := firstN_split (c := c) hl
    have c1 : firstN c (a :: l) = firstN c l + if a.c < c then 1 else 0 := by
      unfold firstN
      rw [List.countP_cons]
      simp
    by_cases hq : a.c < c
    · rw [c1, if_pos hq, List.take_succ_cons, List.drop_succ_cons]
      exact ⟨fun b hb => by rcases List.mem_cons.1 hb with rfl | hb; exact hq; exact ih.1 b hb, ih.2⟩
    · have z : firstN c l = 0 := by
        unfold firstN
        rw [List.countP_eq_zero]
        intro b hb
        have := ha b hb
        simp only [decide_eq_true_eq]; omega
      rw [c1, if_neg hq, z]
      refine ⟨by simp, fun b hb => ?_⟩
      rcases List.mem_cons.1 hb with rfl | hb
      · omega
      · have := ha b hb; omega
theorem delS_sub {α : Type} (S : List α) (k : Nat) : (delS S k).Sublist S := by
  unfold delS
  have h1 : (S.drop (k + 1)).Sublist (S.drop k) := by rw [← List.drop_drop]; exact List.drop_sublist 1 _
  have h2 := List.Sublist.append (List.Sublist.refl (S.take k)) h1
  rwa [List.take_append_drop] at h2
theorem setM_map (x y : Int) : ∀ (L : List Mk) (k : Nat), (setM L k x y).map Mk.id = L.map Mk.id
  | [], k => by simp [setM]
  | a :: l, 0 => by simp [setM]
  | a :: l, k + 1 => by
    have := setM_map x y l k
    simp [setM] at this ⊢
    exact this
theorem setM_perm {t : Mk} {x y : Int} : ∀ {L : List Mk} {k : Nat}, L[k]? = some t → (setM L k x y).Perm (⟨t.id, x, y⟩ :: delS L k)
  | [], k, h => by simp at h
  | a :: l, 0, h => by
    simp at h
    subst h
    simp [setM, delS]
  | a :: l, k + 1, h => by
    have ih := setM_perm (x := x) (y := y) (L := l) (k := k) (by simpa using h)
    have e1 : setM (a :: l) (k + 1) x y = a :: setM l k x y := by simp [setM]
    have e2 : delS (a :: l) (k + 1) = a :: delS l k := by simp [delS]
    rw [e1, e2]
    exact (ih.cons a).trans (.swap _ _ _)
theorem ins_rise {S : List Sp} (h : Rising S) (c : Nat) (id : Int) : Rising (insS S (firstN c S) ⟨id, c⟩) := by
  apply pair_rising
  have hp := rising_pair h
  unfold insS
  rw [List.pairwise_append]
  have h1 : ∀ a ∈ S.take (firstN c S), a.c < c := by
    intro a ha
    have := firstN_split (c := c) hp
    exact this.1 a ha
  have h2 : ∀ a ∈ S.drop (firstN c S), c ≤ a.c := by
    intro a ha
    exact (firstN_split (c := c) hp).2 a ha
  refine ⟨hp.sublist (List.take_sublist _ _), List.pairwise_cons.2 ⟨fun a ha => h2 a ha, hp.sublist (List.drop_sublist _ _)⟩, ?_⟩
  intro a ha b hb
  have := h1 a ha
  rcases List.mem_cons.1 hb with rfl | hb
  · exact Nat.le_of_lt this
  · have := h2 b hb; omega
theorem ahead_split {id : Int} : ∀ {L : List Mk}, L.Pairwise (fun a b => a.id < b.id) → (∀ a ∈ L.take (ahead id L), a.id < id) ∧ (∀ a ∈ L.drop (ahead id L), id ≤ a.id)
  | [], _ => ⟨by simp, by simp⟩
  | a :: l, h => by
    obtain ⟨ha, hl⟩ := List.pairwise_cons.1 h
    have ih := ahead_split (id := id) hl
    by_cases hq : a.id < id
    · have e : ahead id (a :: l) = ahead id l + 1 := by simp [ahead, hq]
      rw [e, List.take_succ_cons, List.drop_succ_cons]
      exact ⟨fun b hb => by rcases List.mem_cons.1 hb with rfl | hb; exact hq; exact ih.1 b hb, ih.2⟩
    · have e : ahead id (a :: l) = 0 := by simp [ahead, hq]
      rw [e]
      refine ⟨by simp, fun b hb => ?_⟩
      rcases List.mem_cons.1 hb with rfl | hb
      · omega
      · have := ha b hb; omega
theorem ins_ids {L : List Mk} (h : L.Pairwise (fun a b => a.id < b.id)) {id x y : Int} (hn : ¬ 0 ≤ rfI id L) : (insS L (ahead id L) ⟨id, x, y⟩).Pairwise (fun a b => a.id < b.id) := by
  obtain ⟨h1, h2⟩ := ahead_split (id := id) h
  unfold insS
  rw [List.pairwise_append]
  have h3 : ∀ a ∈ L.drop (ahead id L), id < a.id := fun a ha => by
    have := h2 a ha
    have hne : a.id ≠ id := fun e => hn (rf_mem.2 ⟨a, List.mem_of_mem_drop ha, e⟩)
    omega
  refine ⟨h.sublist (List.take_sublist _ _), List.pairwise_cons.2 ⟨fun a ha => h3 a ha, h.sublist (List.drop_sublist _ _)⟩, ?_⟩
  intro a ha b hb
  have := h1 a ha
  rcases List.mem_cons.1 hb with rfl | hb
  · exact this
  · have := h3 b hb; omega
theorem Sim.add {S : List Sp} {L : List Mk} (h : Sim S L) {id : Int} {x y : Nat} (hx : x < 64) (hy : y < 64) (hn : ¬ 0 ≤ rfI id L) : Sim (addS id x y S) (insS L (ahead id L) ⟨id, x, y⟩) := by
  obtain ⟨e1, e2, e3⟩ := plain_xy hx hy
  refine ⟨?_, ins_rise h.rise _ _, fun p hp => ?_, ins_ids h.ids hn⟩
  · refine ((insS_perm S _ _).map Sp.m).trans (List.Perm.trans ?_ (insS_perm L _ _).symm)
    show (Sp.m ⟨id, weave x y⟩ :: S.map Sp.m).Perm _
    unfold Sp.m
    simp only
    rw [e1, e2]
    exact h.perm.cons _
  · rcases List.mem_cons.1 ((insS_perm S _ _).mem_iff.1 hp) with rfl | hp
    · exact e3
    · exact h.code p hp
theorem Sim.putE {S : List Sp} {L : List Mk} (h : Sim S L) (id x y : Int) : putE id x y S = rptE id x y L := by
  unfold Go.Proofs.YtfoncphdbaaedaaGreatDoor.putE rptE
  simp only [h.find, h.len]
theorem Sim.put {S : List Sp} {L : List Mk} (h : Sim S L) (id x y : Int) : Sim (putS id x y S) (rptS id x y L) := by
  unfold putS rptS
  rw [h.putE]
  by_cases he : rptE id x y L = 0
  · rw [if_pos he, if_pos he]
    have hn : ¬ 0 ≤ rfI id L := fun hh => by
      unfold rptE at he
      rw [if_pos hh] at he
      split at he
      · cases he
      · split at he <;> cases he
    have ho : onB x y = true := by
      cases hq : onB x y
      · unfold rptE at he
        rw [if_pos hq] at he
        split at he <;> cases he
      · rfl
    obtain ⟨a, b, rfl, rfl, ha, hb⟩ := on_nat ho
    exact h.add ha hb hn
  · rw [if_neg he, if_neg he]
    exact h
/-- what is taken away of both -/
theorem Sim.del {S : List Sp} {L : List Mk} (h : Sim S L) {id : Int} (hf : 0 ≤ rfI id L) : Sim (delS S (findI id S).toNat) (delS L (rfI id L).toNat) := by
  have hf' := (h.find id).2 hf
  obtain ⟨a, ha, ea⟩ := find_get hf'
  obtain ⟨b, hb, eb⟩ := rf_get hf
  have pa := delS_perm ha
  have pb := delS_perm hb
  have hab : a.m = b := uniq h.ids (h.perm.mem_iff.1 (List.mem_map_of_mem (List.mem_of_getElem? ha))) (List.mem_of_getElem? hb) (by show a.id = b.id; rw [ea, eb])
  refine ⟨?_, delS_rising h.rise _, fun p hp => h.code p (pa.mem_iff.2 (List.mem_cons_of_mem _ hp)), ?_⟩
  · have := ((pa.map Sp.m).symm.trans h.perm).trans pb
    rw [List.map_cons, hab] at this
    exact this.cons_inv
  · exact h.ids.sublist (delS_sub L _)
theorem Sim.drpE {S : List Sp} {L : List Mk} (h : Sim S L) (id : Int) : drpE id S = rdrE id L := by
  unfold Go.Proofs.YtfoncphdbaaedaaGreatDoor.drpE rdrE
  have := h.find id
  by_cases hq : rfI id L < 0
  · rw [if_pos hq, if_pos (by omega)]
  · rw [if_neg hq, if_neg (by omega)]
theorem Sim.drop {S : List Sp} {L : List Mk} (h : Sim S L) (id : Int) : Sim (drpS id S) (rdrS id L) := by
  unfold drpS rdrS
  have := h.find id
  by_cases hq : rfI id L < 0
  · rw [if_pos hq, if_pos (by omega)]; exact h
  · rw [if_neg hq, if_neg (by omega)]; exact h.del (by omega)
theorem Sim.movE {S : List Sp} {L : List Mk} (h : Sim S L) (id x y : Int) : movE id x y S = rmvE id x y L := by
  unfold Go.Proofs.YtfoncphdbaaedaaGreatDoor.movE rmvE
  have := h.find id
  by_cases hq : rfI id L < 0
  · rw [if_pos hq, if_pos (by omega)]
  · rw [if_neg hq, if_neg (by omega)]
theorem setM_ids {L : List Mk} (h : L.Pairwise (fun a b => a.id < b.id)) (k : Nat) (x y : Int) : (setM L k x y).Pairwise (fun a b => a.id < b.id) := by
  have e : (setM L k x y).map Mk.id = L.map Mk.id := setM_map x y L k
  have h1 : (L.map Mk.id).Pairwise (· < ·) := List.pairwise_map.2 h
  rw [← e] at h1
  exact List.pairwise_map.1 h1
theorem Sim.move {S : List Sp} {L : List Mk} (h : Sim S L) (id x y : Int) : Sim (movS id x y S) (rmvS id x y L) := by
  unfold movS rmvS
  rw [h.movE]
  by_cases he : rmvE id x y L = 0
  · rw [if_pos he, if_pos he]
    have hf : 0 ≤ rfI id L := by
      unfold rmvE at he
      by_cases hq : rfI id L < 0
      · rw [if_pos hq] at he; cases he
      · omega
    have ho : onB x y = true := by
      cases hq : onB x y
      · unfold rmvE at he
        rw [if_pos hq] at he
        split at he <;> cases he
      · rfl
    obtain ⟨a, b, rfl, rfl, ha, hb⟩ := on_nat ho
    obtain ⟨t, ht, et⟩ := rf_get hf
    have hd := h.del hf
    have hn : ¬ 0 ≤ rfI id (delS L (rfI id L).toNat) := by
      rw [rf_mem]
      rintro ⟨u, hu, eu⟩
      have pb := delS_perm ht
      have hnd : (t :: delS L (rfI id L).toNat).Pairwise (fun a b => a.id ≠ b.id) := (pb.pairwise_iff (fun h => h.symm)).1 (h.ids.imp (fun h => by omega))
      exact (List.pairwise_cons.1 hnd).1 u hu (by rw [et, eu])
    have hs := hd.add (id := id) ha hb hn
    refine ⟨hs.perm.trans ?_, hs.rise, hs.code, setM_ids h.ids _ _ _⟩
    refine (insS_perm _ _ _).trans ?_
    have := setM_perm ht (x := a) (y := b)
    rw [et] at this
    exact this.symm
  · rw [if_neg he, if_neg he]
    exact h
theorem Sim.at {S : List Sp} {L : List Mk} (h : Sim S L) (id : Int) : atX id S = ratX id L ∧ atY id S = ratY id L ∧ atB id S = ratB id L := by
  unfold atX atY atB ratX ratY ratB
  have hf := h.find id
  by_cases hq : rfI id L < 0
  · rw [if_pos hq, if_pos (by omega), if_pos (by omega), if_pos hq]
    refine ⟨rfl, rfl, ?_⟩
    rw [Bool.eq_iff_iff, decide_eq_true_iff, decide_eq_true_iff]; exact hf
  · obtain ⟨a, ha, ea⟩ := find_get (hf.2 (by omega))
    obtain ⟨b, hb, eb⟩ := rf_get (show 0 ≤ rfI id L by omega)
    have hab : a.m = b := uniq h.ids (h.perm.mem_iff.1 (List.mem_map_of_mem (List.mem_of_getElem? ha))) (List.mem_of_getElem? hb) (by show a.id = b.id; rw [ea, eb])
    rw [if_neg hq, if_neg (by omega), if_neg (by omega), if_neg hq, ha, hb, ← hab]
    refine ⟨rfl, rfl, ?_⟩
    rw [Bool.eq_iff_iff, decide_eq_true_iff, decide_eq_true_iff]; exact hf
theorem rin_sorted {L : List Mk} (h : L.Pairwise (fun a b => a.id < b.id)) (r : Rc) : (rinL L r).Pairwise (· < ·) := by
  unfold rinL
  rw [List.pairwise_map]
  exact h.filter _
theorem Sim.in {S : List Sp} {L : List Mk} (h : Sim S L) (r : Rc) : inL S r = rinL L r := by
  refine inL_perm h.rise h.code r ?_ ((rin_sorted h.ids r).imp (fun h => Int.le_of_lt h))
  unfold idsOf rinL
  have := (h.perm.filter fun m => inB r m.x m.y).map Mk.id
  rw [List.filter_map, List.map_map] at this
  exact this
theorem rdp_ge (L : List Mk) : ∀ k r d, d ≤ rdp L k r d
  | 0, r, d => Nat.le_refl _
  | k + 1, r, d => by
    unfold rdp
    split
    · omega
    · omega
/-- how deep it is from a square on, k levels being left -/
def dpS (S : List Sp) : Nat → Sq → Nat
  | 0, s => s.d
  | k + 1, s => if splB S s then max (max (max (dpS S k (partQ s 3)) (dpS S k (partQ s 2))) (dpS S k (partQ s 1))) (dpS S k (partQ s 0)) else s.d
theorem maxD_from (T : List Sq) (a : Nat) : T.foldl (fun a s => max a s.d) a = max a (maxD T) := by
  unfold maxD
  induction T generalizing a with
  | nil => simp
  | cons s T ih =>
    rw [List.foldl_cons, List.foldl_cons, ih, ih (max 0 s.d)]
    omega
theorem maxD_append (T U : List Sq) : maxD (T ++ U) = max (maxD T) (maxD U) := by
  conv => lhs; unfold maxD
  rw [List.foldl_append, maxD_from]
  rfl
theorem maxD_one (s : Sq) : maxD [s] = s.d := by simp [maxD]
theorem gat_small {c : Nat} (hc : c < 4096) : gat c < 64 := by
  refine Nat.lt_pow_two_of_testBit (n := 6) _ fun j hj => ?_
  rw [gat_bit]
  have : c.testBit (2 * j) = false := lt_bit (n := 12) hc (by omega)
  rw [this]; simp
theorem okA_b {s : Sq} (h : okA s) : s.b < 4096 ∧ s.d ≤ 4 := by
  obtain ⟨hd, q, hq, hl⟩ := h
  have := sq_small hd hl
  have := Nat.two_pow_pos (2 * (6 - s.d))
  rw [hq]
  exact ⟨by omega, hd⟩
theorem rectS_on {s : Sq} (h : okA s) : 0 ≤ (rectS s).x0 ∧ (rectS s).x0 < 64 ∧ 0 ≤ (rectS s).y0 ∧ (rectS s).y0 < 64 ∧ (rectS s).x1 = (rectS s).x0 + (sideN s.d : Nat) ∧ (rectS s).y1 = (rectS s).y0 + (sideN s.d : Nat) := by
  obtain ⟨hb, hd⟩ := okA_b h
  have h1 := gat_small hb
  have h2 := gat_small (show s.b / 2 < 4096 by omega)
  refine ⟨?_, ?_, ?_, ?_, rfl, rfl⟩
  all_goals
    unfold rectS plX plY
    simp only
    omega
theorem side_pos {d : Nat} (h : d ≤ 4) : 4 ≤ sideN d ∧ sideN d ≤ 64 := by
  rcases five h with rfl | rfl | rfl | rfl | rfl <;> decide
theorem miss_whole {s : Sq} (h : okA s) : missB ⟨0, 0, 64, 64⟩ s = false := by
  obtain ⟨h1, h2, h3, h4, h5, h6⟩ := rectS_on h
  have hs := side_pos (okA_b h).2
  have : emptyB ⟨max (rectS s).x0 0, max (rectS s).y0 0, min (rectS s).x1 64, min (rectS s).y1 64⟩ = false := by
    rw [h5, h6]
    simp [emptyB]
    omega
  unfold missB meetR
  simp only
  rw [this]
  simpa using this
theorem depth_lvs {S : List Sp} : ∀ (k : Nat) (s : Sq), okA s → s.d + k = 4 → maxD (lvs S ⟨0, 0, 64, 64⟩ k s) = dpS S k s
  | 0, s, ho, hk => by
    unfold lvs dpS
    rw [miss_whole ho]
    exact maxD_one s
  | k + 1, s, ho, hk => by
    unfold lvs dpS
    rw [miss_whole ho]
    have ih := fun i (hi : i < 4) => depth_lvs (S := S) k (partQ s i) (okA_part ho (by omega) hi) (by show s.d + 1 + k = 4; omega)
    by_cases hs : splB S s = true
    · rw [if_pos hs, if_neg (by simp), if_pos hs, maxD_append, maxD_append, maxD_append, ih 0 (by decide), ih 1 (by decide), ih 2 (by decide), ih 3 (by decide)]
      omega
    · rw [if_neg hs, if_neg (by simp), if_neg hs]
      exact maxD_one s
theorem side_half {d : Nat} (h : d ≤ 3) : sideN d = 2 * sideN (d + 1) := by
  rcases (show d = 0 ∨ d = 1 ∨ d = 2 ∨ d = 3 by omega) with rfl | rfl | rfl | rfl <;> rfl
theorem part_gat : ∀ d, d < 4 → ∀ q, q < 64 → ∀ i, i < 4 → (gat (q * 2 ^ (2 * (6 - d)) + i * (sideN (d + 1) * sideN (d + 1))) = gat (q * 2 ^ (2 * (6 - d))) + i % 2 * sideN (d + 1) ∧ gat ((q * 2 ^ (2 * (6 - d)) + i * (sideN (d + 1) * sideN (d + 1))) / 2) = gat (q * 2 ^ (2 * (6 - d)) / 2) + i / 2 * sideN (d + 1)) := by decide +kernel
/-- the quarters' rectangles -/
theorem part_rect {s : Sq} (h : okA s) (hd : s.d ≤ 3) {i : Nat} (hi : i < 4) : rectS (partQ s i) = qR (rectS s) i := by
  obtain ⟨_, q, hq, hl⟩ := h
  have hq64 : q < 64 := by
    have : (4 : Nat) ^ s.d ≤ 4 ^ 3 := Nat.pow_le_pow_right (by decide) hd
    have e : (4 : Nat) ^ 3 = 64 := rfl
    omega
  obtain ⟨g1, g2⟩ := part_gat s.d (by omega) q hq64 i hi
  have hs := side_half hd
  have e0 : (partQ s i).b = q * 2 ^ (2 * (6 - s.d)) + i * (sideN (s.d + 1) * sideN (s.d + 1)) := by unfold partQ qN; simp only; rw [hq]
  have ex : gat (partQ s i).b = gat s.b + i % 2 * sideN (s.d + 1) := by rw [e0, hq]; exact g1
  have ey : gat ((partQ s i).b / 2) = gat (s.b / 2) + i / 2 * sideN (s.d + 1) := by rw [e0, hq]; exact g2
  have hh : (((gat s.b : Nat) : Int) + (sideN s.d : Nat) - (gat s.b : Nat)) / 2 = (sideN (s.d + 1) : Nat) := by rw [hs]; omega
  have ed : (partQ s i).d = s.d + 1 := rfl
  unfold rectS qR plX plY
  simp only
  rw [ex, ey, ed, hh]
  simp only [Int.natCast_add, Int.natCast_mul]
theorem count_wth {S : List Sp} (hR : Rising S) (s : Sq) : (wth S s).length = S.countP fun a => inQ s a.c := by
  rw [wth_filter s S (rising_pair hR), List.countP_eq_length_filter]
theorem Sim.count {S : List Sp} {L : List Mk} (h : Sim S L) {s : Sq} (ho : okA s) : (wth S s).length = (rinL L (rectS s)).length := by
  rw [count_wth h.rise, rinL, List.length_map, ← List.countP_eq_length_filter, ← h.perm.countP_eq, List.countP_map]
  apply List.countP_congr
  intro a ha
  rw [in_square ho (h.code a ha)]
  rfl
theorem Sim.deep {S : List Sp} {L : List Mk} (h : Sim S L) : ∀ (k : Nat) (s : Sq), okA s → s.d + k = 4 → dpS S k s = rdp L k (rectS s) s.d
  | 0, s, ho, hk => rfl
  | k + 1, s, ho, hk => by
    have hc := h.count ho
    unfold dpS rdp
    have ih := fun i (hi : i < 4) => h.deep k (partQ s i) (okA_part ho (by omega) hi) (by show s.d + 1 + k = 4; omega)
    by_cases hq : (rinL L (rectS s)).length ≤ 4
    · have hs : splB S s = false := by
        unfold splB
        rw [hc]
        simp; omega
      rw [hs, if_pos hq]
      rfl
    · have hs : splB S s = true := by
        unfold splB
        rw [hc]
        simp; omega
      rw [hs, if_neg hq, if_pos rfl, ih 0 (by decide), ih 1 (by decide), ih 2 (by decide), ih 3 (by decide)]
      rw [part_rect ho (by omega) (by decide), part_rect ho (by omega) (by decide), part_rect ho (by omega) (by decide), part_rect ho (by omega) (by decide)]
      have ge : s.d ≤ rdp L k (qR (rectS s) 0) (s.d + 1) := by
        have := rdp_ge L k (qR (rectS s) 0) (s.d + 1); omega
      have e : ∀ i, (partQ s i).d = s.d + 1 := fun i => rfl
      rw [e, e, e, e]
      omega
theorem Sim.depth {S : List Sp} {L : List Mk} (h : Sim S L) : depN S = rdp L 4 ⟨0, 0, 64, 64⟩ 0 := by
  unfold depN lv
  rw [show (4 - (⟨0, 0⟩ : Sq).d) = 4 from rfl, depth_lvs 4 ⟨0, 0⟩ okA_root rfl, h.deep 4 ⟨0, 0⟩ okA_root rfl, root_rect]
end
section
open Go.RowKit
set_option linter.unusedVariables false
/-- the tree at tb, its slice being v, holds the marks L -/
def TS (W : World) (base tb : Nat) (v : Value) (L : List Mk) : Prop := ∃ S, Tr W base tb v S ∧ Sim S L
def TTurned (w : World) (base tb : Nat) (v : Value) (L : List Mk) (w' : World) : Prop := ∃ v', TS w' base tb v' L ∧ Off (tb :: ob v) w w' ∧ (∀ k, k ∈ ob v' → k ∈ ob v ∨ w.heap.size ≤ k)
theorem TTurned.of {w w' : World} {base tb : Nat} {v : Value} {S : List Sp} {L : List Mk} (h : Turned w base tb v S w') (hs : Sim S L) : TTurned w base tb v L w' := by
  obtain ⟨v', h1, h2, h3⟩ := h
  exact ⟨v', ⟨S, h1, hs⟩, h2, h3⟩
theorem TS.later {W W' : World} {base tb : Nat} {v : Value} {L : List Mk} (h : TS W base tb v L) (hb : Below W.heap.size W W') : TS W' base tb v L := by
  obtain ⟨S, h1, h2⟩ := h
  exact ⟨S, h1.later hb, h2⟩
theorem TS.off {W W' : World} {base tb : Nat} {v : Value} {L : List Mk} {X : List Nat} (h : TS W base tb v L) (ho : Off X W W') (hx : ∀ k, k ∈ tb :: ob v → k ∉ X) : TS W' base tb v L := by
  obtain ⟨S, h1, h2⟩ := h
  exact ⟨S, h1.off ho hx, h2⟩
theorem TS.lt {W : World} {base tb : Nat} {v : Value} {L : List Mk} (h : TS W base tb v L) : ∀ k, k ∈ tb :: ob v → base ≤ k ∧ k < W.heap.size := by
  obtain ⟨S, h1, h2⟩ := h
  intro k hk
  rcases List.mem_cons.1 hk with rfl | hk
  · exact ⟨h1.lo, lt_of_at h1.at_⟩
  · exact h1.own.lt k (mem_ob.1 hk)
theorem ts_put {w : World} {base tb : Nat} {v : Value} {L : List Mk} (h : TS w base tb v L) (hl : L.length ≤ 999) (hM : Masks w) (hbase : base ≤ w.heap.size) (id x y : Int) :
    Calls Tryz.prog 70 #[.pointer (some ⟨tb, 0, none⟩), .int .i64 id, pt x y] w fun e w' => e = .returned (.int .i64 (rptE id x y L)) ∧ TTurned w base tb v (rptS id x y L) w' := by
  obtain ⟨S, h1, h2⟩ := h
  refine (tree_put h1 (by rw [h2.len]; exact hl) h2.rise hM hbase id x y).mono ?_
  rintro e w' ⟨rfl, hT⟩
  exact ⟨by rw [h2.putE], TTurned.of hT (h2.put id x y)⟩
theorem ts_move {w : World} {base tb : Nat} {v : Value} {L : List Mk} (h : TS w base tb v L) (hl : L.length ≤ 999) (hM : Masks w) (hbase : base ≤ w.heap.size) (h0 : 0 < base) (id x y : Int) :
    Calls Tryz.prog 69 #[.pointer (some ⟨tb, 0, none⟩), .int .i64 id, pt x y] w fun e w' => e = .returned (.int .i64 (rmvE id x y L)) ∧ TTurned w base tb v (rmvS id x y L) w' := by
  obtain ⟨S, h1, h2⟩ := h
  refine (tree_move h1 (by rw [h2.len]; exact hl) h2.rise hM hbase h0 id x y).mono ?_
  rintro e w' ⟨rfl, hT⟩
  exact ⟨by rw [h2.movE], TTurned.of hT (h2.move id x y)⟩
theorem ts_drop {w : World} {base tb : Nat} {v : Value} {L : List Mk} (h : TS w base tb v L) (hl : L.length ≤ 999) (id : Int) :
    Calls Tryz.prog 89 #[.pointer (some ⟨tb, 0, none⟩), .int .i64 id] w fun e w' => e = .returned (.int .i64 (rdrE id L)) ∧ TTurned w base tb v (rdrS id L) w' := by
  obtain ⟨S, h1, h2⟩ := h
  refine (tree_drop h1 (by rw [h2.len]; omega) id).mono ?_
  rintro e w' ⟨rfl, hT⟩
  exact ⟨by rw [h2.drpE], TTurned.of hT (h2.drop id)⟩
theorem ts_in {w : World} {base tb : Nat} {v : Value} {L : List Mk} (h : TS w base tb v L) (hl : L.length ≤ 999) (hM : Masks w) (r0 r1 r2 r3 : Int) :
    Calls Tryz.prog 42 #[.pointer (some ⟨tb, 0, none⟩), rc r0 r1 r2 r3] w fun e w' => ∃ p cap, e = .returned (.slice p (rinL L ⟨r0, r1, r2, r3⟩).length cap) ∧ w'.ownsRow w.heap.size 3 1 (.slice p (rinL L ⟨r0, r1, r2, r3⟩).length cap) (rinL L ⟨r0, r1, r2, r3⟩).length (flatG cI (rinL L ⟨r0, r1, r2, r3⟩)) ∧ Below w.heap.size w w' := by
  obtain ⟨S, h1, h2⟩ := h
  have := tree_in h1 (by rw [h2.len]; omega) h2.rise hM (fun p hp => by have := h2.code p hp; omega) r0 r1 r2 r3
  rw [h2.in] at this
  exact this
theorem ts_len {w : World} {base tb : Nat} {v : Value} {L : List Mk} (h : TS w base tb v L) :
    Calls Tryz.prog 95 #[.pointer (some ⟨tb, 0, none⟩)] w fun e w' => e = .returned (.int .i64 (L.length : Nat)) ∧ w' = w := by
  obtain ⟨S, h1, h2⟩ := h
  have := tree_len h1
  rw [h2.len] at this
  exact this
theorem ts_copy {w : World} {base tb : Nat} {v : Value} {L : List Mk} (h : TS w base tb v L) (hl : L.length ≤ 999) :
    Calls Tryz.prog 31 #[.pointer (some ⟨tb, 0, none⟩)] w fun e w' => ∃ cb v', e = .returned (.pointer (some ⟨cb, 0, none⟩)) ∧ TS w' w.heap.size cb v' L ∧ Below w.heap.size w w' := by
  obtain ⟨S, h1, h2⟩ := h
  refine (tree_copy h1 (by rw [h2.len]; omega)).mono ?_
  rintro e w' ⟨cb, v', rfl, hT, hb⟩
  exact ⟨cb, v', rfl, ⟨S, hT, h2⟩, hb⟩
theorem ts_new (w : World) : Calls Tryz.prog 29 #[] w fun e w' => e = .returned (.pointer (some ⟨w.heap.size, 0, none⟩)) ∧ TS w' w.heap.size w.heap.size (.slice none 0 0) [] ∧ Below w.heap.size w w' := by
  refine (tree_new w).mono ?_
  rintro e w' ⟨rfl, hT, hb⟩
  exact ⟨rfl, ⟨[], hT, .nil⟩, hb⟩
/-- a tree made behind W0; the blocks K are none of its own -/
structure TF (W0 W : World) (tb : Nat) (L : List Mk) (K : List Nat) : Prop where
  has : ∃ v, TS W W0.heap.size tb v L ∧ ∀ k, k ∈ K → k < W.heap.size ∧ k ∉ tb :: ob v
  below : Below W0.heap.size W0 W
  masks : Masks W0
theorem TF.zero {W0 W : World} {tb : Nat} {L : List Mk} {K : List Nat} (h : TF W0 W tb L K) : 0 < W0.heap.size := World.block_lt_of_cell? W0 ⟨0, 0, none⟩ h.masks.1
theorem TF.mask {W0 W : World} {tb : Nat} {L : List Mk} {K : List Nat} (h : TF W0 W tb L K) : Masks W := h.masks.below h.below
theorem TF.later {W0 W W' : World} {tb : Nat} {L : List Mk} {K : List Nat} (h : TF W0 W tb L K) (hb : Below W.heap.size W W') : TF W0 W' tb L K := by
  obtain ⟨v, h1, h2⟩ := h.has
  exact ⟨⟨v, h1.later hb, fun k hk => ⟨Nat.lt_of_lt_of_le (h2 k hk).1 hb.size, (h2 k hk).2⟩⟩, h.below.trans (hb.mono h.below.size), h.masks⟩
theorem TF.also {W0 W W' : World} {tb : Nat} {L : List Mk} {K : List Nat} (h : TF W0 W tb L K) (hb : Below W.heap.size W W') {g : Nat} (h1 : W.heap.size ≤ g) (h2 : g < W'.heap.size) : TF W0 W' tb L (g :: K) := by
  obtain ⟨v, h3, h4⟩ := (h.later hb).has
  obtain ⟨v', h5, h6⟩ := h.has
  refine ⟨⟨v', h5.later hb, fun k hk => ?_⟩, (h.later hb).below, h.masks⟩
  rcases List.mem_cons.1 hk with rfl | hk
  · exact ⟨h2, fun hm => by have := (h5.lt k hm).2; omega⟩
  · exact ⟨Nat.lt_of_lt_of_le (h6 k hk).1 hb.size, (h6 k hk).2⟩
theorem TF.less {W0 W : World} {tb : Nat} {L : List Mk} {K : List Nat} (h : TF W0 W tb L K) : TF W0 W tb L [] := by
  obtain ⟨v, h1, h2⟩ := h.has
  exact ⟨⟨v, h1, fun k hk => by cases hk⟩, h.below, h.masks⟩
def Kept (K : List Nat) (w w' : World) : Prop := ∀ k, k ∈ K → w'.heap[k]? = w.heap[k]?
theorem TF.turned {W0 w w' : World} {tb : Nat} {v : Value} {L L' : List Mk} {K : List Nat} (h : TF W0 w tb L K) (hv : TS w W0.heap.size tb v L) (hk : ∀ k, k ∈ K → k < w.heap.size ∧ k ∉ tb :: ob v) (ht : TTurned w W0.heap.size tb v L' w') : TF W0 w' tb L' K ∧ Kept K w w' := by
  obtain ⟨v', h1, h2, h3⟩ := ht
  refine ⟨⟨⟨v', h1, fun k hkk => ?_⟩, h.below.trans (h2.below h.below.size (fun x hx => (hv.lt x hx).1)), h.masks⟩, fun k hkk => h2.block k (hk k hkk).1 (hk k hkk).2⟩
  obtain ⟨a, b⟩ := hk k hkk
  refine ⟨Nat.lt_of_lt_of_le a h2.size, fun hm => ?_⟩
  rcases List.mem_cons.1 hm with rfl | hm
  · exact b List.mem_cons_self
  · rcases h3 k hm with hh | hh
    · exact b (List.mem_cons_of_mem _ hh)
    · omega
theorem tf_new {w : World} (hM : Masks w) : Calls Tryz.prog 29 #[] w fun e w' => e = .returned (.pointer (some ⟨w.heap.size, 0, none⟩)) ∧ TF w w' w.heap.size [] [] := by
  refine (ts_new w).mono ?_
  rintro e w' ⟨rfl, hT, hb⟩
  exact ⟨rfl, ⟨⟨_, hT, fun k hk => by cases hk⟩, hb, hM⟩⟩
theorem tf_put {W0 w : World} {tb : Nat} {L : List Mk} {K : List Nat} (h : TF W0 w tb L K) (hl : L.length ≤ 999) (id x y : Int) :
    Calls Tryz.prog 70 #[.pointer (some ⟨tb, 0, none⟩), .int .i64 id, pt x y] w fun e w' => e = .returned (.int .i64 (rptE id x y L)) ∧ TF W0 w' tb (rptS id x y L) K ∧ Kept K w w' := by
  obtain ⟨v, h1, h2⟩ := h.has
  refine (ts_put h1 hl h.mask h.below.size id x y).mono ?_
  rintro e w' ⟨rfl, hT⟩
  exact ⟨rfl, h.turned h1 h2 hT⟩
theorem tf_move {W0 w : World} {tb : Nat} {L : List Mk} {K : List Nat} (h : TF W0 w tb L K) (hl : L.length ≤ 999) (id x y : Int) :
    Calls Tryz.prog 69 #[.pointer (some ⟨tb, 0, none⟩), .int .i64 id, pt x y] w fun e w' => e = .returned (.int .i64 (rmvE id x y L)) ∧ TF W0 w' tb (rmvS id x y L) K ∧ Kept K w w' := by
  obtain ⟨v, h1, h2⟩ := h.has
  refine (ts_move h1 hl h.mask h.below.size h.zero id x y).mono ?_
  rintro e w' ⟨rfl, hT⟩
  exact ⟨rfl, h.turned h1 h2 hT⟩
theorem tf_drop {W0 w : World} {tb : Nat} {L : List Mk} {K : List Nat} (h : TF W0 w tb L K) (hl : L.length ≤ 999) (id : Int) :
    Calls Tryz.prog 89 #[.pointer (some ⟨tb, 0, none⟩), .int .i64 id] w fun e w' => e = .returned (.int .i64 (rdrE id L)) ∧ TF W0 w' tb (rdrS id L) K ∧ Kept K w w' := by
  obtain ⟨v, h1, h2⟩ := h.has
  refine (ts_drop h1 hl id).mono ?_
  rintro e w' ⟨rfl, hT⟩
  exact ⟨rfl, h.turned h1 h2 hT⟩
theorem tf_in {W0 w : World} {tb : Nat} {L : List Mk} {K : List Nat} (h : TF W0 w tb L K) (hl : L.length ≤ 999) (r0 r1 r2 r3 : Int) {M : List Int} (hM : Hid (rinL L ⟨r0, r1, r2, r3⟩ = M)) :
    Calls Tryz.prog 42 #[.pointer (some ⟨tb, 0, none⟩), rc r0 r1 r2 r3] w fun e w' => ∃ p cap, e = .returned (.slice p M.length cap) ∧ w'.ownsRow w.heap.size 3 1 (.slice p M.length cap) M.length (flatG cI M) ∧ Below w.heap.size w w' := by
  obtain ⟨v, h1, h2⟩ := h.has
  rw [← hM.out]
  exact ts_in h1 hl h.mask r0 r1 r2 r3
theorem tf_len {W0 w : World} {tb : Nat} {L : List Mk} {K : List Nat} (h : TF W0 w tb L K) {n : Nat} (hn : Hid (L.length = n)) :
    Calls Tryz.prog 95 #[.pointer (some ⟨tb, 0, none⟩)] w fun e w' => e = .returned (.int .i64 (n : Nat)) ∧ w' = w := by
  obtain ⟨v, h1, h2⟩ := h.has
  rw [← hn.out]
  exact ts_len h1
/-- how deep the document's tree is -/
def dep (L : List Mk) : Nat := rdp L 4 ⟨0, 0, 64, 64⟩ 0
theorem tf_copy {W0 w : World} {tb : Nat} {L : List Mk} {K : List Nat} (h : TF W0 w tb L K) (hl : L.length ≤ 999) :
    Calls Tryz.prog 31 #[.pointer (some ⟨tb, 0, none⟩)] w fun e w' => ∃ cb, e = .returned (.pointer (some ⟨cb, 0, none⟩)) ∧ TF w w' cb L [] ∧ Below w.heap.size w w' := by
  obtain ⟨v, h1, h2⟩ := h.has
  refine (ts_copy h1 hl).mono ?_
  rintro e w' ⟨cb, v', rfl, hT, hb⟩
  exact ⟨cb, rfl, ⟨⟨v', hT, fun k hk => by cases hk⟩, hb, h.mask⟩, hb⟩
end
end Go.Proofs.YtfoncphdbaaedaaGreatDoor
