/- Contract of leaves over this translation: the walk with a stack finds the squares that the plain function says; nothing that was there is changed. -/
import Derived.Test.YtildhbkcpehobaaGreatDoorQdL
import Derived.WalkMore
import Derived.Deep.RegionLaw
namespace Go.Proofs.YtildhbkcpehobaaGreatDoor
open Go.RowKit
set_option linter.unusedVariables false
theorem Tryz.info96 : (Tryz.prog.info? 96).map (fun i => (i.zero, i.size, i.bytes)) = some (some (.agg #[.int .i64 0, .int .u32 0]), 2, 16) := by kernel_rfl
theorem info_parts3 {t : TypeId} {z : Value} {s b : Nat} (h : (Tryz.prog.info? t).map (fun i => (i.zero, i.size, i.bytes)) = some (some z, s, b)) : ∃ i, Tryz.prog.info? t = some i ∧ i.zero = some z ∧ i.size = s ∧ i.bytes = b := by
  cases hi : Tryz.prog.info? t with
  | none => rw [hi] at h; cases h
  | some i =>
    rw [hi] at h
    simp at h
    exact ⟨i, rfl, h.1, h.2.1, h.2.2⟩
theorem rect_at {s : Sq} {x0 y0 x1 y1 : Int} (h : Hid (rectS s = ⟨x0, y0, x1, y1⟩)) (w : World) (hM : Masks w) (hd : s.d ≤ 4) (hb : s.b ≤ 100000) : Calls Tryz.prog 74 #[.agg #[.int .i64 (s.d : Nat), .int .u32 (s.b : Nat)]] w fun e w' => e = .returned (rc x0 y0 x1 y1) ∧ Below w.heap.size w w' := by
  have := sq_rect s.d s.b w hM hd hb
  rw [show (⟨s.d, s.b⟩ : Sq) = s from rfl, h.out] at this
  exact this
theorem empty_at {x0 y0 x1 y1 : Int} {q : Bool} (h : Hid (emptyB ⟨x0, y0, x1, y1⟩ = q)) (w : World) : Calls Tryz.prog 72 #[rc x0 y0 x1 y1] w fun e w' => e = .returned (.bool q) ∧ Below w.heap.size w w' := by
  rw [← h.out]; exact geom_empty w x0 y0 x1 y1
set_option maxHeartbeats 4000000 in
theorem tree_leaves {w : World} {base tb : Nat} {v : Value} {S : List Sp} (h : Tr w base tb v S) (hl : S.length ≤ 1000000) (hS : Rising S) (hM : Masks w) (r0 r1 r2 r3 : Int) :
    Calls Tryz.prog 57 #[.pointer (some ⟨tb, 0, none⟩), rc r0 r1 r2 r3] w fun e w' => ∃ p cap, e = .returned (.slice p (lv S ⟨r0, r1, r2, r3⟩ ⟨0, 0⟩).length cap) ∧ RowG Sq.cs 2 w' p (lv S ⟨r0, r1, r2, r3⟩ ⟨0, 0⟩) ∧ (∀ s ∈ lv S ⟨r0, r1, r2, r3⟩ ⟨0, 0⟩, okQ s) ∧ (lv S ⟨r0, r1, r2, r3⟩ ⟨0, 0⟩).length ≤ 3125 ∧ Below w.heap.size w w' := by
  obtain ⟨W0, hW0⟩ : ∃ W0, W0 = w.alloc (.cells #[.int .i64 r0, .int .i64 r1, .int .i64 r2, .int .i64 r3] 35) := ⟨_, rfl⟩
  have hB0 : Below w.heap.size w W0 := by rw [hW0]; exact below1 _ _
  have hsz : W0.heap.size = w.heap.size + 1 := by rw [hW0]; simp
  have KR := hid (show W0.heap[w.heap.size]? = some (.cells #[.int .i64 r0, .int .i64 r1, .int .i64 r2, .int .i64 r3] 35 (0, 0)) by rw [hW0]; exact new_at _ _ _ rfl)
  have HM := hid (hM.below hB0)
  have HT := hid (h.later hB0)
  clear h hM
  obtain ⟨r, hr⟩ : ∃ r : Rc, Hid (r = ⟨r0, r1, r2, r3⟩) := ⟨_, rfl⟩
  rw [← hr.out]
  obtain ⟨T, hT⟩ : ∃ T, Hid (lv S r ⟨0, 0⟩ = T) := ⟨_, rfl⟩
  rw [hT.out]
  obtain ⟨i0, hi, hz0, hz1, hz2⟩ := info_parts3 Tryz.info96
  go_enter Tryz.func57, Tryz.ntmps57
  go_wp2_with fail
  go_step3
  go_wp2_with fail
  go_step3
  go_wp2_with fail
  rw [← hW0]
  have hsz' : w.heap.size + 1 = W0.heap.size := hsz.symm
  rw [hsz']
  clear hW0 hsz'
  have HSZ := hid hsz
  clear hsz
  go_loopg [5, 6] 3125 (fun gg s5 s6 wr => ∃ (F K : List Sq), wt K ≤ gg ∧ F.length + wt K ≤ 3125 ∧ (∀ s ∈ K, okQ s) ∧ (∀ s ∈ F, okQ s) ∧ Hid (F ++ K.reverse.flatMap (lv S r) = T) ∧ wr.ownsRow W0.heap.size 96 2 s5 F.length (flatG Sq.cs F) ∧ wr.ownsRow W0.heap.size 96 2 s6 K.length (flatG Sq.cs K) ∧ s5.ownBlock ≠ s6.ownBlock ∧ s6.ownBlock ≠ none ∧ Below W0.heap.size W0 wr)
  case atStart =>
    refine ⟨[], [⟨0, 0⟩], by simp [wt], by simp [wt], by simp [okQ_root], by simp, (by show [] ++ [(⟨0, 0⟩ : Sq)].reverse.flatMap (lv S r) = T; rw [← hT.out]; simp), World.ownsRow_nil _ _ _ _, ?_, by simp [Value.ownBlock], by simp [Value.ownBlock], below1 _ _⟩
    exact ⟨rfl, .inr ⟨W0.heap.size, 1, _, rfl, Nat.le_refl _, new_at _ _ _ rfl, by simp, by unfold maxLen; omega, rfl, rfl⟩⟩
  case round =>
    obtain ⟨F, K, hw1, hw2, hK, hF, hdo, ho5, ho6, hne, hnn, hb⟩ := hrel
    obtain ⟨p5, c5, rfl⟩ := owns_slice ho5
    obtain ⟨p6, c6, rfl⟩ := owns_slice ho6
    have HF := hid hF
    have HK := hid hK
    clear hF hK
    rcases List.eq_nil_or_concat K with rfl | ⟨K', s, hKs⟩
    · have hend : F = T := by simpa using hdo.out
      subst hend
      have hrow := hid (row_own Sq.z ho5 rfl)
      have hBB := hid (below_on hB0 hb)
      have hlen : F.length ≤ 3125 := by omega
      clear hdo ho5 ho6 hb hne
      go_wp2_with fail
      rw [Exit.noGoto_ret]
      go_ret
      exact ⟨_, _, rfl, hrow.out, HF.out, hlen, hBB.out⟩
    · rw [List.concat_eq_append] at hKs
      subst hKs
      obtain ⟨n, hn⟩ : ∃ n, K'.length = n := ⟨_, rfl⟩
      have hKl : (K' ++ [s]).length = n + 1 := by simp [hn]
      rw [hKl] at ho6 hnn hne
      rw [hKl]
      have hok := HK.out s (by simp)
      have hws := wt_append K' [s]
      rw [wt_one] at hws
      have hwl := wt_len K'
      have hwp := wt_pos s
      have hnle : n ≤ 3125 := by omega
      obtain ⟨g6, rfl, hg6, hg6', hc6, hc6m⟩ := owns_some ho6 (by omega)
      have hc6' : n ≤ c6 := by omega
      have hc6'' : c6 ≤ 9223372036854775807 := by unfold maxLen at hc6m; omega
      have hrow6 := row_own Sq.z ho6 (by simp [hn])
      obtain ⟨_, _, e, hsq⟩ := square_at hrow6 (k := n) (a := s) (by simp [← hn])
      cases e
      simp only [Nat.zero_add] at hsq
      obtain ⟨sd, sb⟩ := s
      simp only at hsq
      have d1 : sd ≤ 4 := hok.1
      have d2 : sb ≤ 4096 := okQ_b hok
      obtain ⟨x0, y0, x1, y1, hx⟩ : ∃ x0 y0 x1 y1 : Int, Hid (rectS ⟨sd, sb⟩ = ⟨x0, y0, x1, y1⟩) := ⟨_, _, _, _, rfl⟩
      obtain ⟨m0, m1, m2, m3, hm⟩ : ∃ m0 m1 m2 m3 : Int, Hid (meetR ⟨x0, y0, x1, y1⟩ ⟨r0, r1, r2, r3⟩ = ⟨m0, m1, m2, m3⟩) := ⟨_, _, _, _, rfl⟩
      obtain ⟨q, hq⟩ : ∃ q, Hid (emptyB ⟨m0, m1, m2, m3⟩ = q) := ⟨_, rfl⟩
      have hmiss : Hid (missB r ⟨sd, sb⟩ = q) := by
        show missB r ⟨sd, sb⟩ = q
        unfold missB
        rw [hr.out, hx.out, hm.out, hq.out]
      have e1 := cell_regrown hsq.1
      have e2 := cell_regrown hsq.2
      have e3 := grown_cells (var_on hb KR.out (lt_of_at KR.out))
      have C1 : ∀ D os, Calls Tryz.prog 74 #[.agg #[.int .i64 (sd : Nat), .int .u32 (sb : Nat)]] (Sort.grow (redrawn wr D) os) _ := fun D os => rect_at hx _ ((HM.out.below hb).below (below_regrown wr D os)) d1 (by simp only; omega)
      have C2 := fun w => geom_meet_at hm w
      have C3 := fun w => empty_at hq w
      clear hrow6 hsq
      have HN := hid hn
      have hmsr1 : wt K' + 1 ≤ wt (K' ++ [⟨sd, sb⟩]) := by rw [hws]; simp only at hwp ⊢; omega
      have HWS := hid hws
      clear hws hKl hn hwp
      have hnz : (n : Int) < (n : Int) + 1 := by omega
      have hnz2 : ¬ ((n : Int) < 0) := by omega
      go_wp2_with fail
      refine wp_region_quiet_below (by kernel_rfl) (by kernel_rfl) ?_
      repeat (first | go_big_quiet_skip | (go_big_quiet_want; go_big_quiet_op; first | go_big_quiet_on | go_big_quiet_call (first | with_reducible exact Calls.regrown_of (C1 _ _) | with_reducible exact Calls.regrown_of (C2 _) | with_reducible exact Calls.regrown_of (C3 _))))
      refine wpQuiet_nil ?_
      intro W2 hw'
      obtain ⟨⟨dq, osq⟩, hw''⟩ := hw'
      have hb2 : Below wr.heap.size wr W2 := by rw [hw'']; exact below_regrown _ _ _
      clear hw'' e1 e2 e3 C1 C2 C3
      replace ho5 := owns_on ho5 hb2
      replace ho6 := owns_on ho6 hb2
      have hB2 := hb.trans (hb2.mono hb.size)
      have hg62 : g6 < W2.heap.size := by have := hb2.size; omega
      clear hb hb2 hx hm hq
      cases q
      · obtain ⟨q2, hq2⟩ : ∃ q2, Hid (splB S ⟨sd, sb⟩ = q2) := ⟨_, rfl⟩
        have C4 := tree_splits (HT.out.later hB2) hl hS sd sb d1 (by omega)
        rw [hq2.out] at C4
        have hrow6 := row_own Sq.z ho6 (by simp [HN.out])
        obtain ⟨_, _, e, hsq⟩ := square_at hrow6 (k := n) (a := ⟨sd, sb⟩) (by simp [← HN.out])
        cases e
        simp only [Nat.zero_add] at hsq
        have HSQ := hid hsq
        clear hrow6
        go_wp2_with fail
        refine C4.mono ?_
        rintro x W3 ⟨rfl, hb3⟩
        replace ho5 := owns_on ho5 hb3
        replace ho6 := owns_on ho6 hb3
        have hB3 := hB2.trans (hb3.mono hB2.size)
        have hg63 : g6 < W3.heap.size := by have := hb3.size; omega
        replace hsq : cells2 W3 g6 (n * 2) (.int .i64 (sd : Nat)) (.int .u32 (sb : Nat)) := ⟨cell_below hb3 HSQ.out.1, cell_below hb3 HSQ.out.2⟩
        clear C4 HSQ hb3 hB2 hg62
        have hs3 := hB3.size
        cases q2
        · go_wp2_with (at_builtin; refine wpList_append_lies _ rfl _ _ 93 rfl W0.heap.size 96 i0 (.agg #[.int .i64 0, .int .u32 0]) 2 16 Tryz.underlying93 hi hz0 hz1 hz2 rfl (by decide) _ _ _ rfl (ho5.alloc _) ⟨W3.heap.size, 0, none⟩ 1 1 (Sq.cs ⟨sd, sb⟩) rfl rfl (World.news_of_block (heap_alloc_new _ _)) (one_cell _) (by decide) (by unfold maxLen; omega) (by omega) (by simp; omega) _ rfl ?_)
          intro g cap w4 hown hgrow hat hg4
          have ho64 := (ho6.alloc (.cells #[.int .i64 (sd : Nat), .int .u32 (sb : Nat)] 96)).kept hgrow (.inr (fun e => hne e.symm))
          have hB4 := (hB3.alloc hs3 (.cells #[.int .i64 (sd : Nat), .int .u32 (sb : Nat)] 96)).grown hgrow (by simp; omega) (fun k hk => (ho5.lt k hk).1)
          have hgg : g ≠ g6 := by
            rcases hat with hat | hat
            · intro e
              subst e
              exact hne hat
            · omega
          clear hgrow hat ho5 ho6 hsq
          go_wp2_with fail
          go_roundg (wt K')
          case measure => omega
          case rel =>
            refine ⟨F ++ [⟨sd, sb⟩], K', Nat.le_refl _, by simp; omega, fun s hs => HK.out s (by simp [hs]), ?_, ?_, ?_, ?_, ?_, by simp [Value.ownBlock], hB4⟩
            · intro s hs
              rcases List.mem_append.1 hs with hs | hs
              · exact HF.out s hs
              · rw [List.mem_singleton.1 hs]; exact hok
            · exact (todo_leaf hmiss.out hq2.out).symm.trans hdo.out
            · rw [flatG_append, flatG_one, List.length_append]; exact hown
            · rw [HN.out]; exact owns_cut Sq.z ho64 HN.out
            · exact fun e => hgg (Option.some.inj e)
        · have d3 : sd ≤ 3 := by have := spl_lt hq2.out; simp only at this; omega
          have hw4 := wt_four (s := ⟨sd, sb⟩) (by simp only; omega)
          have ho6c := owns_cut Sq.z ho6 HN.out
          go_wp2_with fail
          refine (sq_quarters sd sb _ d3 d2).mono ?_
          rintro x W4 ⟨rfl, hb4⟩
          replace ho5 := owns_on ho5 hb4
          replace ho6c := owns_on ho6c hb4
          have hB4 := hB3.trans (hb4.mono hB3.size)
          have hg64 : g6 < W4.heap.size := by have := hb4.size; omega
          have hs4 := hB4.size
          clear hb4 ho6 hsq hB3 hs3 hg63
          have h4c : Hid (∀ u ∈ flatG Sq.cs (fourL ⟨sd, sb⟩), u.oneCell' = true) := four_cell _
          have hfl : Hid (flatG Sq.cs (fourL ⟨sd, sb⟩) = [.int .i64 ((partQ ⟨sd, sb⟩ 0).d : Nat), .int .u32 ((partQ ⟨sd, sb⟩ 0).b : Nat), .int .i64 ((partQ ⟨sd, sb⟩ 1).d : Nat), .int .u32 ((partQ ⟨sd, sb⟩ 1).b : Nat), .int .i64 ((partQ ⟨sd, sb⟩ 2).d : Nat), .int .u32 ((partQ ⟨sd, sb⟩ 2).b : Nat), .int .i64 ((partQ ⟨sd, sb⟩ 3).d : Nat), .int .u32 ((partQ ⟨sd, sb⟩ 3).b : Nat)]) := rfl
          unfold fourV
          obtain ⟨Q0, h0⟩ : ∃ Q0, Hid (partQ ⟨sd, sb⟩ 0 = Q0) := ⟨_, rfl⟩
          obtain ⟨Q1, h1⟩ : ∃ Q1, Hid (partQ ⟨sd, sb⟩ 1 = Q1) := ⟨_, rfl⟩
          obtain ⟨Q2, h2⟩ : ∃ Q2, Hid (partQ ⟨sd, sb⟩ 2 = Q2) := ⟨_, rfl⟩
          obtain ⟨Q3, h3⟩ : ∃ Q3, Hid (partQ ⟨sd, sb⟩ 3 = Q3) := ⟨_, rfl⟩
          rw [h0.out, h1.out, h2.out, h3.out] at hfl ⊢
          go_wp2_with fail
          have hnews : Hid (∀ j u, (flatG Sq.cs (fourL ⟨sd, sb⟩))[j]? = some u → (W4.alloc (.cells #[.int .i64 (Q0.d : Nat), .int .u32 (Q0.b : Nat), .int .i64 (Q1.d : Nat), .int .u32 (Q1.b : Nat), .int .i64 (Q2.d : Nat), .int .u32 (Q2.b : Nat), .int .i64 (Q3.d : Nat), .int .u32 (Q3.b : Nat)] 113)).cell? ((⟨W4.heap.size, 0, none⟩ : Addr).add j) = some u) := by
            show ∀ j u, _
            rw [hfl.out]
            exact World.news_of_block (heap_alloc_new _ _)
          have hnl : Hid ((flatG Sq.cs (fourL ⟨sd, sb⟩)).length = 4 * 2) := flatG_length Sq.z _
          have HO := hid (ho6c.alloc (.cells #[.int .i64 (Q0.d : Nat), .int .u32 (Q0.b : Nat), .int .i64 (Q1.d : Nat), .int .u32 (Q1.b : Nat), .int .i64 (Q2.d : Nat), .int .u32 (Q2.b : Nat), .int .i64 (Q3.d : Nat), .int .u32 (Q3.b : Nat)] 113))
          have hb63 : Hid (n + 4 ≤ maxLen) := by show n + 4 ≤ maxLen; unfold maxLen; omega
          go_region_law (refine step_append_lies _ rfl (.tmp 53) (.tmp 54) 93 rfl W0.heap.size 96 i0 (.agg #[.int .i64 0, .int .u32 0]) 2 16 Tryz.underlying93 hi hz0 hz1 hz2 rfl (by decide) (.slice (some ⟨g6, 0, none⟩) n c6) n (flatG Sq.cs K') (by simp [Act.eval, Act.put]) HO.out ⟨W4.heap.size, 0, none⟩ 4 4 (flatG Sq.cs (fourL ⟨sd, sb⟩)) (by simp [Act.eval, Act.put]) hnl.out hnews.out h4c.out (by decide) hb63.out (by omega) (by simp; omega) _ rfl ?_; intro g cap w5 hown hgrow hat hg5)
          have ho5a : (World.drew (W4.alloc (.cells #[.int .i64 (Q0.d : Nat), .int .u32 (Q0.b : Nat), .int .i64 (Q1.d : Nat), .int .u32 (Q1.b : Nat), .int .i64 (Q2.d : Nat), .int .u32 (Q2.b : Nat), .int .i64 (Q3.d : Nat), .int .u32 (Q3.b : Nat)] 113))).ownsRow W0.heap.size 96 2 _ _ _ := ho5.alloc _
          have ho55 := ho5a.kept hgrow (.inr hne)
          have hB5 := (hB4.alloc hs4 (.cells #[.int .i64 (Q0.d : Nat), .int .u32 (Q0.b : Nat), .int .i64 (Q1.d : Nat), .int .u32 (Q1.b : Nat), .int .i64 (Q2.d : Nat), .int .u32 (Q2.b : Nat), .int .i64 (Q3.d : Nat), .int .u32 (Q3.b : Nat)] 113)).drew.grown hgrow (by show W0.heap.size ≤ (W4.alloc _).heap.size; rw [World.size_alloc]; omega) (fun k hk => by cases hk; exact hg6)
          have hgg : Hid ((Value.slice p5 F.length c5).ownBlock ≠ some g) := by
            intro e
            have hlt := (ho5.lt g e).2
            rcases hat with hat | hat
            · exact hne (e.trans hat.symm)
            · have hat' : g = (W4.alloc (.cells #[.int .i64 (Q0.d : Nat), .int .u32 (Q0.b : Nat), .int .i64 (Q1.d : Nat), .int .u32 (Q1.b : Nat), .int .i64 (Q2.d : Nat), .int .u32 (Q2.b : Nat), .int .i64 (Q3.d : Nat), .int .u32 (Q3.b : Nat)] 113)).heap.size := hat
              rw [World.size_alloc] at hat'
              omega
          clear hgrow hat ho5 ho5a ho6c HO hnews
          go_wp2_with fail
          go_roundg (wt (K' ++ fourL ⟨sd, sb⟩))
          case measure =>
            rw [wt_append]
            have := HWS.out
            try simp only at this
            try simp only at hw4
            omega
          case rel =>
            refine ⟨F, K' ++ fourL ⟨sd, sb⟩, Nat.le_refl _, ?_, ?_, HF.out, ?_, ho55, ?_, hgg.out, by simp [Value.ownBlock], hB5⟩
            · rw [wt_append]
              have := HWS.out
              try simp only at this
              try simp only at hw4
              omega
            · intro s hs
              rcases List.mem_append.1 hs with hs | hs
              · exact HK.out s (by simp [hs])
              · simp only [fourL, List.mem_cons, List.not_mem_nil, or_false] at hs
                rcases hs with rfl | rfl | rfl | rfl <;> exact okQ_part hok d3 (by omega)
            · exact (todo_split hmiss.out hq2.out).symm.trans hdo.out
            · rw [flatG_append, List.length_append, HN.out]; exact hown
      · go_wp2_with fail
        go_roundg (wt K')
        case measure => omega
        case rel =>
          refine ⟨F, K', Nat.le_refl _, by omega, fun s hs => HK.out s (by simp [hs]), HF.out, ?_, ho5, ?_, hne, hnn, hB2⟩
          · exact (todo_miss hmiss.out).symm.trans hdo.out
          · rw [HN.out]; exact owns_cut Sq.z ho6 HN.out
end Go.Proofs.YtildhbkcpehobaaGreatDoor
