/- Contract of the reference's Is of notes. -/
import Derived.Test.YtpedngbjpbeanaaGreatDoorNtRt
import Derived.Test.YtpedngbjpbeanaaGreatDoorCJ
import Derived.Test.YtpedngbjpbeanaaGreatDoorNtI
namespace Go.Proofs.YtpedngbjpbeanaaGreatDoor
open Go.RowKit
set_option linter.unusedVariables false
set_option maxRecDepth 100000
theorem refT17_at {p : Option Addr} {cap : Nat} {L : List Th} {q : Bool} (h : Hid ((good L && decide (L.length ≤ 200)) = q)) {w : World} (hr : RowT w p L) (hi : ∀ t ∈ L, inT t) (hm : L.length ≤ maxLen) : Calls Tryz.prog 21 #[.slice p L.length cap] w fun e w' => e = .returned (.bool q) ∧ Below w.heap.size w w' :=
  ref_things17 w p cap L.length L q h (hid rfl) hr hi hm
theorem refX_at {c : Cm} {q : Bool} (h : Hid (isCm c = q)) (hs : sizedC c) (w : World) : Calls Tryz.prog 23 #[c.v] w fun e w' => e = .returned (.bool q) ∧ Below w.heap.size w w' := by
  have := refcm_is w c hs
  rw [(isX_isC c).trans h.out] at this
  exact this
theorem refW_at {c : Cm} {q : Bool} (h : Hid (watchB c.kd = q)) (w : World) : Calls Tryz.prog 24 #[c.v] w fun e w' => e = .returned (.bool q) ∧ Below w.heap.size w w' := by
  have := ref_watches w c
  rw [h.out] at this
  exact this
theorem refC_at {x y : Int} {c : Nat} {e : Int} (h : Hid (ofN x y = c)) (h' : Hid (ofE x y = e)) (w : World) : Calls Tryz.prog 25 #[pt x y] w fun r w' => r = .returned (.tuple #[.int .i64 c, .int .i64 e]) ∧ Below w.heap.size w w' := by
  rw [← h.out, ← h'.out]; exact ref_cell w x y
theorem refIC_at {c : Int} {q : Bool} (h : Hid (isC c = q)) (w : World) : Calls Tryz.prog 22 #[.int .i64 c] w fun e w' => e = .returned (.bool q) ∧ Below w.heap.size w w' := by
  refine (ref_is_cell w c).mono ?_
  rintro r w' ⟨rfl, rfl⟩
  exact ⟨by rw [h.out], Below.refl _ _⟩
theorem wpList_load_mid_cmG {ops : Array Oper} {rest : List Oper} {o : Oper} {a : Act} {W : World} {Q : Exit → Act → World → Prop} (hw : Region.wanted o (yielded ops a.tmps) = true) (x : Operand) (ho : o.op = .load 57 x)
    {b p : Nat} {c : Cm} (hx : a.eval x = .pointer (some ⟨b, p, none⟩)) (h : W.rangeAt b p c.cs) (k : wpList Tryz.prog ops Q rest (a.put o.dst c.v) W) : wpList Tryz.prog ops Q (o :: rest) a W := by
  rw [wpList, if_pos hw]
  exact .inl (wp_load_mid _ x ho b p hx c.cs _ h Tryz.underlying57 rfl Tryz.size30 k)
theorem no_refN {n : Nt} {k kk : Int} {R : Bool} (hR : isN n k = R) (hk : min k 4 = kk) (h : RefN n kk → False) : R = false := by
  cases R with
  | false => rfl
  | true => exact (h ((refN_iff hk).1 hR)).elim
set_option maxHeartbeats 8000000 in
theorem refnote_is {w : World} {n : Nt} {s : Ns} {k : Int} {R : Bool} (hr : RowN w s n) (ha : AskN n) (hR : Hid (isN n k = R)) :
    Calls Tryz.prog 8 #[n.v s, .int .i64 k] w fun e w' => e = .returned (.bool R) ∧ Below w.heap.size w w' := by
  obtain ⟨kk, hkk⟩ : ∃ kk, Hid (min k 4 = kk) := ⟨_, rfl⟩
  have NO := hid (fun (h : RefN n kk → False) => no_refN hR.out hkk.out h)
  have YES := hid (fun (h : RefN n kk) => (hR.out.symm.trans ((refN_iff hkk.out).2 h) : R = true))
  obtain ⟨W, hW⟩ : ∃ W, W = w.alloc (n.o s) := ⟨_, rfl⟩
  have hB := hid (show Below w.heap.size w W by rw [hW]; exact below1 _ _)
  have hA := hid (show W.heap[w.heap.size]? = some (n.o s) by rw [hW]; exact new_at _ _ _ rfl)
  have HR := hid hr
  have HA := hid ha
  obtain ⟨q2, h2⟩ : ∃ q, Hid ((good n.mo && decide (n.mo.length ≤ 200)) = q) := ⟨_, rfl⟩
  obtain ⟨q4, h4⟩ : ∃ q, Hid ((good n.gi && decide (n.gi.length ≤ 200)) = q) := ⟨_, rfl⟩
  have C2 := hid (fun (w' : World) (hb : Below w.heap.size w w') => refT17_at (cap := s.cm) h2 (hr.later hb).mo ha.mo ha.len.mo)
  have C4 := hid (fun (w' : World) (hb : Below w.heap.size w w') => refT17_at (cap := s.cg) h4 (hr.later hb).gi ha.gi ha.len.gi)
  have lmo : n.mo.length ≤ 9223372036854775807 := by have := ha.len.mo; unfold maxLen at this; omega
  have lgi : n.gi.length ≤ 9223372036854775807 := by have := ha.len.gi; unfold maxLen at this; omega
  have lha : n.ha.length ≤ 9223372036854775807 := by have := ha.len.ha; unfold maxLen at this; omega
  have lwa : n.wa.length ≤ 9223372036854775807 := by have := ha.len.wa; unfold maxLen at this; omega
  clear hr ha hR
  go_enter Tryz.func8, Tryz.ntmps8
  go_upto_region 1 with fail
  rw [← hW]
  clear hW
  go_upto_region 2 with fail
  rw [show min k 4 = kk from hkk.out]
  clear hkk
  have cA := (cells_at hA.out).1
  have lA := at_lt hA.out
  by_cases x1 : 0 ≤ n.fr
  rotate_left
  · have d1 : decide (n.fr < 0) = true := by simp; omega
    obtain rfl := NO.out (fun h => x1 h.fr.1)
    go_wp2_with fail
    go_ret
    exact ⟨rfl, hB.out⟩
  have d1 : decide (n.fr < 0) = false := by simp; omega
  by_cases x2 : n.fr < kk
  rotate_left
  · have d2 : decide (kk ≤ n.fr) = true := by simp; omega
    obtain rfl := NO.out (fun h => x2 h.fr.2)
    go_wp2_with fail
    go_ret
    exact ⟨rfl, hB.out⟩
  have d2 : decide (kk ≤ n.fr) = false := by simp; omega
  by_cases x3 : 0 ≤ n.be
  rotate_left
  · have d3 : decide (n.be < 0) = true := by simp; omega
    obtain rfl := NO.out (fun h => x3 h.be.1)
    go_wp2_with fail
    go_ret
    exact ⟨rfl, hB.out⟩
  have d3 : decide (n.be < 0) = false := by simp; omega
  by_cases x4 : n.be ≤ 1073741824
  rotate_left
  · have d4 : decide ((1073741824 : Int) < n.be) = true := by simp; omega
    obtain rfl := NO.out (fun h => x4 h.be.2)
    go_wp2_with fail
    go_ret
    exact ⟨rfl, hB.out⟩
  have d4 : decide ((1073741824 : Int) < n.be) = false := by simp; omega
  have X1 := hid x1
  have X2 := hid x2
  have X3 := hid x3
  have X4 := hid x4
  clear x1 x2 x3 x4
  go_wp2_with fail
  refine (C2.out _ hB.out).mono ?_
  rintro x W1 ⟨rfl, hb⟩
  have hB1 := hid (below_on hB.out hb)
  have hA1 := hid (var_on hb hA.out lA)
  clear hb hB hA cA lA C2 d1 d2 d3 d4
  have cA := (cells_at hA1.out).1
  have lA := at_lt hA1.out
  cases q2
  · obtain rfl := NO.out (fun h => by have := h.mo; rw [h2.out] at this; cases this)
    go_wp2_with fail
    go_ret
    exact ⟨rfl, hB1.out⟩
  go_wp2_with fail
  refine (C4.out _ hB1.out).mono ?_
  rintro x W2 ⟨rfl, hb⟩
  have hB2 := hid (below_on hB1.out hb)
  have hA2 := hid (var_on hb hA1.out lA)
  clear hb hB1 hA1 cA lA C4
  have cA := (cells_at hA2.out).1
  have lA := at_lt hA2.out
  cases q4
  · obtain rfl := NO.out (fun h => by have := h.gi; rw [h4.out] at this; cases this)
    go_wp2_with fail
    go_ret
    exact ⟨rfl, hB2.out⟩
  by_cases x5 : n.ha.length ≤ 16
  rotate_left
  · have d5 : decide ((16 : Int) < (n.ha.length : Int)) = true := by simp; omega
    obtain rfl := NO.out (fun h => x5 h.nh)
    go_wp2_with fail
    go_ret
    exact ⟨rfl, hB2.out⟩
  have d5 : decide ((16 : Int) < (n.ha.length : Int)) = false := by simp; omega
  by_cases x6 : n.wa.length ≤ 20
  rotate_left
  · have d6 : decide ((20 : Int) < (n.wa.length : Int)) = true := by simp; omega
    obtain rfl := NO.out (fun h => x6 h.nw)
    go_wp2_with fail
    go_ret
    exact ⟨rfl, hB2.out⟩
  have d6 : decide ((20 : Int) < (n.wa.length : Int)) = false := by simp; omega
  have X5 := hid x5
  have X6 := hid x6
  clear x5 x6
  go_wp2_with fail
  clear d5 d6 cA lA
  go_loopw [6] (fun i wr => ∃ j : Nat, j ≤ n.ha.length ∧ i = .int .i64 j ∧ Hid (∀ i a, i < j → n.ha[i]? = some a → handG n.fr kk (prevK zH (·.c) n.ha (-1) i) a = true) ∧ Hid (wr.heap[w.heap.size]? = some (n.o s)) ∧ Hid (Below w.heap.size w wr)) (fun i _ => n.ha.length - (intOf i).toNat)
  case atStart => exact ⟨0, by omega, rfl, hid (fun i a hi => by omega), hA2, hB2⟩
  case round =>
    obtain ⟨j, hj, rfl, HO, hA3, hb⟩ := hrel
    clear hA2 hB2
    have cA := (cells_at hA3.out).1
    have lA := at_lt hA3.out
    have hwr := hb.out.size
    by_cases hlt : j < n.ha.length
    · have hlt' : (j : Int) < (n.ha.length : Int) := by omega
      obtain ⟨h, hk⟩ := get_some n.ha j hlt
      obtain ⟨b, off, hp, hc⟩ := (HR.out.ha.later hb.out).at hk
      have c0 := hc 0 _ rfl
      have c1 := hc 1 _ rfl
      rw [Nat.add_zero] at c0
      rw [hp] at cA
      have HK := hid hk
      clear hc hk
      obtain ⟨hc, hu⟩ := h
      obtain ⟨V, hV⟩ : ∃ V, V = wr.alloc (Hd.o ⟨hc, hu⟩) := ⟨_, rfl⟩
      have hBv := hid (show Below w.heap.size w V by rw [hV]; exact hb.out.alloc hwr _)
      have hAv := hid (show V.heap[w.heap.size]? = some (n.o s) by rw [hV]; exact old_at hA3.out _)
      have Hv := hid (show V.heap[wr.heap.size]? = some (Hd.o ⟨hc, hu⟩) by rw [hV]; exact new_at _ _ _ rfl)
      go_upto_region 8 with fail
      rw [← hV]
      obtain ⟨gv, hgv⟩ : ∃ gv, Hid (wr.heap.size = gv) := ⟨_, rfl⟩
      rw [hgv.out] at Hv ⊢
      clear hV hgv c0 c1 cA hA3 hb
      have hGA : ∀ d os, (Sort.grow (redrawn V d) os).cell? ⟨w.heap.size, 0, none⟩ = some (.int .i64 n.fr) := fun d os => by rw [grown_cells hAv.out 0 d os]; rfl
      have hGB : ∀ d os, (Sort.grow (redrawn V d) os).cell? ⟨w.heap.size, 3, none⟩ = some (.slice (some ⟨b, off, none⟩) n.ha.length s.ch) := fun d os => by rw [grown_cells hAv.out 3 d os, ← hp]; rfl
      have hGC : ∀ d os, (Sort.grow (redrawn V d) os).cell? ⟨gv, 0, none⟩ = some (.int .i64 hc) := fun d os => by rw [grown_cells Hv.out 0 d os]; rfl
      have hGD : ∀ d os, (Sort.grow (redrawn V d) os).cell? ⟨gv, 1, none⟩ = some (.int .i64 hu) := fun d os => by rw [grown_cells Hv.out 1 d os]; rfl
      have hfin : ∀ d os, Hid (Below w.heap.size w (Sort.grow (redrawn V d) os) ∧ (Sort.grow (redrawn V d) os).heap[w.heap.size]? = some (n.o s)) := fun d os => ⟨below_on hBv.out (below_regrown V d os), var_on (below_regrown V d os) hAv.out (at_lt hAv.out)⟩
      obtain ⟨qc, hqc⟩ : ∃ q, Hid (isC hc = q) := ⟨_, rfl⟩
      have IS := fun w => refIC_at hqc w
      have HP := hid (fun (d : Nat) (h : Hd) (hk : n.ha[d]? = some h) => (HR.out.ha.later hBv.out).at hk)
      have hpb := hid hp
      clear hBv hAv Hv lA hwr hp
      cases qc
      · refine wp_region_quiet_below (by kernel_rfl) (by kernel_rfl) ?_
        repeat (first | go_big_quiet_skip | (go_big_quiet_want; go_big_quiet_op; first | go_big_quiet_on | go_big_quiet_call (exact Calls.regrown_of (IS _))))
        refine wpQuiet_nil ?_
        intro _ hw'
        obtain ⟨⟨dq, osq⟩, hw''⟩ := hw'
        subst hw''
        have hB4 := hfin dq osq
        obtain ⟨W8, hW8⟩ : ∃ W8, Sort.grow (redrawn V dq) osq = W8 := ⟨_, rfl⟩
        rw [hW8] at hB4 ⊢
        clear hW8 hGA hGB hGC hGD hfin
        obtain rfl := NO.out (fun h => by
          have := h.ha j _ HK.out
          unfold handG belB at this
          simp only [Bool.and_eq_true, decide_eq_true_eq, Bool.not_eq_true', beq_eq_false_iff_ne] at this
          rw [hqc.out] at this; exact absurd this.1.1.1 (by simp))
        go_wp2_with fail
        go_ret
        exact ⟨rfl, hB4.out.1⟩
      by_cases y1 : 0 ≤ hu
      rotate_left
      · have d1 : decide (hu < 0) = true := by simp; omega
        refine wp_region_quiet_below (by kernel_rfl) (by kernel_rfl) ?_
        repeat (first | go_big_quiet_skip | (go_big_quiet_want; go_big_quiet_op; first | go_big_quiet_on | go_big_quiet_call (exact Calls.regrown_of (IS _))))
        refine wpQuiet_nil ?_
        intro _ hw'
        obtain ⟨⟨dq, osq⟩, hw''⟩ := hw'
        subst hw''
        have hB4 := hfin dq osq
        obtain ⟨W8, hW8⟩ : ∃ W8, Sort.grow (redrawn V dq) osq = W8 := ⟨_, rfl⟩
        rw [hW8] at hB4 ⊢
        clear hW8 hGA hGB hGC hGD hfin
        obtain rfl := NO.out (fun h => by
          have := h.ha j _ HK.out
          unfold handG belB at this
          simp only [Bool.and_eq_true, decide_eq_true_eq, Bool.not_eq_true', beq_eq_false_iff_ne] at this
          exact y1 this.1.2.1)
        go_wp2_with fail
        go_ret
        exact ⟨rfl, hB4.out.1⟩
      have d1 : decide (hu < 0) = false := by simp; omega
      by_cases y2 : hu < kk
      rotate_left
      · have d2 : decide (kk ≤ hu) = true := by simp; omega
        refine wp_region_quiet_below (by kernel_rfl) (by kernel_rfl) ?_
        repeat (first | go_big_quiet_skip | (go_big_quiet_want; go_big_quiet_op; first | go_big_quiet_on | go_big_quiet_call (exact Calls.regrown_of (IS _))))
        refine wpQuiet_nil ?_
        intro _ hw'
        obtain ⟨⟨dq, osq⟩, hw''⟩ := hw'
        subst hw''
        have hB4 := hfin dq osq
        obtain ⟨W8, hW8⟩ : ∃ W8, Sort.grow (redrawn V dq) osq = W8 := ⟨_, rfl⟩
        rw [hW8] at hB4 ⊢
        clear hW8 hGA hGB hGC hGD hfin
        obtain rfl := NO.out (fun h => by
          have := h.ha j _ HK.out
          unfold handG belB at this
          simp only [Bool.and_eq_true, decide_eq_true_eq, Bool.not_eq_true', beq_eq_false_iff_ne] at this
          exact y2 this.1.2.2)
        go_wp2_with fail
        go_ret
        exact ⟨rfl, hB4.out.1⟩
      have d2 : decide (kk ≤ hu) = false := by simp; omega
      by_cases y3 : ¬ hu = n.fr
      rotate_left
      · have d3 : (hu == n.fr) = true := by simpa using y3
        refine wp_region_quiet_below (by kernel_rfl) (by kernel_rfl) ?_
        repeat (first | go_big_quiet_skip | (go_big_quiet_want; go_big_quiet_op; first | go_big_quiet_on | go_big_quiet_call (exact Calls.regrown_of (IS _))))
        refine wpQuiet_nil ?_
        intro _ hw'
        obtain ⟨⟨dq, osq⟩, hw''⟩ := hw'
        subst hw''
        have hB4 := hfin dq osq
        obtain ⟨W8, hW8⟩ : ∃ W8, Sort.grow (redrawn V dq) osq = W8 := ⟨_, rfl⟩
        rw [hW8] at hB4 ⊢
        clear hW8 hGA hGB hGC hGD hfin
        obtain rfl := NO.out (fun h => by
          have := h.ha j _ HK.out
          unfold handG belB at this
          simp only [Bool.and_eq_true, decide_eq_true_eq, Bool.not_eq_true', beq_eq_false_iff_ne] at this
          exact y3 this.2)
        go_wp2_with fail
        go_ret
        exact ⟨rfl, hB4.out.1⟩
      have d3 : (hu == n.fr) = false := by simpa using y3
      by_cases hj0 : j = 0
      · subst hj0
        have d4 : decide ((0 : Int) < ((0 : Nat) : Int)) = false := rfl
        have hok := hid (show handG n.fr kk (prevK zH (·.c) n.ha (-1) 0) ⟨hc, hu⟩ = true by
          have hcc := hqc.out
          unfold handG belB prevK
          unfold isC at hcc ⊢
          simp only [Bool.and_eq_true, decide_eq_true_eq] at hcc
          simp only [Bool.and_eq_true, decide_eq_true_eq, Bool.not_eq_true', beq_eq_false_iff_ne]
          refine ⟨⟨⟨hcc, ?_⟩, y1, y2⟩, y3⟩
          show (-1 : Int) < hc
          omega)
        refine wp_region_quiet_below (by kernel_rfl) (by kernel_rfl) ?_
        repeat (first | go_big_quiet_skip | (go_big_quiet_want; go_big_quiet_op; first | go_big_quiet_on | go_big_quiet_call (exact Calls.regrown_of (IS _))))
        refine wpQuiet_nil ?_
        intro _ hw'
        obtain ⟨⟨dq, osq⟩, hw''⟩ := hw'
        subst hw''
        have hB4 := hfin dq osq
        obtain ⟨W8, hW8⟩ : ∃ W8, Sort.grow (redrawn V dq) osq = W8 := ⟨_, rfl⟩
        rw [hW8] at hB4 ⊢
        clear hW8 hGA hGB hGC hGD hfin
        go_wp2_with fail
        go_roundw
        case rel =>
          refine ⟨1, by omega, by first | rfl | go_num, hid (fun i a hi ha => ?_), hid hB4.out.2, hid hB4.out.1⟩
          by_cases e : i = 0
          · subst e
            have := Option.some.inj (HK.out.symm.trans ha)
            subst this
            exact hok.out
          · exact HO.out i a (by omega) ha
        case measure => simp [intOf]; omega
      · obtain ⟨m, rfl⟩ : ∃ m, j = m + 1 := ⟨j - 1, by omega⟩
        obtain ⟨hprev, hkp⟩ := get_some n.ha m (by omega)
        obtain ⟨b2, off2, e2, hc2⟩ := HP.out m hprev hkp
        obtain ⟨rfl, rfl⟩ : b2 = b ∧ off2 = off := by
          have := e2.symm.trans hpb.out
          simp only [Option.some.injEq, Addr.mk.injEq, and_true] at this
          exact this
        have hGP : ∀ d os, (Sort.grow (redrawn V d) os).cell? ⟨b2, off2 + m * 2, none⟩ = some (.int .i64 hprev.c) := fun d os => cell_below (below_regrown V d os) (hc2 0 _ rfl)
        have hpos : (0 : Int) < (m : Int) + 1 := by omega
        have hpos' : decide ((0 : Int) < ((m + 1 : Nat) : Int)) = true := by first | (simp; done) | (simp; omega)
        have hm1 : (m : Int) + 1 - 1 = (m : Int) := by omega
        have hmn : (m : Int) < (n.ha.length : Int) := by omega
        have hpk := hid (show prevK zH (·.c) n.ha (-1) (m + 1) = hprev.c by
          unfold prevK
          rw [if_neg (by omega), Nat.add_sub_cancel]
          simp [List.getD, hkp])
        clear hc2 hkp e2
        by_cases y4 : hc ≤ hprev.c
        · have d4 : decide (hc ≤ hprev.c) = true := by simpa using y4
          refine wp_region_quiet_below (by kernel_rfl) (by kernel_rfl) ?_
          repeat (first | go_big_quiet_skip | (go_big_quiet_want; go_big_quiet_op; first | go_big_quiet_on | go_big_quiet_call (exact Calls.regrown_of (IS _))))
          refine wpQuiet_nil ?_
          intro _ hw'
          obtain ⟨⟨dq, osq⟩, hw''⟩ := hw'
          subst hw''
          have hB4 := hfin dq osq
          obtain ⟨W8, hW8⟩ : ∃ W8, Sort.grow (redrawn V dq) osq = W8 := ⟨_, rfl⟩
          rw [hW8] at hB4 ⊢
          clear hW8 hGA hGB hGC hGD hfin
          obtain rfl := NO.out (fun h => by
            have := h.ha (m + 1) _ HK.out
            unfold handG belB at this
            simp only [Bool.and_eq_true, decide_eq_true_eq, Bool.not_eq_true', beq_eq_false_iff_ne] at this
            have h9 := this.1.1.2
            rw [hpk.out] at h9
            have h9 : hprev.c < hc := h9
            omega)
          go_wp2_with fail
          go_ret
          exact ⟨rfl, hB4.out.1⟩
        · have d4 : decide (hc ≤ hprev.c) = false := by simpa using y4
          have hok := hid (show handG n.fr kk (prevK zH (·.c) n.ha (-1) (m + 1)) ⟨hc, hu⟩ = true by
            have hcc := hqc.out
            rw [hpk.out]
            unfold handG belB
            simp only [Bool.and_eq_true, decide_eq_true_eq, Bool.not_eq_true', beq_eq_false_iff_ne]
            exact ⟨⟨⟨hcc, by show hprev.c < hc; omega⟩, y1, y2⟩, y3⟩)
          refine wp_region_quiet_below (by kernel_rfl) (by kernel_rfl) ?_
          repeat (first | go_big_quiet_skip | (go_big_quiet_want; go_big_quiet_op; first | go_big_quiet_on | go_big_quiet_call (exact Calls.regrown_of (IS _))))
          refine wpQuiet_nil ?_
          intro _ hw'
          obtain ⟨⟨dq, osq⟩, hw''⟩ := hw'
          subst hw''
          have hB4 := hfin dq osq
          obtain ⟨W8, hW8⟩ : ∃ W8, Sort.grow (redrawn V dq) osq = W8 := ⟨_, rfl⟩
          rw [hW8] at hB4 ⊢
          clear hW8 hGA hGB hGC hGD hfin
          clear hGP
          go_wp2_with fail
          go_roundw
          case rel =>
            refine ⟨m + 2, by omega, by first | rfl | go_num, hid (fun i a hi ha => ?_), hid hB4.out.2, hid hB4.out.1⟩
            by_cases e : i = m + 1
            · subst e
              have := Option.some.inj (HK.out.symm.trans ha)
              subst this
              exact hok.out
            · exact HO.out i a (by omega) ha
          case measure => simp [intOf]; omega
    · have hlt' : ¬ (j : Int) < (n.ha.length : Int) := by omega
      have E1 := hid (show ∀ i a, n.ha[i]? = some a → handG n.fr kk (prevK zH (·.c) n.ha (-1) i) a = true from fun i a ha => HO.out i a (by have := (List.getElem?_eq_some_iff.1 ha).1; omega) ha)
      have hA2 := hid hA3.out
      have hB2 := hid hb.out
      clear hA3 hb HO hwr
      go_wp2_with fail
      clear cA lA hlt hlt'
      go_loopw [8] (fun i wr => ∃ j : Nat, j ≤ n.wa.length ∧ i = .int .i64 j ∧ Hid (∀ i a, i < j → n.wa[i]? = some a → goodC a = true) ∧ Hid (wr.heap[w.heap.size]? = some (n.o s)) ∧ Hid (Below w.heap.size w wr)) (fun i _ => n.wa.length - (intOf i).toNat)
      case atStart => exact ⟨0, by omega, rfl, hid (fun i a hi => by omega), hA2, hB2⟩
      case round =>
        obtain ⟨j, hj, rfl, HO, hA3, hb⟩ := hrel
        clear hA2 hB2
        have cA := (cells_at hA3.out).1
        have lA := at_lt hA3.out
        by_cases hlt : j < n.wa.length
        · have hlt' : (j : Int) < (n.wa.length : Int) := by omega
          obtain ⟨c, hk⟩ := get_some n.wa j hlt
          obtain ⟨b, off, hp, hg⟩ := (HR.out.wa.later hb.out).at hk
          rw [hp] at cA
          have hpb := hid hp
          clear hp
          have HC := hid hg
          have HK := hid hk
          have hsz := HA.out.wa c (List.mem_of_getElem? hk)
          obtain ⟨x, hx⟩ : ∃ x, Hid (isCm c = x) := ⟨_, rfl⟩
          obtain ⟨y, hy⟩ : ∃ y, Hid (watchB c.kd = y) := ⟨_, rfl⟩
          clear hk hg
          go_wp2_with ((with_reducible refine wpList_load_mid_cm rfl (.tmp 120) rfl rfl HC.out ?_))
          refine (refX_at hx hsz _).mono ?_
          rintro z w2 ⟨rfl, hb2⟩
          have hB3 := hid (below_on hb.out hb2)
          have hA4 := hid (var_on hb2 hA3.out lA)
          have HC2 := hid (range_on HC.out hb2)
          clear hb hb2 HC hA3 cA lA
          have cA := (cells_at hA4.out).1
          have lA := at_lt hA4.out
          rw [hpb.out] at cA
          cases x
          · obtain rfl := NO.out (fun h => by have := h.wa c (List.mem_of_getElem? HK.out); unfold goodC at this; rw [hx.out] at this; cases this)
            go_wp2_with fail
            go_ret
            exact ⟨rfl, hB3.out⟩
          go_wp2_with ((with_reducible refine wpList_load_mid_cmG ?_ (.tmp 128) rfl rfl HC2.out ?_); · rfl)
          refine (refW_at hy _).mono ?_
          rintro z w3 ⟨rfl, hb2⟩
          have hB4 := hid (below_on hB3.out hb2)
          have hA5 := hid (var_on hb2 hA4.out lA)
          clear hB3 hb2 HC2 hA4 cA lA
          cases y
          · obtain rfl := NO.out (fun h => by have := h.wa c (List.mem_of_getElem? HK.out); unfold goodC at this; rw [hx.out, hy.out] at this; cases this)
            go_wp2_with fail
            go_ret
            exact ⟨rfl, hB4.out⟩
          have hok := hid (show goodC c = true by unfold goodC; rw [hx.out, hy.out]; rfl)
          go_wp2_with fail
          go_roundw
          case rel =>
            refine ⟨j + 1, by omega, by go_num, hid (fun i a hi ha => ?_), hA5, hB4⟩
            by_cases e : i = j
            · subst e
              have := Option.some.inj (HK.out.symm.trans ha)
              subst this
              exact hok.out
            · exact HO.out i a (by omega) ha
          case measure => simp [intOf]; omega
        · have hlt' : ¬ (j : Int) < (n.wa.length : Int) := by omega
          have E2 := hid (show ∀ a ∈ n.wa, goodC a = true from fun a ha => by
            obtain ⟨i, hi, rfl⟩ := List.getElem_of_mem ha
            exact HO.out i _ (by omega) (List.getElem?_eq_getElem hi))
          have hA2 := hid hA3.out
          have hB2 := hid hb.out
          clear hA3 hb HO
          go_wp2_with fail
          clear cA lA hlt hlt'
          go_loopw [9] (fun i wr => ∃ j : Nat, j ≤ n.gi.length ∧ i = .int .i64 j ∧ Hid (∀ i a, i < j → n.gi[i]? = some a → leftB n.ha (ofN a.x a.y) = true) ∧ Hid (wr.heap[w.heap.size]? = some (n.o s)) ∧ Hid (Below w.heap.size w wr)) (fun i _ => n.gi.length - (intOf i).toNat)
          case atStart => exact ⟨0, by omega, rfl, hid (fun i a hi => by omega), hA2, hB2⟩
          case round =>
            obtain ⟨j, hj, rfl, HO, hA3, hb⟩ := hrel
            clear hA2 hB2
            have cA := (cells_at hA3.out).1
            have lA := at_lt hA3.out
            by_cases hlt : j < n.gi.length
            · have hlt' : (j : Int) < (n.gi.length : Int) := by omega
              obtain ⟨t, hk⟩ := get_some n.gi j hlt
              obtain ⟨b, off, hp, hg⟩ := (HR.out.gi.later hb.out).at hk
              rw [hp] at cA
              clear hp
              have g1 := hg.2.1
              have g2 := hg.2.2.1
              have HK := hid hk
              obtain ⟨c, hc⟩ : ∃ c, Hid (ofN t.x t.y = c) := ⟨_, rfl⟩
              obtain ⟨e, he⟩ : ∃ e, Hid (ofE t.x t.y = e) := ⟨_, rfl⟩
              obtain ⟨q, hq⟩ : ∃ q, Hid (leftB n.ha c = q) := ⟨_, rfl⟩
              clear hk hg
              go_wp2_with fail
              refine (refC_at hc he _).mono ?_
              rintro z w2 ⟨rfl, hb2⟩
              have hB3 := hid (below_on hb.out hb2)
              have hA4 := hid (var_on hb2 hA3.out lA)
              clear hb hb2 hA3 cA lA g1 g2
              have cA := (cells_at hA4.out).1
              have lA := at_lt hA4.out
              have C := ref_handed17 (cap := s.ch) hq (hid rfl) (HR.out.later hB3.out).ha HA.out.len.ha
              go_wp2_with fail
              refine C.mono ?_
              rintro z w3 ⟨rfl, hb2⟩
              have hB4 := hid (below_on hB3.out hb2)
              have hA5 := hid (var_on hb2 hA4.out lA)
              clear hB3 hb2 hA4 cA lA C
              cases q
              · obtain rfl := NO.out (fun h => by have := h.sg t (List.mem_of_getElem? HK.out); rw [hc.out, hq.out] at this; cases this)
                go_wp2_with fail
                go_ret
                exact ⟨rfl, hB4.out⟩
              · have hok := hid (show leftB n.ha (ofN t.x t.y) = true by rw [hc.out, hq.out])
                go_wp2_with fail
                go_roundw
                case rel =>
                  refine ⟨j + 1, by omega, by go_num, hid (fun i a hi ha => ?_), hA5, hB4⟩
                  by_cases e : i = j
                  · subst e
                    have := Option.some.inj (HK.out.symm.trans ha)
                    subst this
                    exact hok.out
                  · exact HO.out i a (by omega) ha
                case measure => simp [intOf]; omega
            · have hlt' : ¬ (j : Int) < (n.gi.length : Int) := by omega
              have E3 := hid (show ∀ a ∈ n.gi, leftB n.ha (ofN a.x a.y) = true from fun a ha => by
                obtain ⟨i, hi, rfl⟩ := List.getElem_of_mem ha
                exact HO.out i _ (by omega) (List.getElem?_eq_getElem hi))
              have hA2 := hid hA3.out
              have hB2 := hid hb.out
              clear hA3 hb HO
              go_wp2_with fail
              clear cA lA hlt hlt'
              go_loopw [12] (fun i wr => ∃ j : Nat, j ≤ n.mo.length ∧ i = .int .i64 j ∧ Hid (∀ i a, i < j → n.mo[i]? = some a → leftB n.ha (ofN a.x a.y) = false) ∧ Hid (wr.heap[w.heap.size]? = some (n.o s)) ∧ Hid (Below w.heap.size w wr)) (fun i _ => n.mo.length - (intOf i).toNat)
              case atStart => exact ⟨0, by omega, rfl, hid (fun i a hi => by omega), hA2, hB2⟩
              case round =>
                obtain ⟨j, hj, rfl, HO, hA3, hb⟩ := hrel
                clear hA2 hB2
                have cA := (cells_at hA3.out).1
                have lA := at_lt hA3.out
                by_cases hlt : j < n.mo.length
                · have hlt' : (j : Int) < (n.mo.length : Int) := by omega
                  obtain ⟨t, hk⟩ := get_some n.mo j hlt
                  obtain ⟨b, off, hp, hg⟩ := (HR.out.mo.later hb.out).at hk
                  rw [hp] at cA
                  clear hp
                  have g1 := hg.2.1
                  have g2 := hg.2.2.1
                  have HK := hid hk
                  obtain ⟨c, hc⟩ : ∃ c, Hid (ofN t.x t.y = c) := ⟨_, rfl⟩
                  obtain ⟨e, he⟩ : ∃ e, Hid (ofE t.x t.y = e) := ⟨_, rfl⟩
                  obtain ⟨q, hq⟩ : ∃ q, Hid (leftB n.ha c = q) := ⟨_, rfl⟩
                  clear hk hg
                  go_wp2_with fail
                  refine (refC_at hc he _).mono ?_
                  rintro z w2 ⟨rfl, hb2⟩
                  have hB3 := hid (below_on hb.out hb2)
                  have hA4 := hid (var_on hb2 hA3.out lA)
                  clear hb hb2 hA3 cA lA g1 g2
                  have cA := (cells_at hA4.out).1
                  have lA := at_lt hA4.out
                  have C := ref_handed17 (cap := s.ch) hq (hid rfl) (HR.out.later hB3.out).ha HA.out.len.ha
                  go_wp2_with fail
                  refine C.mono ?_
                  rintro z w3 ⟨rfl, hb2⟩
                  have hB4 := hid (below_on hB3.out hb2)
                  have hA5 := hid (var_on hb2 hA4.out lA)
                  clear hB3 hb2 hA4 cA lA C
                  cases q
                  · have hok := hid (show leftB n.ha (ofN t.x t.y) = false by rw [hc.out, hq.out])
                    go_wp2_with fail
                    go_roundw
                    case rel =>
                      refine ⟨j + 1, by omega, by go_num, hid (fun i a hi ha => ?_), hA5, hB4⟩
                      by_cases e : i = j
                      · subst e
                        have := Option.some.inj (HK.out.symm.trans ha)
                        subst this
                        exact hok.out
                      · exact HO.out i a (by omega) ha
                    case measure => simp [intOf]; omega
                  · obtain rfl := NO.out (fun h => by have := h.sm t (List.mem_of_getElem? HK.out); rw [hc.out, hq.out] at this; cases this)
                    go_wp2_with fail
                    go_ret
                    exact ⟨rfl, hB4.out⟩
                · have hlt' : ¬ (j : Int) < (n.mo.length : Int) := by omega
                  have E4 := hid (show ∀ a ∈ n.mo, leftB n.ha (ofN a.x a.y) = false from fun a ha => by
                    obtain ⟨i, hi, rfl⟩ := List.getElem_of_mem ha
                    exact HO.out i _ (by omega) (List.getElem?_eq_getElem hi))
                  have hA2 := hid hA3.out
                  have hB2 := hid hb.out
                  clear hA3 hb HO
                  obtain rfl := YES.out ⟨⟨X1.out, X2.out⟩, ⟨X3.out, X4.out⟩, h2.out, h4.out, X5.out, X6.out, E1.out, E2.out, E3.out, E4.out⟩
                  go_wp2_with fail
                  go_ret
                  exact ⟨rfl, hB2.out⟩
end Go.Proofs.YtpedngbjpbeanaaGreatDoor
