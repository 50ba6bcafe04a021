/- Sixteen truths in memory; contract of handed of the package note. -/
import Derived.Test.YtpedngbjpbeanaaGreatDoorNtA
namespace Go.Proofs.YtpedngbjpbeanaaGreatDoor
open Go.RowKit
set_option linter.unusedVariables false
/-- a row of truths, as cells -/
def bA (L : List Bool) : Array Value := (L.map Value.bool).toArray
abbrev bO (L : List Bool) : Obj := .cells (bA L) 67 (0, 0)
def noB : List Bool := List.replicate 16 false
theorem noB_len : noB.length = 16 := rfl
theorem bA_no : bA noB = #[.bool false, .bool false, .bool false, .bool false, .bool false, .bool false, .bool false, .bool false, .bool false, .bool false, .bool false, .bool false, .bool false, .bool false, .bool false, .bool false] := rfl
theorem bA_size {L : List Bool} (h : L.length = 16) : (bA L).size = 16 := by simp [bA, h]
theorem bA_one (L : List Bool) : (bA L).all (·.oneCell') = true := by
  rw [Array.all_eq_true']
  intro u hu
  have hu' : u ∈ L.map Value.bool := by simpa [bA] using hu
  obtain ⟨b, -, rfl⟩ := List.mem_map.1 hu'
  rfl
theorem bA_at {L : List Bool} {k : Nat} {b : Bool} (h : L[k]? = some b) : (bA L)[k]? = some (.bool b) := by simp [bA, h]
theorem bA_set (L : List Bool) (k : Nat) (b : Bool) : (bA L).setIfInBounds k (.bool b) = bA (L.set k b) := by
  simp [bA, List.map_set]
theorem Tryz.sizeB16 : (Tryz.prog.info? 67).map (·.size) = some 16 := by kernel_rfl
theorem sizeB {L : List Bool} (h : L.length = 16) : (Tryz.prog.info? 67).map (·.size) = some (bA L).size := by rw [bA_size h]; exact Tryz.sizeB16
theorem wpList_load_b {ops : Array Oper} {rest : List Oper} {o : Oper} {a : Act} {W : World} {Q : Exit → Act → World → Prop} (hgd : o.guard = none) (x : Operand) (ho : o.op = .load 67 x)
    {g : Nat} {L : List Bool} (hx : a.eval x = .pointer (some ⟨g, 0, none⟩)) (hl : L.length = 16) (h : W.heap[g]? = some (bO L)) (k : wpList Tryz.prog ops Q rest (a.put o.dst (.agg (bA L))) W) : wpList Tryz.prog ops Q (o :: rest) a W :=
  wpList_load_row hgd _ x ho g hx _ _ _ _ h Tryz.underlying67 rfl (sizeB hl) k
theorem wpList_store_b {ops : Array Oper} {rest : List Oper} {o : Oper} {a : Act} {W : World} {Q : Exit → Act → World → Prop} (hgd : o.guard = none) (x y : Operand) (ho : o.op = .store 67 x y)
    {g : Nat} {L M : List Bool} (hx : a.eval x = .pointer (some ⟨g, 0, none⟩)) (hy : a.eval y = .agg (bA L)) (hl : L.length = 16) (hm : M.length = 16) (h : W.heap[g]? = some (bO M))
    (k : ∀ W', W'.heap[g]? = some (bO L) → But g W W' → W'.heap.size = W.heap.size → wpList Tryz.prog ops Q rest (a.put o.dst undef) W') : wpList Tryz.prog ops Q (o :: rest) a W :=
  wpList_store_row hgd _ x y ho g _ hx hy _ _ h (sizeB hl) (by rw [bA_size hl, bA_size hm]) (bA_one L) (k _ (setRow_heap W g _ _ _ _ h) ⟨rfl, rfl, rfl, by simp, fun i hi hg => setRow_other W g i _ hg⟩ (by simp))
theorem results_handed {tmps : Array Value} {W : World} {g : Nat} {L : List Bool} {b : Bool} (hl : L.length = 16) (h4 : tmps.getD 4 undef = .pointer (some ⟨g, 0, none⟩)) (h5 : tmps.getD 5 undef = .bool b) (h : W.heap[g]? = some (bO L)) :
    (results Tryz.f27 tmps).run Tryz.prog W = .ok (.tuple #[.agg (bA L), .bool b]) W := by
  have hll : (loadVar 67 ⟨g, 0, none⟩).run Tryz.prog W = .ok (.agg (bA L)) W := run_loadVar_row W g _ _ _ _ _ h Tryz.underlying67 rfl (sizeB hl)
  have h4' : tmps[4]?.getD undef = .pointer (some ⟨g, 0, none⟩) := by simpa using h4
  have h5' : tmps[5]?.getD undef = .bool b := by simpa using h5
  simp [results, Tryz.results27, h4', h5', asAddr, hll]
/-- which cells the first hands hand over -/
def LeftL (L : List Hd) (B : List Bool) : Prop := B.length = 16 ∧ ∀ c, c < 16 → B[c]? = some (leftB L c)
theorem left_none : LeftL [] noB := ⟨rfl, fun c hc => by unfold noB; rw [List.getElem?_replicate]; simp [hc, leftB]⟩
theorem left_next {L : List Hd} {B : List Bool} {h : Hd} {k c : Nat} (hl : LeftL (L.take k) B) (hk : L[k]? = some h) (hc : h.c = (c : Int)) (h16 : c < 16) : LeftL (L.take (k + 1)) (B.set c true) := by
  refine ⟨by rw [List.length_set]; exact hl.1, fun d hd => ?_⟩
  have e : leftB (L.take (k + 1)) d = (leftB (L.take k) d || h.c == (d : Int)) := by
    unfold leftB
    rw [List.take_add_one, hk, List.any_append]
    simp
  rw [e, List.getElem?_set]
  by_cases q : c = d
  · subst q
    rw [if_pos rfl, if_pos (by rw [hl.1]; exact h16), hc]
    simp
  · rw [if_neg q, hl.2 d hd, hc]
    have : ((c : Int) == (d : Int)) = false := by simp; omega
    rw [this, Bool.or_false]
theorem left_all {L : List Hd} {B : List Bool} {n : Nat} (hn : L.length = n) (hl : LeftL (L.take n) B) : LeftL L B := by rwa [List.take_of_length_le (by omega)] at hl
theorem hands_next {fr k last : Int} {L : List Hd} {j : Nat} {h : Hd} {R : Bool} (hr : handsR fr k last (L.drop j) = R) (hj : L[j]? = some h) : R = (handG fr k last h && handsR fr k h.c (L.drop (j + 1))) := by
  have hlt : j < L.length := (List.getElem?_eq_some_iff.1 hj).1
  have e : L[j] = h := (List.getElem?_eq_some_iff.1 hj).2
  rw [List.drop_eq_getElem_cons hlt, e, handsR] at hr
  exact hr.symm
theorem cellsIs_at {c : Int} {q : Bool} (h : Hid (isC c = q)) (w : World) : Calls Tryz.prog 59 #[.int .i64 c] w fun e w' => e = .returned (.bool q) ∧ w' = w := by
  rw [← h.out]; exact cells_is w c
theorem handG_ways (fr k last : Int) (h : Hd) : (handG fr k last h = true ∧ isC h.c = true ∧ last < h.c ∧ belB h.u k = true ∧ ¬ h.u = fr) ∨ (handG fr k last h = false ∧ (isC h.c = false ∨ (isC h.c = true ∧ h.c ≤ last) ∨ (isC h.c = true ∧ last < h.c ∧ belB h.u k = false) ∨ (isC h.c = true ∧ last < h.c ∧ belB h.u k = true ∧ h.u = fr))) := by
  unfold handG
  cases isC h.c <;> cases belB h.u k <;> by_cases a : last < h.c <;> by_cases b : h.u = fr <;> simp [a, b] <;> omega
set_option maxRecDepth 100000 in
set_option maxHeartbeats 2000000 in
theorem note_handed {w : World} {n : Nt} {s : Ns} {kk : Int} {R : Bool} (hr : RowG Hd.cs 2 w s.ph n.ha) (hR : Hid (handsR n.fr kk (-1) n.ha = R)) (hm : n.ha.length ≤ maxLen) :
    Calls Tryz.prog 27 #[n.v s, .int .i64 kk] w fun e w' => ∃ B, e = .returned (.tuple #[.agg (bA B), .bool R]) ∧ B.length = 16 ∧ (R = true → LeftL n.ha B) ∧ Below w.heap.size w w' := by
  obtain ⟨W, hW⟩ : ∃ W, W = ((w.alloc (n.o s)).alloc (bO noB)).alloc (bO noB) := ⟨_, rfl⟩
  have hB : Below w.heap.size w W := by rw [hW]; exact below_on (Go.Joins.below_alloc2 _ _ _) (below1 _ _)
  have hA := hid (show W.heap[w.heap.size]? = some (n.o s) by rw [hW]; exact old_at (old_at (new_at _ _ _ rfl) _) _)
  have hC := hid (show W.heap[w.heap.size + 1]? = some (bO noB) by rw [hW]; exact old_at (new_at _ _ _ (by simp)) _)
  have hD := hid (show W.heap[w.heap.size + 1 + 1]? = some (bO noB) by rw [hW]; exact new_at _ _ _ (by simp))
  have hm' : n.ha.length ≤ 9223372036854775807 := by unfold maxLen at hm; omega
  have HR := hid hr
  obtain ⟨fr, be, mo, ha, gi, wa⟩ := n
  obtain ⟨pm, cm, ph, ch, pg, cg, pw, cw⟩ := s
  simp only at hR HR hm hm'
  clear hr
  go_enter Tryz.func27, Tryz.ntmps27
  go_upto_region 2 with fail
  rw [← bA_no, ← hW]
  clear hW
  have cA := (cells_at hA.out).1
  go_wp2_with fail
  clear cA
  go_loopw [7, 13] (fun la i wr => ∃ (j : Nat) (last : Int) (B : List Bool), j ≤ ha.length ∧ i = .int .i64 j ∧ la = .int .i64 last ∧ handsR fr kk last (ha.drop j) = R ∧ LeftL (ha.take j) B ∧ wr.heap[w.heap.size]? = some (Nt.o ⟨fr, be, mo, ha, gi, wa⟩ ⟨pm, cm, ph, ch, pg, cg, pw, cw⟩) ∧ wr.heap[w.heap.size + 1]? = some (bO noB) ∧ wr.heap[w.heap.size + 1 + 1]? = some (bO B) ∧ Below w.heap.size w wr) (fun _ i _ => ha.length - (intOf i).toNat)
  case atStart => exact ⟨0, -1, noB, by omega, rfl, rfl, by rw [List.drop_zero]; exact hR.out, left_none, hA.out, hC.out, hD.out, hB⟩
  case round =>
    obtain ⟨j, last, B, hj, rfl, rfl, hh, hl, a0, a1, a2, hb⟩ := hrel
    have HH := hid hh
    have HL := hid hl
    have lB : B.length = 16 := hl.1
    have A0 := hid a0
    have A1 := hid a1
    have A2 := hid a2
    clear hh hl a0 a1 a2 hA hC hD hB
    have hwr := hb.size
    have g0 := at_lt A0.out
    have g2 := at_lt A2.out
    by_cases hlt : j < ha.length
    · have hlt' : (j : Int) < (ha.length : Int) := by omega
      obtain ⟨h, hk⟩ := get_some ha j hlt
      obtain ⟨b, off, rfl, hc⟩ := (HR.out.later hb).at hk
      have c0 := hc 0 _ rfl
      have c1 := hc 1 _ rfl
      rw [Nat.add_zero] at c0
      have hn := hid (hands_next HH.out hk)
      have HK := hid hk
      clear hc hk
      obtain ⟨hc, hu⟩ := h
      obtain ⟨g, hg⟩ : ∃ g, Hid (handG fr kk last ⟨hc, hu⟩ = g) := ⟨_, rfl⟩
      obtain ⟨V, hV⟩ : ∃ V, V = wr.alloc (Hd.o ⟨hc, hu⟩) := ⟨_, rfl⟩
      have hBv : Below w.heap.size w V := by rw [hV]; exact hb.alloc hwr _
      have A0v := hid (show V.heap[w.heap.size]? = some (Nt.o ⟨fr, be, mo, ha, gi, wa⟩ ⟨pm, cm, some ⟨b, off, none⟩, ch, pg, cg, pw, cw⟩) by rw [hV]; exact old_at A0.out _)
      have A1v := hid (show V.heap[w.heap.size + 1]? = some (bO noB) by rw [hV]; exact old_at A1.out _)
      have A2v := hid (show V.heap[w.heap.size + 1 + 1]? = some (bO B) by rw [hV]; exact old_at A2.out _)
      have Hv := hid (show V.heap[wr.heap.size]? = some (Hd.o ⟨hc, hu⟩) by rw [hV]; exact new_at _ _ _ rfl)
      have lV := at_lt Hv.out
      go_upto_region 6 with fail
      rw [← hV]
      clear hV A0 A1 A2 c0 c1 hb
      have cH := (cells_at Hv.out).1
      have cA := (cells_at A0v.out).1
      rcases handG_ways fr kk last ⟨hc, hu⟩ with ⟨q, q1, q2, q3, q4⟩ | ⟨q, q1 | ⟨q1, q2⟩ | ⟨q1, q2, q3⟩ | ⟨q1, q2, q3, q4⟩⟩
      · have Q1 := hid q1
        have Q3 := hid q3
        obtain ⟨c, rfl, h16⟩ := isC_nat q1
        have hnx := left_next (h := ⟨(c : Int), hu⟩) HL.out HK.out rfl h16
        have hHn := hn.out
        rw [q, Bool.true_and] at hHn
        have d1 : decide ((c : Int) ≤ last) = false := by simp; exact q2
        have d2 : (hu == fr) = false := by simpa using q4
        have HN := hid hnx
        have HHn := hid hHn
        clear q q1 q3 hnx hHn
        go_wp2_with fail
        refine (cellsIs_at Q1 _).mono ?_
        rintro x w2 ⟨rfl, rfl⟩
        go_wp2_with fail
        refine (below_at Q3 _).mono ?_
        rintro x w3 ⟨rfl, hb3⟩
        have A0x := hid (var_on hb3 A0v.out (at_lt A0v.out))
        have A1x := hid (var_on hb3 A1v.out (at_lt A1v.out))
        have A2x := hid (var_on hb3 A2v.out (at_lt A2v.out))
        have Hx := hid (var_on hb3 Hv.out (at_lt Hv.out))
        have hBx := below_on hBv hb3
        have lx := at_lt Hx.out
        have ax := at_lt A2x.out
        clear cH cA
        have cH := (cells_at Hx.out).1
        have cA := (cells_at A0x.out).1
        clear hb3 A0v A1v A2v Hv hBv lV
        have hfz : w3.frozen? ⟨w.heap.size + 1 + 1, c, none⟩ = false := (cells_at A2x.out).2 c
        have hcell : w3.cell? ⟨w.heap.size + 1 + 1, c, none⟩ = some (.bool (leftB (ha.take j) c)) := by rw [(cells_at A2x.out).1]; exact bA_at (HL.out.2 c h16)
        have e1 : decide ((0 : Int) ≤ (c : Int)) = true := by simp
        have e2 : decide ((c : Int) < 16) = true := by simp; omega
        have S0 := hid (set_off A0x.out (b := w.heap.size + 1 + 1) (i := c) (by omega) (.bool true))
        have S1 := hid (set_off A1x.out (b := w.heap.size + 1 + 1) (i := c) (by omega) (.bool true))
        have S2 := hid (set_at A2x.out (.bool true) (bA_set B c true))
        have hBs := hid (show Below w.heap.size w (w3.setCell ⟨w.heap.size + 1 + 1, c, none⟩ (.bool true)) from hBx.setCell (by show w.heap.size ≤ w.heap.size + 1 + 1; omega) _)
        go_wp2_with fail
        go_roundw
        case rel => exact ⟨j + 1, (c : Int), B.set c true, by omega, by go_num, rfl, HHn.out.symm, HN.out, S0.out, S1.out, S2.out, hBs.out⟩
        case measure => simp [intOf]; omega
      · have Q1 := hid q1
        have hR0 := hn.out
        rw [q, Bool.false_and] at hR0
        subst hR0
        clear q q1 hn
        go_wp2_with fail
        refine (cellsIs_at Q1 _).mono ?_
        rintro x w2 ⟨rfl, rfl⟩
        have A1x := A1v
        have A2x := A2v
        have hBx := hBv
        go_wp2_with (first
          | with_reducible refine wpList_load_b rfl (.tmp 6) rfl rfl lB A2x.out ?_
          | (with_reducible refine wpList_store_b rfl (.tmp 4) (.tmp 41) rfl rfl rfl lB noB_len A1x.out ?_
             intro W9 h9 hb9 hs9))
        exact bodyPost_ret (v := .tuple #[.agg (bA B), .bool false]) (results_handed lB rfl rfl h9) rfl ⟨B, rfl, lB, (fun h => nomatch h), hb9.below hBx (by omega)⟩
      · have Q1 := hid q1
        have d1 : decide (hc ≤ last) = true := by simpa using q2
        have hR0 := hn.out
        rw [q, Bool.false_and] at hR0
        subst hR0
        clear q q1 q2 hn
        go_wp2_with fail
        refine (cellsIs_at Q1 _).mono ?_
        rintro x w2 ⟨rfl, rfl⟩
        have A1x := A1v
        have A2x := A2v
        have hBx := hBv
        go_wp2_with (first
          | with_reducible refine wpList_load_b rfl (.tmp 6) rfl rfl lB A2x.out ?_
          | (with_reducible refine wpList_store_b rfl (.tmp 4) (.tmp 41) rfl rfl rfl lB noB_len A1x.out ?_
             intro W9 h9 hb9 hs9))
        exact bodyPost_ret (v := .tuple #[.agg (bA B), .bool false]) (results_handed lB rfl rfl h9) rfl ⟨B, rfl, lB, (fun h => nomatch h), hb9.below hBx (by omega)⟩
      · have Q1 := hid q1
        have Q3 := hid q3
        have d1 : decide (hc ≤ last) = false := by simp; exact q2
        have hR0 := hn.out
        rw [q, Bool.false_and] at hR0
        subst hR0
        clear q q1 q2 q3 hn
        go_wp2_with fail
        refine (cellsIs_at Q1 _).mono ?_
        rintro x w2 ⟨rfl, rfl⟩
        go_wp2_with fail
        refine (below_at Q3 _).mono ?_
        rintro x w3 ⟨rfl, hb3⟩
        have A0x := hid (var_on hb3 A0v.out (at_lt A0v.out))
        have A1x := hid (var_on hb3 A1v.out (at_lt A1v.out))
        have A2x := hid (var_on hb3 A2v.out (at_lt A2v.out))
        have Hx := hid (var_on hb3 Hv.out (at_lt Hv.out))
        have hBx := below_on hBv hb3
        have lx := at_lt Hx.out
        have ax := at_lt A2x.out
        clear cH cA
        have cH := (cells_at Hx.out).1
        have cA := (cells_at A0x.out).1
        clear hb3 A0v A1v A2v Hv hBv lV
        go_wp2_with (first
          | with_reducible refine wpList_load_b rfl (.tmp 6) rfl rfl lB A2x.out ?_
          | (with_reducible refine wpList_store_b rfl (.tmp 4) (.tmp 41) rfl rfl rfl lB noB_len A1x.out ?_
             intro W9 h9 hb9 hs9))
        exact bodyPost_ret (v := .tuple #[.agg (bA B), .bool false]) (results_handed lB rfl rfl h9) rfl ⟨B, rfl, lB, (fun h => nomatch h), hb9.below hBx (by omega)⟩
      · have Q1 := hid q1
        have Q3 := hid q3
        have d1 : decide (hc ≤ last) = false := by simp; exact q2
        have d2 : (hu == fr) = true := by simpa using q4
        have hR0 := hn.out
        rw [q, Bool.false_and] at hR0
        subst hR0
        clear q q1 q2 q3 q4 hn
        go_wp2_with fail
        refine (cellsIs_at Q1 _).mono ?_
        rintro x w2 ⟨rfl, rfl⟩
        go_wp2_with fail
        refine (below_at Q3 _).mono ?_
        rintro x w3 ⟨rfl, hb3⟩
        have A0x := hid (var_on hb3 A0v.out (at_lt A0v.out))
        have A1x := hid (var_on hb3 A1v.out (at_lt A1v.out))
        have A2x := hid (var_on hb3 A2v.out (at_lt A2v.out))
        have Hx := hid (var_on hb3 Hv.out (at_lt Hv.out))
        have hBx := below_on hBv hb3
        have lx := at_lt Hx.out
        have ax := at_lt A2x.out
        clear cH cA
        have cH := (cells_at Hx.out).1
        have cA := (cells_at A0x.out).1
        clear hb3 A0v A1v A2v Hv hBv lV
        go_wp2_with (first
          | with_reducible refine wpList_load_b rfl (.tmp 6) rfl rfl lB A2x.out ?_
          | (with_reducible refine wpList_store_b rfl (.tmp 4) (.tmp 41) rfl rfl rfl lB noB_len A1x.out ?_
             intro W9 h9 hb9 hs9))
        exact bodyPost_ret (v := .tuple #[.agg (bA B), .bool false]) (results_handed lB rfl rfl h9) rfl ⟨B, rfl, lB, (fun h => nomatch h), hb9.below hBx (by omega)⟩
    · obtain rfl : j = ha.length := by omega
      have hlt' : ¬ (ha.length : Int) < (ha.length : Int) := by omega
      have hR1 := HH.out
      rw [List.drop_of_length_le (Nat.le_refl _), handsR] at hR1
      subst hR1
      have hla := left_all rfl HL.out
      go_wp2_with (first
        | with_reducible refine wpList_load_b rfl (.tmp 6) rfl rfl lB A2.out ?_
        | (with_reducible refine wpList_store_b rfl (.tmp 4) (.tmp 48) rfl rfl rfl lB noB_len A1.out ?_
           intro W9 h9 hb9 hs9))
      exact bodyPost_ret (v := .tuple #[.agg (bA B), .bool true]) (results_handed lB rfl rfl h9) rfl ⟨B, rfl, lB, hla, hb9.below hb (by omega)⟩
end Go.Proofs.YtpedngbjpbeanaaGreatDoor
