/- Contract of Is of the package note. -/
import Derived.Test.YtpedngbjpbeanaaGreatDoorNtS
import Derived.Deep.MidRow
namespace Go.Proofs.YtpedngbjpbeanaaGreatDoor
open Go.RowKit
set_option linter.unusedVariables false
set_option maxRecDepth 100000
theorem watches_not {c : Cm} {q : Bool} (h : Hid (goodC c = q)) (hs : sizedC c) (w : World) : Calls Tryz.prog 31 #[c.v] w fun e w' => e = .returned (.bool !q) ∧ Below w.heap.size w w' := by
  obtain ⟨W, hW⟩ : ∃ W, W = w.alloc c.o := ⟨_, rfl⟩
  have hB : Below w.heap.size w W := by rw [hW]; exact below1 _ _
  have hA := hid (show W.heap[w.heap.size]? = some c.o by rw [hW]; exact new_at _ _ _ rfl)
  obtain ⟨a, ha⟩ : ∃ a, isCm c = a := ⟨_, rfl⟩
  obtain ⟨b, hb⟩ : ∃ b, Hid (watchB c.kd = b) := ⟨_, rfl⟩
  have C1 := fun w => isC_at ha hs w
  have C2 := fun w => watches_at hb w
  have hq := h.out
  unfold goodC at hq
  rw [ha, hb.out] at hq
  subst hq
  clear hs ha h
  go_enter Tryz.func31, Tryz.ntmps31
  go_upto_region 1 with fail
  rw [← hW]
  clear hW
  go_wp2_with (with_reducible refine wpList_load_cm rfl (.tmp 1) rfl rfl hA.out ?_)
  refine (C1 _).mono ?_
  rintro x W0 ⟨rfl, hb0⟩
  have hA0 := hid (var_on hb0 hA.out (at_lt hA.out))
  have hB0 := below_on hB hb0
  cases a
  · go_wp2_with fail
    go_ret
    exact ⟨rfl, hB0⟩
  · go_wp2_with ((with_reducible refine wpList_load_cmG ?_ (.tmp 1) rfl rfl hA0.out ?_); · rfl)
    refine (C2 _).mono ?_
    rintro x W1 ⟨rfl, hb1⟩
    go_wp2_with fail
    go_ret
    exact ⟨rfl, below_on hB0 hb1⟩
theorem all_drop {L : List Cm} {j : Nat} {c : Cm} {R : Bool} (hr : (L.drop j).all goodC = R) (hj : L[j]? = some c) : R = (goodC c && (L.drop (j + 1)).all goodC) := by
  have hlt : j < L.length := (List.getElem?_eq_some_iff.1 hj).1
  have e : L[j] = c := (List.getElem?_eq_some_iff.1 hj).2
  rw [List.drop_eq_getElem_cons hlt, e, List.all_cons] at hr
  exact hr.symm
set_option maxHeartbeats 1000000 in
theorem index_func {w : World} {p : Option Addr} {cap : Nat} {L : List Cm} {R : Bool} (hr : RowM w p L) (hi : ∀ c ∈ L, sizedC c) (hR : Hid (L.all goodC = R)) (hm : L.length ≤ maxLen) :
    Calls Tryz.prog 62 #[.slice p L.length cap, .func (.func 31) #[] #[]] w fun e w' => ∃ r : Int, e = .returned (.int .i64 r) ∧ decide (0 ≤ r) = !R ∧ Below w.heap.size w w' := by
  have HR := hid hr
  have HI := hid hi
  have hm' : L.length ≤ 9223372036854775807 := by unfold maxLen at hm; omega
  clear hr hi
  go_enter Tryz.func62, Tryz.ntmps62
  go_wp2_with fail
  go_loopw [8] (fun i wr => ∃ j : Nat, j ≤ L.length ∧ i = .int .i64 j ∧ (L.drop j).all goodC = R ∧ Below w.heap.size w wr) (fun i _ => L.length - (intOf i).toNat)
  case atStart => exact ⟨0, by omega, rfl, by rw [List.drop_zero]; exact hR.out, Below.refl _ _⟩
  case round =>
    obtain ⟨j, hj, rfl, hh, hb⟩ := hrel
    have HH := hid hh
    clear hh
    by_cases hlt : j < L.length
    · have hlt' : (j : Int) < (L.length : Int) := by omega
      obtain ⟨c, hc⟩ := get_some L j hlt
      obtain ⟨b, off, rfl, hg⟩ := (HR.out.later hb).at hc
      have HC := hid hg
      have hic := HI.out c (List.mem_of_getElem? hc)
      have hn := hid (all_drop HH.out hc)
      obtain ⟨q, hq⟩ : ∃ q, Hid (goodC c = q) := ⟨_, rfl⟩
      have hnn := hn.out
      rw [hq.out] at hnn
      clear hc hg hn
      have HN := hid hnn
      clear hnn
      go_wp2_with (with_reducible refine wpList_load_mid_cm rfl (.tmp 14) rfl rfl HC.out ?_)
      refine (watches_not hq hic _).mono ?_
      rintro x w2 ⟨rfl, hb2⟩
      have hB2 := below_on hb hb2
      clear hb hb2 HC
      cases q
      · have e := HN.out
        rw [Bool.false_and] at e
        subst e
        go_wp2_with fail
        go_ret
        exact ⟨_, rfl, by simp, hB2⟩
      · have e := HN.out
        rw [Bool.true_and] at e
        have E := hid e
        clear e
        go_wp2_with fail
        go_roundw
        case rel => exact ⟨j + 1, by omega, by go_num, E.out.symm, hB2⟩
        case measure => simp [intOf]; omega
    · obtain rfl : j = L.length := by omega
      have hlt' : ¬ (L.length : Int) < (L.length : Int) := by omega
      have hR1 := HH.out
      rw [List.drop_of_length_le (Nat.le_refl _), List.all_nil] at hR1
      subst hR1
      go_wp2_with fail
      go_ret
      exact ⟨_, rfl, by simp, hb⟩
theorem contains_func {w : World} {p : Option Addr} {cap : Nat} {L : List Cm} {R : Bool} (hr : RowM w p L) (hi : ∀ c ∈ L, sizedC c) (hR : Hid (L.all goodC = R)) (hm : L.length ≤ maxLen) :
    Calls Tryz.prog 30 #[.slice p L.length cap, .func (.func 31) #[] #[]] w fun e w' => e = .returned (.bool !R) ∧ Below w.heap.size w w' := by
  have C := index_func (cap := cap) hr hi hR hm
  clear hr hi
  go_enter Tryz.func30, Tryz.ntmps30
  go_wp2_with fail
  refine C.mono ?_
  rintro x w2 ⟨r, rfl, hr, hb⟩
  go_wp2_with fail
  go_ret
  exact ⟨by simp, hb⟩
/-- what a note's values are, so that Is can be asked -/
structure AskN (n : Nt) : Prop where
  mo : ∀ t ∈ n.mo, inT t
  gi : ∀ t ∈ n.gi, inT t
  wa : ∀ c ∈ n.wa, sizedC c
  len : LenN n
theorem wpList_load_bG {ops : Array Oper} {rest : List Oper} {o : Oper} {a : Act} {W : World} {Q : Exit → Act → World → Prop} (hw : Region.wanted o (yielded ops a.tmps) = true) (x : Operand) (ho : o.op = .load 67 x)
    {g : Nat} {L : List Bool} (hx : a.eval x = .pointer (some ⟨g, 0, none⟩)) (hl : L.length = 16) (h : W.heap[g]? = some (bO L)) (k : wpList Tryz.prog ops Q rest (a.put o.dst (.agg (bA L))) W) : wpList Tryz.prog ops Q (o :: rest) a W := by
  rw [wpList, if_pos hw]
  exact .inl (wp_load_row _ x ho g hx _ _ _ _ h Tryz.underlying67 rfl (sizeB hl) k)
theorem new_b (W : World) : (W.alloc (.cells #[.bool false, .bool false, .bool false, .bool false, .bool false, .bool false, .bool false, .bool false, .bool false, .bool false, .bool false, .bool false, .bool false, .bool false, .bool false, .bool false] 67)).heap[W.heap.size]? = some (bO noB) := new_at _ _ _ rfl
theorem isN_eq (n : Nt) (k : Int) : isN n k = (handsR n.fr (min k 4) (-1) n.ha && (belB n.fr (min k 4) && (belB n.be 1073741825 && (standB (leftB n.ha) false n.mo && (standB (leftB n.ha) true n.gi && (decide (n.wa.length ≤ 20) && n.wa.all goodC)))))) := rfl
set_option maxHeartbeats 4000000 in
theorem note_is {w : World} (hM : Masks w) {n : Nt} {s : Ns} {k : Int} {R : Bool} (hr : RowN w s n) (ha : AskN n) (hR : Hid (isN n k = R)) :
    Calls Tryz.prog 9 #[n.v s, .int .i64 k] w fun e w' => e = .returned (.bool R) ∧ Below w.heap.size w w' := by
  obtain ⟨W, hW⟩ : ∃ W, W = w.alloc (n.o s) := ⟨_, rfl⟩
  have hB : Below w.heap.size w W := by rw [hW]; exact below1 _ _
  have hA := hid (show W.heap[w.heap.size]? = some (n.o s) by rw [hW]; exact new_at _ _ _ rfl)
  have HR := hid hr
  have HA := hid ha
  have HM := hid hM
  have hlen := hid ha.len
  obtain ⟨kk, hkk⟩ : ∃ kk, Hid (min k 4 = kk) := ⟨_, rfl⟩
  obtain ⟨r1, h1⟩ : ∃ r, Hid (handsR n.fr kk (-1) n.ha = r) := ⟨_, rfl⟩
  obtain ⟨r2, h2⟩ : ∃ r, Hid (belB n.fr kk = r) := ⟨_, rfl⟩
  obtain ⟨r3, h3⟩ : ∃ r, Hid (belB n.be 1073741825 = r) := ⟨_, rfl⟩
  obtain ⟨r4, h4⟩ : ∃ r, Hid (standB (leftB n.ha) false n.mo = r) := ⟨_, rfl⟩
  obtain ⟨r5, h5⟩ : ∃ r, Hid (standB (leftB n.ha) true n.gi = r) := ⟨_, rfl⟩
  obtain ⟨r6, h6⟩ : ∃ r, Hid (decide (n.wa.length ≤ 20) = r) := ⟨_, rfl⟩
  obtain ⟨r7, h7⟩ : ∃ r, Hid (n.wa.all goodC = r) := ⟨_, rfl⟩
  have e := hR.out
  rw [isN_eq, hkk.out, h1.out, h2.out, h3.out, h4.out, h5.out, h6.out, h7.out] at e
  subst e
  clear hr ha hM hR
  have C0 := fun (w' : World) (hb : Below w.heap.size w w') => note_handed (s := s) (HR.out.later hb).ha h1 hlen.out.ha
  go_enter Tryz.func9, Tryz.ntmps9
  go_upto_region 1 with fail
  rw [← hW]
  clear hW
  have cA := (cells_at hA.out).1
  have lA := at_lt hA.out
  go_upto_region 2 with fail
  rw [show min k 4 = kk from hkk.out]
  clear hkk
  go_wp2_with fail
  refine (C0 _ hB).mono ?_
  rintro x W1 ⟨B, rfl, lB, hLeft, hb1⟩
  have hA1 := hid (var_on hb1 hA.out lA)
  have hB1 := below_on hB hb1
  have E4 : r1 = true → standB (fun c => B.getD c false) false n.mo = r4 := fun h => by
    rw [← h4.out]
    exact standB_congr (fun c hc => by show B.getD c false = _; rw [List.getD_eq_getElem?_getD, (hLeft h).2 c hc]; rfl) _ _
  have E5 : r1 = true → standB (fun c => B.getD c false) true n.gi = r5 := fun h => by
    rw [← h5.out]
    exact standB_congr (fun c hc => by show B.getD c false = _; rw [List.getD_eq_getElem?_getD, (hLeft h).2 c hc]; rfl) _ _
  have HE4 := hid E4
  have HE5 := hid E5
  clear hLeft hb1 cA hB hA lA C0 E4 E5
  go_upto_region 3 with ((with_reducible refine wpList_store_b rfl (.tmp 5) (.tmp 13) rfl rfl rfl lB noB_len (new_b _) ?_); intro W9 h9 hb9 hs9)
  have h10 := hb9.below (w := w) (hB1.alloc (by have := hB1.size; omega) _) (by have := hB1.size; omega)
  have hA2 := hid (hb9.at (old_at hA1.out _) (by have := at_lt hA1.out; omega))
  have H9 := hid h9
  have l9 := at_lt h9
  clear hb9 hs9 h9 hA1
  obtain ⟨ob, hob⟩ : ∃ ob, Hid (W1.heap.size = ob) := ⟨_, rfl⟩
  rw [hob.out] at H9 l9 ⊢
  have HB9 := hid h10
  clear h10 hob hB1
  have cA := (cells_at hA2.out).1
  have lA := at_lt hA2.out
  cases r1
  · go_wp2_with fail
    go_ret
    exact ⟨by simp, HB9.out⟩
  have E4 := hid (HE4.out rfl)
  have E5 := hid (HE5.out rfl)
  clear HE4 HE5
  go_wp2_with fail
  refine (below_at h2 _).mono ?_
  rintro x W2 ⟨rfl, hb2⟩
  have hA3 := hid (var_on hb2 hA2.out lA)
  have H3 := hid (var_on hb2 H9.out l9)
  have HB3 := hid (below_on HB9.out hb2)
  clear hb2 hA2 H9 HB9 cA lA l9
  have cA := (cells_at hA3.out).1
  have lA := at_lt hA3.out
  have l9 := at_lt H3.out
  cases r2
  · go_wp2_with fail
    go_ret
    exact ⟨by simp, HB3.out⟩
  go_wp2_with fail
  refine (below_at h3 _).mono ?_
  rintro x W3 ⟨rfl, hb2⟩
  have hA4 := hid (var_on hb2 hA3.out lA)
  have H4 := hid (var_on hb2 H3.out l9)
  have HB4 := hid (below_on HB3.out hb2)
  clear hb2 hA3 H3 HB3 cA lA l9
  have cA := (cells_at hA4.out).1
  have lA := at_lt hA4.out
  have l9 := at_lt H4.out
  cases r3
  · go_wp2_with fail
    go_ret
    exact ⟨by simp, HB4.out⟩
  go_wp2_with ((with_reducible refine wpList_load_bG ?_ (.tmp 5) rfl rfl lB H4.out ?_); · rfl)
  refine (note_stand (HM.out.below HB4.out) ((HR.out.later HB4.out).mo) HA.out.mo lB E4 hlen.out.mo).mono ?_
  rintro x W4 ⟨rfl, hb2⟩
  have hA5 := hid (var_on hb2 hA4.out lA)
  have H5 := hid (var_on hb2 H4.out l9)
  have HB5 := hid (below_on HB4.out hb2)
  clear hb2 hA4 H4 HB4 cA lA l9
  have cA := (cells_at hA5.out).1
  have lA := at_lt hA5.out
  have l9 := at_lt H5.out
  cases r4
  · go_wp2_with fail
    go_ret
    exact ⟨by simp, HB5.out⟩
  go_wp2_with ((with_reducible refine wpList_load_bG ?_ (.tmp 5) rfl rfl lB H5.out ?_); · rfl)
  refine (note_stand (HM.out.below HB5.out) ((HR.out.later HB5.out).gi) HA.out.gi lB E5 hlen.out.gi).mono ?_
  rintro x W5 ⟨rfl, hb2⟩
  have hA6 := hid (var_on hb2 hA5.out lA)
  have HB6 := hid (below_on HB5.out hb2)
  clear hb2 hA5 H5 HB5 cA lA l9
  have cA := (cells_at hA6.out).1
  have lA := at_lt hA6.out
  cases r5
  · go_wp2_with fail
    go_ret
    exact ⟨by simp, HB6.out⟩
  cases r6
  · have d0 : decide ((n.wa.length : Int) ≤ 20) = false := by have := h6.out; simp at this; simp; omega
    go_wp2_with fail
    go_ret
    exact ⟨by simp, HB6.out⟩
  have d0 : decide ((n.wa.length : Int) ≤ 20) = true := by have := h6.out; simp at this; simp; omega
  go_wp2_with fail
  refine (contains_func ((HR.out.later HB6.out).wa) HA.out.wa h7 hlen.out.wa).mono ?_
  rintro x W6 ⟨rfl, hb2⟩
  have HB7 := hid (below_on HB6.out hb2)
  clear hb2
  cases r7 <;>
  · go_wp2_with fail
    go_ret
    exact ⟨by simp, HB7.out⟩
end Go.Proofs.YtpedngbjpbeanaaGreatDoor
