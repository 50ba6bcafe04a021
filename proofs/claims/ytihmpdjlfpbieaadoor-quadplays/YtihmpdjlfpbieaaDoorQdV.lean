/- Contracts of the document's tree over this translation: In, deep, Depth; and of the statements' same. Each returns what the plain functions say, and changes nothing that was there. -/
import Derived.Test.YtihmpdjlfpbieaaDoorQdS
import Derived.Test.YtihmpdjlfpbieaaDoorQd7
namespace Go.Proofs.YtihmpdjlfpbieaaDoor
open Go.RowKit
set_option linter.unusedVariables false
def rinL (L : List Mk) (r : Rc) : List Int := (L.filter fun m => inB r m.x m.y).map Mk.id
theorem rin_yes {r : Rc} {l : List Mk} {j : Nat} {a : Mk} (h : l[j]? = some a) (hq : inB r a.x a.y = true) : rinL (l.take (j + 1)) r = rinL (l.take j) r ++ [a.id] := by
  rw [List.take_add_one, h]
  simp [rinL, hq]
theorem rin_no {r : Rc} {l : List Mk} {j : Nat} {a : Mk} (h : l[j]? = some a) (hq : inB r a.x a.y = false) : rinL (l.take (j + 1)) r = rinL (l.take j) r := by
  rw [List.take_add_one, h]
  simp [rinL, hq]
theorem rin_le (l : List Mk) (r : Rc) : (rinL l r).length ≤ l.length := by
  unfold rinL
  rw [List.length_map]
  exact List.length_filter_le _ _
theorem rin_at {r0 r1 r2 r3 x y : Int} {q : Bool} (h : Hid (inB ⟨r0, r1, r2, r3⟩ x y = q)) (w : World) : Calls Tryd.prog 38 #[rc r0 r1 r2 r3, pt x y] w fun e w' => e = .returned (.bool q) ∧ Below w.heap.size w w' := by
  rw [← h.out]; exact ref_in w r0 r1 r2 r3 x y
set_option maxHeartbeats 4000000 in
theorem ref_In {w : World} {base tb : Nat} {v : Value} {S : List Mk} (h : RT w base tb v S) (hl : S.length ≤ 1000) (r0 r1 r2 r3 : Int) :
    Calls Tryd.prog 20 #[.pointer (some ⟨tb, 0, none⟩), rc r0 r1 r2 r3] w fun e w' => ∃ p cap, e = .returned (.slice p (rinL S ⟨r0, r1, r2, r3⟩).length cap) ∧ RowG cI 1 w' p (rinL S ⟨r0, r1, r2, r3⟩) ∧ Below w.heap.size w w' := by
  obtain ⟨W0, hW0⟩ : ∃ W0, W0 = w.alloc (.cells #[.int .i64 r0, .int .i64 r1, .int .i64 r2, .int .i64 r3] 33) := ⟨_, rfl⟩
  have hB0 : Below w.heap.size w W0 := by rw [hW0]; exact below1 _ _
  have KR := hid (show W0.heap[w.heap.size]? = some (.cells #[.int .i64 r0, .int .i64 r1, .int .i64 r2, .int .i64 r3] 33 (0, 0)) by rw [hW0]; exact new_at _ _ _ rfl)
  have HT := hid (h.later hB0)
  clear h
  obtain ⟨r, hr⟩ : ∃ r : Rc, Hid (r = ⟨r0, r1, r2, r3⟩) := ⟨_, rfl⟩
  rw [← hr.out]
  obtain ⟨n, hn⟩ : ∃ n, Hid (S.length = n) := ⟨_, rfl⟩
  obtain ⟨R, hR⟩ : ∃ R, Hid (rinL S r = R) := ⟨_, rfl⟩
  rw [hR.out]
  have hl' : n ≤ 1000 := by rw [← hn.out]; exact hl
  clear hl
  obtain ⟨i0, hi, hz0, hz1, hz2⟩ := info_parts3 Tryd.info3
  obtain ⟨p, cap, rfl, hrow, hcap, hmax⟩ := HT.out.row
  have hmax' : cap ≤ 9223372036854775807 := hmax
  rw [hn.out] at HT hcap
  go_enter Tryd.func20, Tryd.ntmps20
  go_wp2_with fail
  rw [← hW0]
  clear hW0
  go_loopw [6, 5] (fun s6 s5 wr => ∃ (k : Nat) (M : List Int), k ≤ n ∧ s6 = .int .i64 (k : Nat) ∧ Hid (M = rinL (S.take k) r) ∧ M.length ≤ k ∧ wr.ownsRow W0.heap.size 3 1 s5 M.length (flatG cI M) ∧ Below W0.heap.size W0 wr) (fun s6 _ _ => n - (intOf s6).toNat)
  case atStart => exact ⟨0, [], by omega, rfl, (show Hid _ from rfl), by simp, World.ownsRow_nil _ _ _ _, Below.refl _ _⟩
  case round =>
    obtain ⟨k, M, hk, rfl, hM, hMl, ho, hb⟩ := hrel
    have hT := cells_at (HT.out.later hb).at_
    by_cases hlt : k < n
    · have hlt' : (k : Int) < (n : Int) := by omega
      obtain ⟨a, ha⟩ := get_some S k (by rw [hn.out]; exact hlt)
      obtain ⟨b, off, rfl, hc1, hc2, hc3⟩ := mark_at (hrow.later hb) ha
      have HA := hid ha
      clear ha
      obtain ⟨q, hq⟩ : ∃ q, Hid (inB ⟨r0, r1, r2, r3⟩ a.x a.y = q) := ⟨_, rfl⟩
      have hin : Hid (inB r a.x a.y = q) := by
        show inB r a.x a.y = q
        rw [hr.out]; exact hq.out
      have e1 := grown_cells (var_on hb KR.out (lt_of_at KR.out))
      have e2 := grown_cells (HT.out.later hb).at_
      have f1 := cell_regrown hc1
      have f2 := cell_regrown hc2
      have f3 := cell_regrown hc3
      have D2 := fun w => rin_at hq w
      go_wp2_with fail
      refine wp_region_quiet_below (by kernel_rfl) (by kernel_rfl) ?_
      repeat (first | go_big_quiet_skip | (go_big_quiet_want; go_big_quiet_op; first | go_big_quiet_on | go_big_quiet_call (first | with_reducible exact Calls.regrown_of (D2 _))))
      refine wpQuiet_nil ?_
      intro W4 hw'
      obtain ⟨⟨dq, osq⟩, hw''⟩ := hw'
      have hb4 : Below wr.heap.size wr W4 := by rw [hw'']; exact below_regrown _ _ _
      clear hw'' e1 e2 f1 f2 f3 D2 hT
      replace ho := owns_on ho hb4
      replace hc1 := cell_below hb4 hc1
      have hB4 := hb.trans (hb4.mono hb.size)
      have hT4 := cells_at (HT.out.later hB4).at_
      clear hb4 hb hc2 hc3
      have hs4 := hB4.size
      cases q
      · go_wp2_with fail
        go_roundw
        case rel =>
          refine ⟨k + 1, M, by omega, by go_num, ?_, by omega, ho, hB4⟩
          show M = _
          rw [rin_no HA.out hin.out]; exact hM.out
        case measure => simp [intOf]; omega
      · go_wp2_with (at_builtin; refine wpList_append_lies _ rfl _ _ 44 rfl W0.heap.size 3 i0 (.int .i64 0) 1 8 Tryd.underlying44 hi hz0 hz1 hz2 rfl (by decide) _ _ _ rfl (ho.alloc _) ⟨W4.heap.size, 0, none⟩ 1 1 (cI a.id) rfl rfl (World.news_of_block (heap_alloc_new _ _)) (by intro u hu; rw [List.mem_singleton.1 hu]; rfl) (by decide) (by unfold maxLen; omega) (by omega) (by simp; omega) _ rfl ?_)
        intro g cap2 w5 hown hgrow hat hg5
        have hB5 := (hB4.alloc hs4 (.cells #[.int .i64 a.id] 3)).grown hgrow (by simp; omega) (fun k hk => (ho.lt k hk).1)
        clear hgrow hat ho hT4
        go_wp2_with fail
        go_roundw
        case rel =>
          refine ⟨k + 1, M ++ [a.id], by omega, by go_num, ?_, by simp; omega, ?_, hB5⟩
          · show M ++ [a.id] = _
            rw [rin_yes HA.out hin.out, hM.out]
          · rw [flatG_append, flatG_one, List.length_append]; exact hown
        case measure => simp [intOf]; omega
    · obtain rfl : k = n := by omega
      have hlt' : ¬ (k : Int) < (k : Int) := by omega
      have hend : M = R := by rw [hM.out, ← hn.out, List.take_length, hR.out]
      rw [hend] at ho
      clear hM
      obtain ⟨p5, c5, rfl⟩ := owns_slice ho
      go_wp2_with fail
      go_ret
      exact ⟨p5, ⟨c5, rfl⟩, row_own cI_z ho rfl, below_on hB0 hb⟩
def qR (r : Rc) (i : Nat) : Rc := ⟨r.x0 + (i % 2 : Nat) * ((r.x1 - r.x0) / 2), r.y0 + (i / 2 : Nat) * ((r.x1 - r.x0) / 2), r.x0 + (i % 2 : Nat) * ((r.x1 - r.x0) / 2) + (r.x1 - r.x0) / 2, r.y0 + (i / 2 : Nat) * ((r.x1 - r.x0) / 2) + (r.x1 - r.x0) / 2⟩
/-- how deep the document's tree is from a square of depth d on, k levels being left -/
def rdp (L : List Mk) : Nat → Rc → Nat → Nat
  | 0, _, d => d
  | k + 1, r, d => if (rinL L r).length ≤ 4 then d else max (max (max (max d (rdp L k (qR r 0) (d + 1))) (rdp L k (qR r 1) (d + 1))) (rdp L k (qR r 2) (d + 1))) (rdp L k (qR r 3) (d + 1))
def upto (f : Nat → Nat) (d : Nat) : Nat → Nat
  | 0 => d
  | k + 1 => max (upto f d k) (f k)
structure okR (r : Rc) : Prop where
  a : 0 ≤ r.x0
  b : r.x0 ≤ r.x1
  c : r.x1 ≤ 64
  d : 0 ≤ r.y0
  e : r.y0 + (r.x1 - r.x0) ≤ 64
theorem okR_q {r : Rc} (h : okR r) {i : Nat} (hi : i < 4) : okR (qR r i) := by
  obtain ⟨a, b, c, d, e⟩ := h
  have h4 : i = 0 ∨ i = 1 ∨ i = 2 ∨ i = 3 := by omega
  rcases h4 with rfl | rfl | rfl | rfl <;> (constructor <;> simp only [qR] <;> omega)
theorem rdp_le (L : List Mk) : ∀ k r d, rdp L k r d ≤ d + k
  | 0, r, d => Nat.le_refl _
  | k + 1, r, d => by
    have h := fun i => rdp_le L k (qR r i) (d + 1)
    have h0 := h 0
    have h1 := h 1
    have h2 := h 2
    have h3 := h 3
    unfold rdp
    split
    · omega
    · omega
theorem rdp_upto (L : List Mk) (k : Nat) (r : Rc) (d : Nat) (h : ¬ (rinL L r).length ≤ 4) : rdp L (k + 1) r d = upto (fun i => rdp L k (qR r i) (d + 1)) d 4 := by
  rw [rdp, if_neg h]
  rfl
theorem upto_le {f : Nat → Nat} {d B : Nat} (hd : d ≤ B) (hf : ∀ i, f i ≤ B) : ∀ k, upto f d k ≤ B
  | 0 => hd
  | k + 1 => by
    have := upto_le hd hf k
    have := hf k
    unfold upto
    omega
set_option maxHeartbeats 4000000 in
theorem ref_deep {base tb : Nat} {v : Value} {S : List Mk} (hl : S.length ≤ 1000) : ∀ (k : Nat) (w : World) (r : Rc) (d : Nat), d + k = 4 → okR r → RT w base tb v S →
    Calls Tryd.prog 40 #[.pointer (some ⟨tb, 0, none⟩), r.v, .int .i64 (d : Nat)] w fun e w' => e = .returned (.int .i64 (rdp S k r d : Nat)) ∧ Below w.heap.size w w' := by
  intro k
  induction k with
  | zero =>
    intro w r d hdk hr h
    obtain ⟨x0, y0, x1, y1⟩ := r
    obtain rfl : d = 4 := by omega
    show Calls _ _ _ _ fun e w' => e = .returned (.int .i64 (4 : Nat)) ∧ Below w.heap.size w w'
    clear h hr hdk
    go_enter Tryd.func40, Tryd.ntmps40
    go_wp2
    go_ret
    exact ⟨rfl, below1 _ _⟩
  | succ k ihk =>
    intro w r d hdk hr h
    have IH := hid (fun (W : World) (r : Rc) (hr : okR r) (hT : RT W base tb v S) => ihk W r (d + 1) (by omega) hr hT)
    clear ihk
    obtain ⟨W0, hW0⟩ : ∃ W0, W0 = w.alloc (.cells #[.int .i64 r.x0, .int .i64 r.y0, .int .i64 r.x1, .int .i64 r.y1] 33) := ⟨_, rfl⟩
    have hB0 : Below w.heap.size w W0 := by rw [hW0]; exact below1 _ _
    have KR := hid (show W0.heap[w.heap.size]? = some (.cells #[.int .i64 r.x0, .int .i64 r.y0, .int .i64 r.x1, .int .i64 r.y1] 33 (0, 0)) by rw [hW0]; exact new_at _ _ _ rfl)
    have HT := hid (h.later hB0)
    have HOK := hid hr
    clear h hr
    have hd4 : ((d : Int) == 4) = false := by
      have : ¬ (d : Int) = 4 := by omega
      simpa using this
    have C := ref_In HT.out hl r.x0 r.y0 r.x1 r.y1
    have hcR := cells_at KR.out
    obtain ⟨c, hc⟩ : ∃ c, Hid ((rinL S ⟨r.x0, r.y0, r.x1, r.y1⟩).length = c) := ⟨_, rfl⟩
    have hcl : c ≤ 1000 := by rw [← hc.out]; have := rin_le S ⟨r.x0, r.y0, r.x1, r.y1⟩; omega
    rw [hc.out] at C
    by_cases hq : c ≤ 4
    · have hres : rdp S (k + 1) r d = d := by rw [rdp, if_pos (by rw [← hc.out] at hq; exact hq)]
      rw [hres]
      have hq' : (c : Int) ≤ 4 := by omega
      clear hres IH
      go_enter Tryd.func40, Tryd.ntmps40
      go_wp2_with fail
      rw [← hW0]
      clear hW0
      refine C.mono ?_
      rintro z W1 ⟨p1, c1, rfl, hrow, hb1⟩
      clear hrow hcR
      go_wp2
      go_ret
      exact ⟨rfl, below_on hB0 hb1⟩
    · have hres := rdp_upto S k r d (by rw [← hc.out] at hq; exact hq)
      rw [hres]
      have hq' : ¬ (c : Int) ≤ 4 := by omega
      obtain ⟨f, hf⟩ : ∃ f : Nat → Nat, Hid (f = fun i => rdp S k (qR r i) (d + 1)) := ⟨_, rfl⟩
      rw [← hf.out]
      have hfl : Hid (∀ j, upto f d j ≤ 4) := fun j => upto_le (by omega) (fun i => by rw [hf.out]; have := rdp_le S k (qR r i) (d + 1); simp only; omega) j
      have hfl2 : Hid (∀ j, f j ≤ 4) := fun j => by rw [hf.out]; have := rdp_le S k (qR r j) (d + 1); simp only; omega
      have IHf : Hid (∀ (W : World) (j : Nat), j < 4 → RT W base tb v S → Calls Tryd.prog 40 #[.pointer (some ⟨tb, 0, none⟩), (qR r j).v, .int .i64 ((d : Int) + 1)] W fun e w' => e = .returned (.int .i64 (f j : Nat)) ∧ Below W.heap.size W w') := fun W j hj hT => by
        have := IH.out W (qR r j) (okR_q HOK.out hj) hT
        rw [hf.out]
        exact this
      obtain ⟨oa, ob', oc, od, oe⟩ := HOK.out
      obtain ⟨x0, y0, x1, y1⟩ := r
      simp only at KR hcR C oa ob' oc od oe
      obtain ⟨hh, hhe⟩ : ∃ hh : Nat, (x1 - x0) / 2 = (hh : Int) := ⟨((x1 - x0) / 2).toNat, by omega⟩
      have hhl : hh ≤ 32 := by omega
      have hdiv : (x1 - x0).tdiv 2 = (hh : Int) := by rw [Int.tdiv_eq_ediv_of_nonneg (by omega)]; exact hhe
      have IHg : Hid (∀ (W : World) (j : Nat), j < 4 → RT W base tb v S → Calls Tryd.prog 40 #[.pointer (some ⟨tb, 0, none⟩), rc (x0 + (j % 2 : Nat) * (hh : Int)) (y0 + (j / 2 : Nat) * (hh : Int)) (x0 + (j % 2 : Nat) * (hh : Int) + (hh : Int)) (y0 + (j / 2 : Nat) * (hh : Int) + (hh : Int)), .int .i64 ((d : Int) + 1)] W fun e w' => e = .returned (.int .i64 (f j : Nat)) ∧ Below W.heap.size W w') := fun W j hj hT => by
        have := IHf.out W j hj hT
        unfold qR at this
        simp only at this
        rw [hhe] at this
        exact this
      have b1 : y0 + 2 * (hh : Int) ≤ 64 := by omega
      have b2 : x0 + 2 * (hh : Int) ≤ 64 := by omega
      clear IH IHf hres hf hhe HOK
      go_enter Tryd.func40, Tryd.ntmps40
      go_wp2_with fail
      rw [← hW0]
      clear hW0
      refine C.mono ?_
      rintro z W1 ⟨p1, c1, rfl, hrow, hb1⟩
      clear hrow hcR C
      have K1 := hid (var_on hb1 KR.out (lt_of_at KR.out))
      have hcR := cells_at K1.out
      have HT1 := hid (HT.out.later hb1)
      have hB1 := below_on hB0 hb1
      clear hb1 KR HT hB0
      go_wp2_with fail
      go_loopw [9, 8] (fun s9 s8 wr => ∃ j : Nat, j ≤ 4 ∧ s9 = .int .i64 (j : Nat) ∧ s8 = .int .i64 (upto f d j : Nat) ∧ Below W1.heap.size W1 wr) (fun s9 _ _ => 4 - (intOf s9).toNat)
      case atStart => exact ⟨0, by omega, rfl, rfl, Below.refl _ _⟩
      case round =>
        obtain ⟨j, hj, rfl, rfl, hb⟩ := hrel
        clear hcR
        have hcR := cells_at (var_on hb K1.out (lt_of_at K1.out))
        by_cases hlt : j < 4
        · have hlt' : (j : Int) < 4 := by omega
          have I := fun W (hT : RT W base tb v S) => IHg.out W j hlt hT
          have eu : upto f d (j + 1) = max (upto f d j) (f j) := rfl
          obtain ⟨m, hm⟩ : ∃ m, Hid (upto f d j = m) := ⟨_, rfl⟩
          obtain ⟨m2, hm2⟩ : ∃ m2, Hid (f j = m2) := ⟨_, rfl⟩
          have hm4 : m ≤ 4 := by rw [← hm.out]; exact hfl.out j
          have hm24 : m2 ≤ 4 := by rw [← hm2.out]; exact hfl2.out j
          have EU : Hid (upto f d (j + 1) = max m m2) := by show _ = _; rw [eu, hm.out, hm2.out]
          clear eu
          rw [hm.out]
          simp only [hm2.out] at I
          obtain ⟨jm, hjm⟩ : ∃ jm : Nat, j % 2 = jm := ⟨_, rfl⟩
          obtain ⟨jd, hjd⟩ : ∃ jd : Nat, j / 2 = jd := ⟨_, rfl⟩
          have jm1 : (j : Int).tmod 2 = (jm : Int) := by rw [Int.tmod_eq_emod_of_nonneg (by omega)]; omega
          have jd1 : (j : Int).tdiv 2 = (jd : Int) := by rw [Int.tdiv_eq_ediv_of_nonneg (by omega)]; omega
          simp only [hjm, hjd] at I
          have jm2 : jm = 0 ∨ jm = 1 := by omega
          have jd2 : jd = 0 ∨ jd = 1 := by omega
          clear hjm hjd
          have px : ∃ px : Nat, (jm : Int) * (hh : Int) = px ∧ px ≤ hh := by
            rcases jm2 with e | e <;> rw [e]
            · exact ⟨0, by simp, by omega⟩
            · exact ⟨hh, by simp, by omega⟩
          have py : ∃ py : Nat, (jd : Int) * (hh : Int) = py ∧ py ≤ hh := by
            rcases jd2 with e | e <;> rw [e]
            · exact ⟨0, by simp, by omega⟩
            · exact ⟨hh, by simp, by omega⟩
          obtain ⟨px, px1, px2⟩ := px
          obtain ⟨py, py1, py2⟩ := py
          simp only [px1, py1] at I
          have ey : wrap64 (y0 + wrap64 (wrap64 (jd : Int) * (hh : Int))) = y0 + (py : Int) := by
            have e0 : wrap64 (jd : Int) = (jd : Int) := by unfold wrap64; omega
            rw [e0, py1]
            unfold wrap64; omega
          have ey2 : wrap64 (y0 + (py : Int) + (hh : Int)) = y0 + (py : Int) + (hh : Int) := by unfold wrap64; omega
          clear jm2 jd2
          have II := hid I
          clear I
          have s1 := hb.size
          go_wp2_with fail
          go_quiet (fail)
          go_wp2_with fail
          rw [ey]
          have hb2 := below_drewN hb nq
          have hq : Below wr.heap.size wr (wr.drewN nq) := below_drewN (Below.refl _ _) nq
          refine (II.out _ (HT1.out.later hb2)).mono ?_
          rintro z W5 ⟨rfl, hb5⟩
          have hB5 := hb2.trans (hb5.mono hb2.size)
          clear hb5 hb2 hq hcR
          go_wp2_with fail
          go_roundw
          case rel =>
            refine ⟨j + 1, by omega, by go_num, ?_, hB5⟩
            rw [EU.out]
            have : ((max m m2 : Nat) : Int) = max (m : Int) (m2 : Int) := by omega
            rw [this]
          case measure => simp [intOf]; omega
        · obtain rfl : j = 4 := by omega
          have hlt' : ¬ (4 : Int) < 4 := by omega
          go_wp2_with fail
          go_ret
          exact ⟨rfl, below_on hB1 hb⟩
theorem ref_depth {w : World} {base tb : Nat} {v : Value} {S : List Mk} (h : RT w base tb v S) (hl : S.length ≤ 1000) :
    Calls Tryd.prog 23 #[.pointer (some ⟨tb, 0, none⟩)] w fun e w' => e = .returned (.int .i64 (rdp S 4 ⟨0, 0, 64, 64⟩ 0 : Nat)) ∧ Below w.heap.size w w' := by
  have C := hid (fun (W : World) (hT : RT W base tb v S) => ref_deep hl 4 W ⟨0, 0, 64, 64⟩ 0 rfl ⟨by decide, by decide, by decide, by decide, by decide⟩ hT)
  obtain ⟨R, hR⟩ : ∃ R, Hid (rdp S 4 ⟨0, 0, 64, 64⟩ 0 = R) := ⟨_, rfl⟩
  simp only [hR.out] at C
  rw [hR.out]
  have HT := hid h
  clear h
  go_enter Tryd.func23, Tryd.ntmps23
  go_wp2_with fail
  refine (ref_whole w).mono ?_
  rintro z W1 ⟨rfl, hb1⟩
  go_wp2_with fail
  refine (C.out W1 (HT.out.later hb1)).mono ?_
  rintro z W2 ⟨rfl, hb2⟩
  go_wp2
  go_ret
  exact ⟨rfl, below_on hb1 hb2⟩
theorem int_at {w : World} {p : Option Addr} {L : List Int} (h : RowG cI 1 w p L) {k : Nat} {a : Int} (hk : L[k]? = some a) : ∃ b off, p = some ⟨b, off, none⟩ ∧ w.cell? ⟨b, off + k, none⟩ = some (.int .i64 a) := by
  obtain ⟨b, off, hp, hc⟩ := h.at hk
  refine ⟨b, off, hp, ?_⟩
  have := hc 0 _ rfl
  simpa using this
set_option maxHeartbeats 1000000 in
theorem law_same {w : World} {p1 p2 : Option Addr} {c1 c2 : Nat} {L M : List Int} (h1 : RowG cI 1 w p1 L) (h2 : RowG cI 1 w p2 M) (hl : L.length ≤ 100000) (hm : M.length ≤ 100000) :
    Calls Tryd.prog 18 #[.slice p1 L.length c1, .slice p2 M.length c2] w fun e w' => e = .returned (.bool (decide (L = M))) ∧ Below w.heap.size w w' := by
  obtain ⟨n, hn⟩ : ∃ n, Hid (L.length = n) := ⟨_, rfl⟩
  obtain ⟨m, hm'⟩ : ∃ m, Hid (M.length = m) := ⟨_, rfl⟩
  obtain ⟨R, hR⟩ : ∃ R, Hid (decide (L = M) = R) := ⟨_, rfl⟩
  rw [hn.out] at hl
  rw [hm'.out] at hm
  rw [hn.out, hm'.out, hR.out]
  by_cases hne : n = m
  · subst hne
    go_enter Tryd.func18, Tryd.ntmps18
    go_wp2_with fail
    go_loopw [5] (fun i wr => ∃ k : Nat, k ≤ n ∧ i = .int .i64 k ∧ Hid (∀ j, j < k → L[j]? = M[j]?) ∧ Below w.heap.size w wr) (fun i _ => n - (intOf i).toNat)
    case atStart => exact ⟨0, by omega, rfl, fun j hj => by omega, Below.refl _ _⟩
    case round =>
      obtain ⟨k, hk, rfl, HO, hb⟩ := hrel
      by_cases hlt : k < n
      · have hlt' : (k : Int) < (n : Int) := by omega
        obtain ⟨s, hs⟩ := get_some L k (by rw [hn.out]; exact hlt)
        obtain ⟨t, ht⟩ := get_some M k (by rw [hm'.out]; exact hlt)
        obtain ⟨b1, o1, e1, hc1⟩ := int_at (h1.later hb) hs
        obtain ⟨b2, o2, e2, hc2⟩ := int_at (h2.later hb) ht
        subst e1
        subst e2
        have HS := hid hs
        have HU := hid ht
        clear hs ht
        by_cases q : s = t
        · have q' : (s != t) = false := by simpa using q
          have Q := hid q
          clear q
          go_wp2_with fail
          go_quiet (fail)
          go_wp2_with fail
          go_roundw
          case rel =>
            refine ⟨k + 1, by omega, by go_num, fun j hj => ?_, below_drewN hb _⟩
            by_cases e : j = k
            · subst e
              rw [HS.out, HU.out, Q.out]
            · exact HO.out j (by omega)
          case measure => simp [intOf]; omega
        · have q' : (s != t) = true := by simpa using q
          have hf : R = false := by
            rw [← hR.out, decide_eq_false_iff_not]
            intro e
            rw [e, HU.out] at HS
            exact q (Option.some.inj HS.out).symm
          subst hf
          clear q
          go_wp2_with fail
          go_quiet (fail)
          go_wp2_with fail
          go_ret
          exact ⟨rfl, below_drewN hb _⟩
      · obtain rfl : k = n := by omega
        have hlt' : ¬ (k : Int) < (k : Int) := by omega
        have ht : R = true := by
          rw [← hR.out, decide_eq_true_iff]
          apply List.ext_getElem?
          intro j
          by_cases hj : j < k
          · exact HO.out j hj
          · rw [List.getElem?_eq_none (by rw [hn.out]; omega), List.getElem?_eq_none (by rw [hm'.out]; omega)]
        subst ht
        go_wp2_with fail
        go_ret
        exact ⟨rfl, hb⟩
  · have hne' : ((n : Int) != (m : Int)) = true := by
      have : ¬ (n : Int) = (m : Int) := by omega
      simpa using this
    have hf : R = false := by
      rw [← hR.out, decide_eq_false_iff_not]
      intro e
      rw [e, hm'.out] at hn
      exact hne hn.out.symm
    subst hf
    go_enter Tryd.func18, Tryd.ntmps18
    go_wp2
    go_ret
    exact ⟨rfl, Below.refl _ _⟩
end Go.Proofs.YtihmpdjlfpbieaaDoor
