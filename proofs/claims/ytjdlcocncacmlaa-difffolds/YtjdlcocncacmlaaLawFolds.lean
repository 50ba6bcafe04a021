/- DiffFolds holds: of every two rows of things that rise and two rectangles the events that the package diff tells are events all, rising; folded by the package event upon what was seen ahead they make what is seen now; from a row to itself there are none. -/
import Derived.Test.YtjdlcocncacmlaaKnown16
import Derived.ProofKit
import Derived.OpenShut
import Derived.ShutString
import Derived.ChangeOld
import Derived.Below
import Derived.SizedLaws
namespace Go.Proofs.Ytjdlcocncacmlaa
open Go.ChangeShapes Go.WideShapes Go.ChangeAt Go.RowKit
open Go.ChangeMaps (open_string shut_string)
set_option linter.unusedVariables false

set_option maxRecDepth 100000 in
set_option maxHeartbeats 8000000 in
theorem diffFolds_walk (w : World) (a0 : Option Addr) (cap0 : Nat) (L0 : List Th) (i0 : ∀ t ∈ L0, inT t) (r0 : RowT w a0 L0) (c0 : L0.length ≤ cap0) (m0 : cap0 ≤ maxLen) (a1 : Option Addr) (cap1 : Nat) (L1 : List Th) (i1 : ∀ t ∈ L1, inT t) (r1 : RowT w a1 L1) (c1 : L1.length ≤ cap1) (m1 : cap1 ≤ maxLen) (a20 a21 a22 a23 a30 a31 a32 a33 : Int) :
    Calls Try.prog 4 #[.slice a0 L0.length cap0, .slice a1 L1.length cap1, rc a20 a21 a22 a23, rc a30 a31 a32 a33] w fun e w' => e = .returned (.bool true) ∧ Below w.heap.size w w' := by
  obtain ⟨ti, hti, hz0, hz1, hz2⟩ := info_parts3 Try.infoEv
  obtain ⟨n0, hn0⟩ : ∃ n, Hid (L0.length = n) := ⟨_, rfl⟩
  obtain ⟨n1, hn1⟩ : ∃ n, Hid (L1.length = n) := ⟨_, rfl⟩
  obtain ⟨f0, hf0⟩ : ∃ q, Hid (fewL L0 = q) := ⟨_, rfl⟩
  obtain ⟨q0, hg0⟩ : ∃ q, Hid (good L0 = q) := ⟨_, rfl⟩
  have m0' : n0 ≤ maxLen := by rw [← hn0.out]; omega
  have k0 : n0 ≤ 9223372036854775807 := by unfold maxLen at m0'; omega
  have d0 : n0 ≤ cap0 := by rw [← hn0.out]; exact c0
  have I0 := hid i0
  obtain ⟨f1, hf1⟩ : ∃ q, Hid (fewL L1 = q) := ⟨_, rfl⟩
  obtain ⟨q1, hg1⟩ : ∃ q, Hid (good L1 = q) := ⟨_, rfl⟩
  have m1' : n1 ≤ maxLen := by rw [← hn1.out]; omega
  have k1 : n1 ≤ 9223372036854775807 := by unfold maxLen at m1'; omega
  have d1 : n1 ≤ cap1 := by rw [← hn1.out]; exact c1
  have I1 := hid i1
  obtain ⟨rp, rfl, rfl, rfl, rfl⟩ : ∃ r : Rc, r.x0 = a20 ∧ r.y0 = a21 ∧ r.x1 = a22 ∧ r.y1 = a23 := ⟨⟨a20, a21, a22, a23⟩, rfl, rfl, rfl, rfl⟩
  obtain ⟨rq, rfl, rfl, rfl, rfl⟩ : ∃ r : Rc, r.x0 = a30 ∧ r.y0 = a31 ∧ r.x1 = a32 ∧ r.y1 = a33 := ⟨⟨a30, a31, a32, a33⟩, rfl, rfl, rfl, rfl⟩
  obtain ⟨W0, hW0⟩ : ∃ W0, (w.alloc (rcO rp.x0 rp.y0 rp.x1 rp.y1)).alloc (rcO rq.x0 rq.y0 rq.x1 rq.y1) = W0 := ⟨_, rfl⟩
  have hE : Below w.heap.size w W0 := by rw [← hW0]; exact Go.Joins.below_alloc2 _ _ _
  have K := hid (show W0.heap[w.heap.size]? = some (rcO rp.x0 rp.y0 rp.x1 rp.y1) by rw [← hW0]; exact old_at (new_at _ _ _ rfl) _)
  have K' := hid (show W0.heap[w.heap.size + 1]? = some (rcO rq.x0 rq.y0 rq.x1 rq.y1) by rw [← hW0]; exact new_at _ _ _ (by simp))
  have R0 := hid (r0.later hE)
  have R1 := hid (r1.later hE)
  rw [hn0.out, hn1.out]
  clear c0 m0 r0 i0 c1 m1 r1 i1
  obtain ⟨g0, hg0'⟩ : ∃ g, Hid (w.heap.size = g) := ⟨_, rfl⟩
  obtain ⟨Q, hQ⟩ : ∃ Q : Ending → World → Prop, Hid ((fun e w' => e = .returned (.bool true) ∧ Below w.heap.size w w') = Q) := ⟨_, rfl⟩
  rw [hQ.out]
  go_enter Try.func4, Try.ntmps4
  go_upto_region 1 with fail
  try rw [hW0]
  clear hW0
  rw [hg0'.out] at K K' ⊢
  have hE0 := hid hE
  clear hE
  have SC : ∀ wx : World, Below W0.heap.size W0 wx → (wx.cell? ⟨g0, 0, none⟩ = some (.int .i64 rp.x0) ∧ wx.cell? ⟨g0, 1, none⟩ = some (.int .i64 rp.y0) ∧ wx.cell? ⟨g0, 2, none⟩ = some (.int .i64 rp.x1) ∧ wx.cell? ⟨g0, 3, none⟩ = some (.int .i64 rp.y1) ∧ wx.cell? ⟨g0 + 1, 0, none⟩ = some (.int .i64 rq.x0) ∧ wx.cell? ⟨g0 + 1, 1, none⟩ = some (.int .i64 rq.y0) ∧ wx.cell? ⟨g0 + 1, 2, none⟩ = some (.int .i64 rq.x1) ∧ wx.cell? ⟨g0 + 1, 3, none⟩ = some (.int .i64 rq.y1)) := fun wx hx => by
    have c := (cells_at (var_on hx K.out (at_lt K.out))).1
    have c' := (cells_at (var_on hx K'.out (at_lt K'.out))).1
    exact ⟨c 0, c 1, c 2, c 3, c' 0, c' 1, c' 2, c' 3⟩
  go_wp2_with fail
  refine (known_holds _).mono ?_
  rintro x v1 ⟨rfl, hB⟩
  go_wp2_with fail
  refine (few_at16 hf0 hn0 (R0.out.later hB) I0.out m0').mono ?_
  rintro x v2 ⟨rfl, hb⟩
  replace hB := below_on hB hb
  clear hb
  cases f0
  · go_wp2_with fail
    rw [← hQ.out]
    exact ⟨rfl, below_on hE0.out hB⟩
  go_wp2_with fail
  refine (few_at16 hf1 hn1 (R1.out.later hB) I1.out m1').mono ?_
  rintro x v3 ⟨rfl, hb⟩
  replace hB := below_on hB hb
  clear hb
  cases f1
  · go_wp2_with fail
    rw [← hQ.out]
    exact ⟨rfl, below_on hE0.out hB⟩
  go_wp2_with fail
  refine (law_rising _ _ _ _ _ _ hg0 hn0 (R0.out.later hB) I0.out m0').mono ?_
  rintro x v4 ⟨rfl, hb⟩
  replace hB := below_on hB hb
  clear hb
  cases q0
  · go_wp2_with fail
    rw [← hQ.out]
    exact ⟨rfl, below_on hE0.out hB⟩
  go_wp2_with fail
  refine (law_rising _ _ _ _ _ _ hg1 hn1 (R1.out.later hB) I1.out m1').mono ?_
  rintro x v5 ⟨rfl, hb⟩
  replace hB := below_on hB hb
  clear hb
  cases q1
  · go_wp2_with fail
    rw [← hQ.out]
    exact ⟨rfl, below_on hE0.out hB⟩
  have h30 := fewL_len16 hf0.out hn0.out
  have G0 := hid (good_goodR hg0.out I0.out)
  have h31 := fewL_len16 hf1.out hn1.out
  have G1 := hid (good_goodR hg1.out I1.out)
  clear hf0 hg0 hf1 hg1
  obtain ⟨M, hM⟩ : ∃ M, Hid (doO (seenL rp L0) (seenL rq L1) = M) := ⟨_, rfl⟩
  obtain ⟨nm, hnm⟩ : ∃ n, Hid (M.length = n) := ⟨_, rfl⟩
  obtain ⟨A, hA⟩ : ∃ A, Hid (seenL rp L0 = A) := ⟨_, rfl⟩
  obtain ⟨na, hna⟩ : ∃ n, Hid (A.length = n) := ⟨_, rfl⟩
  have hna2 : na ≤ 30 := by have := seen_len rp L0; rw [hA.out, hna.out, hn0.out] at this; omega
  obtain ⟨B, hBB⟩ : ∃ A, Hid (seenL rq L1 = A) := ⟨_, rfl⟩
  obtain ⟨nb, hnb⟩ : ∃ n, Hid (B.length = n) := ⟨_, rfl⟩
  have hnb2 : nb ≤ 30 := by have := seen_len rq L1; rw [hBB.out, hnb.out, hn1.out] at this; omega
  have hnm2 : nm ≤ 60 := by
    have h1 := doO_len (seenL rp L0) (seenL rq L1)
    rw [hM.out, hnm.out, hA.out, hBB.out, hna.out, hnb.out] at h1
    omega
  have GA := hid (show GoodR A by rw [← hA.out]; exact seen_good G0.out)
  have GB := hid (show GoodR B by rw [← hBB.out]; exact seen_good G1.out)
  have hMd : doO A B = M := by rw [← hA.out, ← hBB.out]; exact hM.out
  have hIS := hid (show ∀ e ∈ M, isE e = true by rw [← hMd]; exact doO_isE GA.out.is GB.out.is)
  have hIN := hid (show ∀ e ∈ M, inE e by rw [← hMd]; exact doO_inE GA.out.fit GB.out.fit)
  have hRI := hid (show M.Pairwise (fun x y => x.i < y.i) by rw [← hMd]; exact doO_rise GA.out.rise GB.out.rise)
  have hFO := hid (show foE A M = (B, true) by rw [← hMd]; exact foE_doO GA.out GB.out)
  have hD0 := hid (show doO (seenL rp L0) (seenL rp L0) = [] from doO_self _)
  have hZ0 := hid (show ([] : List Ev).length = 0 from rfl)
  clear hMd
  have SC1 := SC _ hB
  obtain ⟨s0, s1, s2, s3, s4, s5, s6, s7⟩ := SC1
  go_wp2_with fail
  refine (diff_of (r := rp) (r' := rq) (R0.out.later hB) (R1.out.later hB) hn0 hn1 (by omega) (by omega) hM hnm).mono ?_
  rintro x v6 ⟨pl, cl, rfl, hol, hb⟩
  have RE := hid (rowE_own hol hnm.out.symm)
  have hB6 := hid (below_on hB hb)
  clear hb hol hB s0 s1 s2 s3 s4 s5 s6 s7
  go_wp2_with fail
  go_loopw [10] (fun s10 wr => ∃ k : Nat, k ≤ nm ∧ s10 = .int .i64 (k : Nat) ∧ Below v6.heap.size v6 wr) (fun s10 _ => nm - (intOf s10).toNat)
  case atStart => exact ⟨0, by omega, rfl, Below.refl _ _⟩
  case round =>
    obtain ⟨k, hk, rfl, hb⟩ := hrel
    by_cases hlt : k < nm
    · have hlt' : (k : Int) < (nm : Int) := by omega
      obtain ⟨e, he⟩ := get_some M k (by rw [hnm.out]; exact hlt)
      have hem := List.mem_of_getElem? he
      obtain ⟨b, off, hpl, hc⟩ := RE.out.at he
      subst hpl
      have HC := hid hc
      have HE := hid he
      have IS := fun w => event_is (q := true) (hid (hIS.out e hem)) (hIN.out e hem) w
      have hG : ∀ W', (∃ p : Regrown, W' = Sort.grow (redrawn wr p.d) p.os) → W'.rangeAt b (off + k * 25) e.cs := fun W' ⟨p, ep⟩ => by rw [ep]; exact range_on HC.out (below_on hb (below_regrown wr p.d p.os))
      clear hc he hem
      by_cases h0 : k = 0
      · subst h0
        go_upto_region 9 with fail
        refine wp_region_quiet_below (by kernel_rfl) (by kernel_rfl) ?_
        repeat (first | go_big_quiet_skip | ((with_reducible refine quiet_load_mid_ev ?_ (.tmp 46) rfl rfl hG ?_); (· rfl); simp only [Act.put, List.setIfInBounds_toArray, List.set_cons_zero, List.set_cons_succ]) | (go_big_quiet_want; go_big_quiet_op; first | go_big_quiet_on | go_big_quiet_call (with_reducible exact Calls.regrown_of (IS _))))
        refine wpQuiet_nil ?_
        intro wz hw'
        obtain ⟨⟨dq, osq⟩, hw''⟩ := hw'
        have hbz : Below wr.heap.size wr wz := by rw [hw'']; exact below_regrown _ _ _
        have hBz := below_on hb hbz
        clear hw'' hbz
        clear hG IS
        go_wp2_with fail
        go_roundw
        case rel => exact ⟨1, by omega, by first | rfl | go_num, hBz⟩
        case measure => simp [intOf]; omega
      · obtain ⟨m, rfl⟩ : ∃ m, k = m + 1 := ⟨k - 1, by omega⟩
        obtain ⟨u, hu⟩ := get_some M m (by rw [hnm.out]; omega)
        obtain ⟨b2, off2, e2, hc2⟩ := RE.out.at hu
        simp only [Option.some.injEq, Addr.mk.injEq, and_true] at e2
        obtain ⟨rfl, rfl⟩ := e2
        have hlt2 : u.i < e.i := by
          have h1 := hRI.out
          rw [List.pairwise_iff_getElem] at h1
          have hm1 := (List.getElem?_eq_some_iff.1 hu)
          have hm2 := (List.getElem?_eq_some_iff.1 HE.out)
          have := h1 m (m + 1) hm1.1 hm2.1 (by omega)
          rw [hm1.2, hm2.2] at this
          exact this
        have hleq : decide (e.i ≤ u.i) = false := by simp; omega
        have hb' := hid hb
        have c1 : ∀ d os, (Sort.grow (redrawn wr d) os).cell? ⟨b, off + (m + 1) * 25 + 1, none⟩ = some (.int .i64 e.i) := fun d os => (range_on HC.out (below_on hb'.out (below_regrown wr d os))) 1 _ rfl
        have c2 : ∀ d os, (Sort.grow (redrawn wr d) os).cell? ⟨b, off + m * 25 + 1, none⟩ = some (.int .i64 u.i) := fun d os => (range_on hc2 (below_on hb'.out (below_regrown wr d os))) 1 _ rfl
        have hpos : (0 : Int) < (m : Int) + 1 := by omega
        have hm1 : (m : Int) + 1 - 1 = (m : Int) := by omega
        have hmn : (m : Int) < (nm : Int) := by omega
        clear hlt2 hu hc2 h0
        go_upto_region 9 with fail
        refine wp_region_quiet_below (by kernel_rfl) (by kernel_rfl) ?_
        repeat (first | go_big_quiet_skip | ((with_reducible refine quiet_load_mid_ev ?_ (.tmp 46) rfl rfl hG ?_); (· rfl); simp only [Act.put, List.setIfInBounds_toArray, List.set_cons_zero, List.set_cons_succ]) | (go_big_quiet_want; go_big_quiet_op; first | go_big_quiet_on | go_big_quiet_call (with_reducible exact Calls.regrown_of (IS _))))
        refine wpQuiet_nil ?_
        intro wz hw'
        obtain ⟨⟨dq, osq⟩, hw''⟩ := hw'
        have hbz : Below wr.heap.size wr wz := by rw [hw'']; exact below_regrown _ _ _
        have hBz := below_on hb hbz
        clear hw'' hbz
        clear hG IS c1 c2 hpos hm1 hmn hleq
        go_wp2_with fail
        go_roundw
        case rel => exact ⟨m + 2, by omega, by go_num, hBz⟩
        case measure => simp [intOf]; omega
    · obtain rfl : k = nm := by omega
      have hlt' : ¬ (k : Int) < (k : Int) := by omega
      have hB7 := below_on hB6.out hb
      have RE7 := hid (RE.out.later hb)
      have SC1 := SC _ hB7
      obtain ⟨s0, s1, s2, s3, s4, s5, s6, s7⟩ := SC1
      clear hb
      go_wp2_with fail
      refine (diff_seen (r := rp) (R0.out.later hB7) hn0 (by omega) hA hna).mono ?_
      rintro x v8 ⟨p8, c8, rfl, ho8, hb8⟩
      have RA8 := hid (row_own ho8 hna.out.symm)
      have RE8 := hid (RE7.out.later hb8)
      have hB8 := below_on hB7 hb8
      clear ho8 hb8 hB7 RE7 s0 s1 s2 s3 s4 s5 s6 s7
      go_wp2_with fail
      refine (event_fold hFO RA8.out GA.out.rise hna (by omega) RE8.out hnm (by omega) hIN.out hnb).mono ?_
      rintro x v9 ⟨p9, c9, rfl, ho9, hb9⟩
      have RB9 := hid (row_own ho9 hnb.out.symm)
      have hB9 := below_on hB8 hb9
      have SC1 := SC _ hB9
      obtain ⟨s0, s1, s2, s3, s4, s5, s6, s7⟩ := SC1
      clear ho9 hb9 hB8 RA8 RE8
      go_wp2_with fail
      refine (diff_seen (r := rq) (R1.out.later hB9) hn1 (by omega) hBB hnb).mono ?_
      rintro x v10 ⟨p10, c10, rfl, ho10, hb10⟩
      have RB10 := hid (row_own ho10 hnb.out.symm)
      have RB9b := hid (RB9.out.later hb10)
      have hB10 := below_on hB9 hb10
      clear ho10 hb10 hB9 RB9 s0 s1 s2 s3 s4 s5 s6 s7
      go_wp2_with fail
      refine (same_true16 RB9b.out RB10.out hnb (by omega)).mono ?_
      rintro x v11 ⟨rfl, hb11⟩
      have hB11 := below_on hB10 hb11
      have SC1 := SC _ hB11
      obtain ⟨s0, s1, s2, s3, s4, s5, s6, s7⟩ := SC1
      clear hb11 hB10 RB9b RB10
      go_wp2_with fail
      refine (diff_of (r := rp) (r' := rp) (R0.out.later hB11) (R0.out.later hB11) hn0 hn0 (by omega) (by omega) hD0 hZ0).mono ?_
      rintro x v12 ⟨p12, c12, rfl, -, hb12⟩
      have hB12 := below_on hB11 hb12
      clear hb12 hB11 SC s0 s1 s2 s3 s4 s5 s6 s7
      go_wp2_with fail
      rw [← hQ.out]
      exact ⟨rfl, below_on hE0.out hB12⟩

theorem diffFolds_own : ownKnob Try.prog.godebug = none := by kernel_rfl
theorem diffFolds_laidOut : laidOutB Try.prog = true := by kernel_rfl
set_option maxRecDepth 100000 in
theorem diffFolds_lifted (os : Os) (started : os.Started) (H : Type) (enc : TypeId × Value → H) :
    ReturnsInHanded {} Try.checked os 4 .any (Rows.diffFoldsSpec.pre6 enc Try.prog Try.f4 Rows.diffFoldsRow.domain false) (Rows.diffFoldsSpec.post enc Try.prog Try.f4 false true false false) := by
  refine returnsInHanded_of_change (C := Try.checked) diffFolds_own started (by kernel_rfl) Try.func4
    (ChangeSpec.witness6 (enc := enc) (C := Try.checked) false ⟨#[], #[.slice none 0 0, .slice none 0 0, .agg #[.int .i64 0, .int .i64 0, .int .i64 0, .int .i64 0], .agg #[.int .i64 0, .int .i64 0, .int .i64 0, .int .i64 0]], []⟩ 8 (by kernel_rfl) (by kernel_rfl) (by kernel_rfl) (by kernel_rfl)) ?_
  intro W base args ds gs before hval0 hW hcnd _
  have hval : ∀ (j : Nat) t v, Try.f4.params[j]? = some t → args[j]? = some v → Value.okWide Try.prog W .any base t v := hval0
  have hW' := hW
  obtain ⟨p, q, hA0, hV, rfl, hfz, hnd⟩ := hW
  have hA : DataW.TrodAll enc Try.prog W 0 (fun _ => true) true Try.f4.params.toList args.toList ds p := hA0
  rw [Try.params4] at hA hval
  obtain ⟨v0, vs0, d0, ds0, p0, q0, hargs, rfl, rfl, h0, r0⟩ := trodAll_cons hA
  obtain ⟨v1, vs1, d1, ds1, p1, q1, rfl, rfl, rfl, h1, r1⟩ := trodAll_cons r0
  obtain ⟨v2, vs2, d2, ds2, p2, q2, rfl, rfl, rfl, h2, r2⟩ := trodAll_cons r1
  obtain ⟨v3, vs3, d3, ds3, p3, q3, rfl, rfl, rfl, h3, r3⟩ := trodAll_cons r2
  obtain ⟨rfl, rfl, rfl⟩ := trodAll_nil r3
  obtain rfl : args = #[v0, v1, v2, v3] := by cases args; simp_all
  obtain ⟨rfl, rfl⟩ := trodVars_none hV
  have k0 := h0
  have lt0 : ∀ x ∈ p0, x.block < W.heap.size := by obtain ⟨m, hm⟩ := k0; exact DataW.trod_lt m _ _ _ hm
  have k1 := h1
  have lt1 : ∀ x ∈ p1, x.block < W.heap.size := by obtain ⟨m, hm⟩ := k1; exact DataW.trod_lt m _ _ _ hm
  have k2 := h2
  have lt2 : ∀ x ∈ p2, x.block < W.heap.size := by obtain ⟨m, hm⟩ := k2; exact DataW.trod_lt m _ _ _ hm
  have k3 := h3
  have lt3 : ∀ x ∈ p3, x.block < W.heap.size := by obtain ⟨m, hm⟩ := k3; exact DataW.trod_lt m _ _ _ hm
  obtain ⟨a0, cap0, L0, rfl, i0, r0', c0, m0⟩ := open_ths (hval 0 22 v0 rfl rfl) h0
  obtain ⟨a1, cap1, L1, rfl, i1, r1', c1, m1⟩ := open_ths (hval 1 22 v1 rfl rfl) h1
  obtain ⟨c20, c21, c22, c23, y20, y21, y22, y23, n2, rfl, rfl, rfl, t20, t21, t22, t23⟩ := Go.Joins.open_agg4 Try.underlying24 (by kernel_rfl) (by kernel_rfl) (hval 2 24 v2 rfl rfl) h2
  obtain ⟨a20, e20, -, w20⟩ := DataW.trod_int Try.underlying3 t20
  obtain rfl : c20 = .int .i64 a20 := by simpa using e20
  obtain ⟨a21, e21, -, w21⟩ := DataW.trod_int Try.underlying3 t21
  obtain rfl : c21 = .int .i64 a21 := by simpa using e21
  obtain ⟨a22, e22, -, w22⟩ := DataW.trod_int Try.underlying3 t22
  obtain rfl : c22 = .int .i64 a22 := by simpa using e22
  obtain ⟨a23, e23, -, w23⟩ := DataW.trod_int Try.underlying3 t23
  obtain rfl : c23 = .int .i64 a23 := by simpa using e23
  obtain ⟨c30, c31, c32, c33, y30, y31, y32, y33, n3, rfl, rfl, rfl, t30, t31, t32, t33⟩ := Go.Joins.open_agg4 Try.underlying24 (by kernel_rfl) (by kernel_rfl) (hval 3 24 v3 rfl rfl) h3
  obtain ⟨a30, e30, -, w30⟩ := DataW.trod_int Try.underlying3 t30
  obtain rfl : c30 = .int .i64 a30 := by simpa using e30
  obtain ⟨a31, e31, -, w31⟩ := DataW.trod_int Try.underlying3 t31
  obtain rfl : c31 = .int .i64 a31 := by simpa using e31
  obtain ⟨a32, e32, -, w32⟩ := DataW.trod_int Try.underlying3 t32
  obtain rfl : c32 = .int .i64 a32 := by simpa using e32
  obtain ⟨a33, e33, -, w33⟩ := DataW.trod_int Try.underlying3 t33
  obtain rfl : c33 = .int .i64 a33 := by simpa using e33
  clear hA0 hval0
  refine (diffFolds_walk W a0 cap0 L0 i0 r0' c0 m0 a1 cap1 L1 i1 r1' c1 m1 a20 a21 a22 a23 a30 a31 a32 a33).mono fun e W' ⟨he, bel⟩ => ?_
  subst he
  exact ⟨_, rfl, _, _, _, [], _, [], hW', trodAll_mk1 (shut_bool Try.underlying4 _), (trodAll_cons_mk (Below.trod diffFolds_laidOut (by kernel_rfl) (of_decide_eq_true (by kernel_rfl)) k0 bel lt0) (trodAll_cons_mk (Below.trod diffFolds_laidOut (by kernel_rfl) (of_decide_eq_true (by kernel_rfl)) k1 bel lt1) (trodAll_cons_mk (Below.trod diffFolds_laidOut (by kernel_rfl) (of_decide_eq_true (by kernel_rfl)) k2 bel lt2) (trodAll_cons_mk (Below.trod diffFolds_laidOut (by kernel_rfl) (of_decide_eq_true (by kernel_rfl)) k3 bel lt3) trodAll_mk0)))), rfl, bel.frame _, fun h => by cases h⟩

theorem diffFolds_over : Rows.diffFoldsRow.holds Try.pinned (OpenSpec.ofChange Rows.diffFoldsSpec) :=
  OpenClaim.holds_of_wide 4 Try.f4 rfl rfl rfl rfl rfl rfl rfl ⟨rfl, rfl, rfl, rfl, rfl⟩ rfl rfl rfl rfl rfl (by kernel_rfl) Try.func4 (by kernel_rfl)
    (of_decide_eq_true (by kernel_rfl)) (by unfold Func.isWrapper; first | (rw [if_pos (by decide +kernel)]; kernel_rfl) | (rw [if_neg (by decide +kernel)]; exact ⟨rfl, rfl⟩))
    (fun os started H enc _ => diffFolds_lifted os started H enc)

theorem diffFolds_holds : Rows.DiffFoldsSaid := diffFolds_over
#print axioms diffFolds_holds
end Go.Proofs.Ytjdlcocncacmlaa
