/- DiffRects holds: a rectangle that moves over things that stand still tells just the enters and leaves of those that it gains and loses, in the order of their numbers. -/
import Derived.Test.YtjdlcocncacmlaaKnown16
import Derived.ProofKit
import Derived.OpenShut
import Derived.ShutString
import Derived.ChangeOld
import Derived.Below
import Derived.SizedLaws
namespace Go.Proofs.Ytjdlcocncacmlaa
open Go.ChangeShapes Go.WideShapes Go.ChangeAt Go.RowKit
open Go.ChangeMaps (open_string shut_string)
set_option linter.unusedVariables false

theorem rects_min {P : Program} (w : World) (ts : Array TypeId) (t : TypeId) (a b c d : Int) : (Builtin.min_ ts t #[.int .i64 a, .int .i64 b, .int .i64 c, .int .i64 d]).run P w = .ok (.int .i64 (min (min (min a b) c) d)) w := by
  have e : ∀ x y : Int, (if y < x then y else x) = min x y := fun x y => by
    rw [Int.min_def]
    split <;> split <;> omega
  simp [Builtin.min_, Builtin.min2, e]
theorem rects_max {P : Program} (w : World) (ts : Array TypeId) (t : TypeId) (a b c d : Int) : (Builtin.max_ ts t #[.int .i64 a, .int .i64 b, .int .i64 c, .int .i64 d]).run P w = .ok (.int .i64 (max (max (max a b) c) d)) w := by
  have e : ∀ x y : Int, (if y > x then y else x) = max x y := fun x y => by
    rw [Int.max_def]
    split <;> split <;> omega
  simp [Builtin.max_, Builtin.max2, e]
theorem flips_at {p q : Rc} {L : List Th} {k c : Nat} {t : Th} {e : Ev} (h : L[k]? = some t) (hc : ((L.take k).flatMap (flip1 p q)).length = c) (hf : flip1 p q t = [e]) : (L.flatMap (flip1 p q))[c]? = some e := by
  rw [flips_take h, List.getElem?_append_right (by omega), hc, hf]
  simp
set_option maxRecDepth 100000 in
set_option maxHeartbeats 8000000 in
theorem diffRects_walk (w : World) (a0 : Option Addr) (cap0 : Nat) (L0 : List Th) (i0 : ∀ t ∈ L0, inT t) (r0 : RowT w a0 L0) (c0 : L0.length ≤ cap0) (m0 : cap0 ≤ maxLen) (a10 a11 a12 a13 a20 a21 a22 a23 : Int) :
    Calls Try.prog 6 #[.slice a0 L0.length cap0, rc a10 a11 a12 a13, rc a20 a21 a22 a23] w fun e w' => e = .returned (.bool true) ∧ Below w.heap.size w w' := by
  obtain ⟨ti, hti, hz0, hz1, hz2⟩ := info_parts3 Try.infoEv
  obtain ⟨n0, hn0⟩ : ∃ n, Hid (L0.length = n) := ⟨_, rfl⟩
  obtain ⟨f0, hf0⟩ : ∃ q, Hid (fewL L0 = q) := ⟨_, rfl⟩
  obtain ⟨q0, hg0⟩ : ∃ q, Hid (good L0 = q) := ⟨_, rfl⟩
  have m0' : n0 ≤ maxLen := by rw [← hn0.out]; omega
  have k0 : n0 ≤ 9223372036854775807 := by unfold maxLen at m0'; omega
  have d0 : n0 ≤ cap0 := by rw [← hn0.out]; exact c0
  have I0 := hid i0
  obtain ⟨rp, rfl, rfl, rfl, rfl⟩ : ∃ r : Rc, r.x0 = a10 ∧ r.y0 = a11 ∧ r.x1 = a12 ∧ r.y1 = a13 := ⟨⟨a10, a11, a12, a13⟩, rfl, rfl, rfl, rfl⟩
  obtain ⟨rq, rfl, rfl, rfl, rfl⟩ : ∃ r : Rc, r.x0 = a20 ∧ r.y0 = a21 ∧ r.x1 = a22 ∧ r.y1 = a23 := ⟨⟨a20, a21, a22, a23⟩, rfl, rfl, rfl, rfl⟩
  obtain ⟨W0, hW0⟩ : ∃ W0, (w.alloc (rcO rp.x0 rp.y0 rp.x1 rp.y1)).alloc (rcO rq.x0 rq.y0 rq.x1 rq.y1) = W0 := ⟨_, rfl⟩
  have hE : Below w.heap.size w W0 := by rw [← hW0]; exact Go.Joins.below_alloc2 _ _ _
  have K := hid (show W0.heap[w.heap.size]? = some (rcO rp.x0 rp.y0 rp.x1 rp.y1) by rw [← hW0]; exact old_at (new_at _ _ _ rfl) _)
  have K' := hid (show W0.heap[w.heap.size + 1]? = some (rcO rq.x0 rq.y0 rq.x1 rq.y1) by rw [← hW0]; exact new_at _ _ _ (by simp))
  have R0 := hid (r0.later hE)
  rw [hn0.out]
  clear c0 m0 r0 i0
  obtain ⟨g0, hg0'⟩ : ∃ g, Hid (w.heap.size = g) := ⟨_, rfl⟩
  obtain ⟨Q, hQ⟩ : ∃ Q : Ending → World → Prop, Hid ((fun e w' => e = .returned (.bool true) ∧ Below w.heap.size w w') = Q) := ⟨_, rfl⟩
  rw [hQ.out]
  go_enter Try.func6, Try.ntmps6
  go_upto_region 1 with fail
  try rw [hW0]
  clear hW0
  rw [hg0'.out] at K K' ⊢
  have hE0 := hid hE
  clear hE
  have SC : ∀ wx : World, Below W0.heap.size W0 wx → (wx.cell? ⟨g0, 0, none⟩ = some (.int .i64 rp.x0) ∧ wx.cell? ⟨g0, 1, none⟩ = some (.int .i64 rp.y0) ∧ wx.cell? ⟨g0, 2, none⟩ = some (.int .i64 rp.x1) ∧ wx.cell? ⟨g0, 3, none⟩ = some (.int .i64 rp.y1) ∧ wx.cell? ⟨g0 + 1, 0, none⟩ = some (.int .i64 rq.x0) ∧ wx.cell? ⟨g0 + 1, 1, none⟩ = some (.int .i64 rq.y0) ∧ wx.cell? ⟨g0 + 1, 2, none⟩ = some (.int .i64 rq.x1) ∧ wx.cell? ⟨g0 + 1, 3, none⟩ = some (.int .i64 rq.y1)) := fun wx hx => by
    have c := (cells_at (var_on hx K.out (at_lt K.out))).1
    have c' := (cells_at (var_on hx K'.out (at_lt K'.out))).1
    exact ⟨c 0, c 1, c 2, c 3, c' 0, c' 1, c' 2, c' 3⟩
  go_wp2_with fail
  refine (known_holds _).mono ?_
  rintro x v1 ⟨rfl, hB⟩
  go_wp2_with fail
  refine (few_at16 hf0 hn0 (R0.out.later hB) I0.out m0').mono ?_
  rintro x v2 ⟨rfl, hb⟩
  replace hB := below_on hB hb
  clear hb
  cases f0
  · go_wp2_with fail
    rw [← hQ.out]
    exact ⟨rfl, below_on hE0.out hB⟩
  go_wp2_with fail
  refine (law_rising _ _ _ _ _ _ hg0 hn0 (R0.out.later hB) I0.out m0').mono ?_
  rintro x v3 ⟨rfl, hb⟩
  replace hB := below_on hB hb
  clear hb
  cases q0
  · go_wp2_with fail
    rw [← hQ.out]
    exact ⟨rfl, below_on hE0.out hB⟩
  have h30 := fewL_len16 hf0.out hn0.out
  have G0 := hid (good_goodR hg0.out I0.out)
  clear hf0 hg0
  obtain ⟨M, hM⟩ : ∃ M, Hid (doO (seenL rp L0) (seenL rq L0) = M) := ⟨_, rfl⟩
  have hFl : L0.flatMap (flip1 rp rq) = M := by rw [← hM.out]; exact (doO_flips G0.out.rise).symm
  obtain ⟨nm, hnm⟩ : ∃ n, Hid (M.length = n) := ⟨_, rfl⟩
  have hnm2 : nm ≤ 60 := by
    have h1 := doO_len (seenL rp L0) (seenL rq L0)
    have h2 := seen_len rp L0
    have h3 := seen_len rq L0
    rw [hM.out, hnm.out] at h1
    rw [hn0.out] at h2 h3
    omega
  have SC1 := SC _ hB
  obtain ⟨s0, s1, s2, s3, s4, s5, s6, s7⟩ := SC1
  obtain ⟨mn, hmn⟩ : ∃ mn, Hid (min (min (min rp.x0 rp.y0) rq.x0) rq.y0 = mn) := ⟨_, rfl⟩
  obtain ⟨mx, hmx⟩ : ∃ mx, Hid (max (max (max rp.x1 rp.y1) rq.x1) rq.y1 = mx) := ⟨_, rfl⟩
  have CN : ∀ (ts : Array TypeId) (t : TypeId) (W : World), (Builtin.min_ ts t #[.int .i64 rp.x0, .int .i64 rp.y0, .int .i64 rq.x0, .int .i64 rq.y0]).run Try.prog W = .ok (.int .i64 mn) W := fun ts t W => by rw [rects_min, hmn.out]
  have CX : ∀ (ts : Array TypeId) (t : TypeId) (W : World), (Builtin.max_ ts t #[.int .i64 rp.x1, .int .i64 rp.y1, .int .i64 rq.x1, .int .i64 rq.y1]).run Try.prog W = .ok (.int .i64 mx) W := fun ts t W => by rw [rects_max, hmx.out]
  obtain ⟨bn, hbn⟩ : ∃ b, decide (mn < -10000) = b := ⟨_, rfl⟩
  obtain ⟨bx, hbx⟩ : ∃ b, decide (10000 < mx) = b := ⟨_, rfl⟩
  have GN : GoodR (L0) := G0.out
  cases bn
  case' true =>
    go_wp2_with fail
    rw [← hQ.out]
    exact ⟨rfl, below_on hE0.out hB⟩
  cases bx
  case' true =>
    go_wp2_with fail
    rw [← hQ.out]
    exact ⟨rfl, below_on hE0.out hB⟩
  go_wp2_with fail
  refine (diff_of (r := rp) (r' := rq) (R0.out.later hB) (R0.out.later hB) hn0 hn0 (by omega) (by omega) hM hnm).mono ?_
  rintro x v6 ⟨pl, cl, rfl, hol, hb⟩
  have RE := hid (rowE_own hol hnm.out.symm)
  have hB6 := hid (below_on hB hb)
  clear hb hol hB s0 s1 s2 s3 s4 s5 s6 s7 CN CX hbn hbx hmn hmx
  have KP := hid (var_on hB6.out K.out (at_lt K.out))
  have KQ := hid (var_on hB6.out K'.out (at_lt K'.out))
  subst hFl
  go_wp2_with fail
  go_loopw [8, 9] (fun s8 s9 wr => ∃ k c : Nat, k ≤ n0 ∧ s9 = .int .i64 (k : Nat) ∧ s8 = .int .i64 (c : Nat) ∧ Hid (((L0.take k).flatMap (flip1 rp rq)).length = c) ∧ Below v6.heap.size v6 wr) (fun _ s9 _ => n0 - (intOf s9).toNat)
  case atStart => exact ⟨0, 0, by omega, rfl, rfl, (show Hid _ from rfl), Below.refl _ _⟩
  case round =>
    obtain ⟨k, c, hk, rfl, rfl, hcn, hb⟩ := hrel
    by_cases hlt : k < n0
    · have hlt' : (k : Int) < (n0 : Int) := by omega
      obtain ⟨t, ht⟩ := get_th L0 k (by rw [hn0.out]; exact hlt)
      obtain ⟨b, off, hp, hc⟩ := R0.out.at ht
      subst hp
      have HC := hid hc
      have HT := hid ht
      obtain ⟨q1, hq1⟩ : ∃ q, Hid (inB rp t.x t.y = q) := ⟨_, rfl⟩
      obtain ⟨q2, hq2⟩ : ∃ q, Hid (inB rq t.x t.y = q) := ⟨_, rfl⟩
      have IS1 := fun W => seenRef_at hq1 W
      have IS2 := fun W => seenRef_at hq2 W
      have gp := grown_cells (var_on hb KP.out (at_lt KP.out))
      have gq := grown_cells (var_on hb KQ.out (at_lt KQ.out))
      have hcr := cellsT_later hc (below_on hB6.out hb)
      have gx := cell_regrown hcr.2.1
      have gy := cell_regrown hcr.2.2.1
      clear hc ht hcr
      go_upto_region 10 with fail
      refine wp_region_quiet_below (by kernel_rfl) (by kernel_rfl) ?_
      repeat (first | go_big_quiet_skip | (go_big_quiet_want; go_big_quiet_op; first | go_big_quiet_on | go_big_quiet_call (first | with_reducible exact Calls.regrown_of (IS1 _) | with_reducible exact Calls.regrown_of (IS2 _))))
      refine wpQuiet_nil ?_
      intro wz hw'
      obtain ⟨⟨dq, osq⟩, hw''⟩ := hw'
      have hbz : Below wr.heap.size wr wz := by rw [hw'']; exact below_regrown _ _ _
      have hBz := below_on hb hbz
      clear hw'' hbz gp gq gx gy IS1 IS2
      cases q1 <;> cases q2
      · have hf : flip1 rp rq t = [] := by unfold flip1; rw [hq1.out, hq2.out, if_pos rfl]
        have hstep := hid (show ((L0.take (k + 1)).flatMap (flip1 rp rq)).length = c by rw [flips_step HT.out, List.length_append, hcn.out, hf]; rfl)
        clear hf
        go_wp2_with fail
        go_roundw
        case rel => exact ⟨k + 1, c, by omega, by go_num, rfl, hstep, hBz⟩
        case measure => simp [intOf]; omega
      · have hf : flip1 rp rq t = [enE t] := by unfold flip1; rw [hq1.out, hq2.out]; rfl
        have hM := flips_at HT.out hcn.out hf
        have hstep := hid (show ((L0.take (k + 1)).flatMap (flip1 rp rq)).length = c + 1 by rw [flips_step HT.out, List.length_append, hcn.out, hf]; rfl)
        have hcM : c < nm := by
          have := (List.getElem?_eq_some_iff.1 hM).1
          rw [hnm.out] at this
          exact this
        obtain ⟨be, oe, hpl, hce⟩ := RE.out.at hM
        subst hpl
        have x0 : wz.cell? ⟨be, oe + c * 25, none⟩ = some (.int .i64 1) := (range_on hce hBz) 0 _ rfl
        have x1 : wz.cell? ⟨be, oe + c * 25 + 1, none⟩ = some (.int .i64 t.id) := (range_on hce hBz) 1 _ rfl
        obtain ⟨y0, -⟩ := cellsT_later HC.out (below_on hB6.out hBz)
        have hneq : (t.id != t.id) = false := by simp
        have hgeq : decide (nm ≤ c) = false := by simp; omega
        have hci : (c : Int) < (nm : Int) := by omega
        clear hf hM hce
        go_upto_region 15 with fail
        go_quiet (fail)
        clear x0 x1 y0 hgeq hci
        go_wp2_with fail
        go_roundw
        case rel => exact ⟨k + 1, c + 1, by omega, by go_num, by go_num, hstep, below_drewN hBz _⟩
        case measure => simp [intOf]; omega
      · have hf : flip1 rp rq t = [leE t] := by unfold flip1; rw [hq1.out, hq2.out]; rfl
        have hM := flips_at HT.out hcn.out hf
        have hstep := hid (show ((L0.take (k + 1)).flatMap (flip1 rp rq)).length = c + 1 by rw [flips_step HT.out, List.length_append, hcn.out, hf]; rfl)
        have hcM : c < nm := by
          have := (List.getElem?_eq_some_iff.1 hM).1
          rw [hnm.out] at this
          exact this
        obtain ⟨be, oe, hpl, hce⟩ := RE.out.at hM
        subst hpl
        have x0 : wz.cell? ⟨be, oe + c * 25, none⟩ = some (.int .i64 3) := (range_on hce hBz) 0 _ rfl
        have x1 : wz.cell? ⟨be, oe + c * 25 + 1, none⟩ = some (.int .i64 t.id) := (range_on hce hBz) 1 _ rfl
        obtain ⟨y0, -⟩ := cellsT_later HC.out (below_on hB6.out hBz)
        have hneq : (t.id != t.id) = false := by simp
        have hgeq : decide (nm ≤ c) = false := by simp; omega
        have hci : (c : Int) < (nm : Int) := by omega
        clear hf hM hce
        go_upto_region 15 with fail
        go_quiet (fail)
        clear x0 x1 y0 hgeq hci
        go_wp2_with fail
        go_roundw
        case rel => exact ⟨k + 1, c + 1, by omega, by go_num, by go_num, hstep, below_drewN hBz _⟩
        case measure => simp [intOf]; omega
      · have hf : flip1 rp rq t = [] := by unfold flip1; rw [hq1.out, hq2.out, if_pos rfl]
        have hstep := hid (show ((L0.take (k + 1)).flatMap (flip1 rp rq)).length = c by rw [flips_step HT.out, List.length_append, hcn.out, hf]; rfl)
        clear hf
        go_wp2_with fail
        go_roundw
        case rel => exact ⟨k + 1, c, by omega, by go_num, rfl, hstep, hBz⟩
        case measure => simp [intOf]; omega
    · obtain rfl : k = n0 := by omega
      have hlt' : ¬ (k : Int) < (k : Int) := by omega
      have hcm : c = nm := by
        have h1 := hcn.out
        rw [List.take_of_length_le (by rw [hn0.out]; omega)] at h1
        exact h1.symm.trans hnm.out
      subst hcm
      have hBf := below_on hB6.out hb
      clear hb hcn hnm2
      go_wp2_with fail
      rw [← hQ.out]
      exact ⟨rfl, below_on hE0.out hBf⟩

theorem diffRects_own : ownKnob Try.prog.godebug = none := by kernel_rfl
theorem diffRects_laidOut : laidOutB Try.prog = true := by kernel_rfl
set_option maxRecDepth 100000 in
theorem diffRects_lifted (os : Os) (started : os.Started) (H : Type) (enc : TypeId × Value → H) :
    ReturnsInHanded {} Try.checked os 6 .any (Rows.diffRectsSpec.pre6 enc Try.prog Try.f6 Rows.diffRectsRow.domain false) (Rows.diffRectsSpec.post enc Try.prog Try.f6 false true false false) := by
  refine returnsInHanded_of_change (C := Try.checked) diffRects_own started (by kernel_rfl) Try.func6
    (ChangeSpec.witness6 (enc := enc) (C := Try.checked) false ⟨#[], #[.slice none 0 0, .agg #[.int .i64 0, .int .i64 0, .int .i64 0, .int .i64 0], .agg #[.int .i64 0, .int .i64 0, .int .i64 0, .int .i64 0]], []⟩ 8 (by kernel_rfl) (by kernel_rfl) (by kernel_rfl) (by kernel_rfl)) ?_
  intro W base args ds gs before hval0 hW hcnd _
  have hval : ∀ (j : Nat) t v, Try.f6.params[j]? = some t → args[j]? = some v → Value.okWide Try.prog W .any base t v := hval0
  have hW' := hW
  obtain ⟨p, q, hA0, hV, rfl, hfz, hnd⟩ := hW
  have hA : DataW.TrodAll enc Try.prog W 0 (fun _ => true) true Try.f6.params.toList args.toList ds p := hA0
  rw [Try.params6] at hA hval
  obtain ⟨v0, vs0, d0, ds0, p0, q0, hargs, rfl, rfl, h0, r0⟩ := trodAll_cons hA
  obtain ⟨v1, vs1, d1, ds1, p1, q1, rfl, rfl, rfl, h1, r1⟩ := trodAll_cons r0
  obtain ⟨v2, vs2, d2, ds2, p2, q2, rfl, rfl, rfl, h2, r2⟩ := trodAll_cons r1
  obtain ⟨rfl, rfl, rfl⟩ := trodAll_nil r2
  obtain rfl : args = #[v0, v1, v2] := by cases args; simp_all
  obtain ⟨rfl, rfl⟩ := trodVars_none hV
  have k0 := h0
  have lt0 : ∀ x ∈ p0, x.block < W.heap.size := by obtain ⟨m, hm⟩ := k0; exact DataW.trod_lt m _ _ _ hm
  have k1 := h1
  have lt1 : ∀ x ∈ p1, x.block < W.heap.size := by obtain ⟨m, hm⟩ := k1; exact DataW.trod_lt m _ _ _ hm
  have k2 := h2
  have lt2 : ∀ x ∈ p2, x.block < W.heap.size := by obtain ⟨m, hm⟩ := k2; exact DataW.trod_lt m _ _ _ hm
  obtain ⟨a0, cap0, L0, rfl, i0, r0', c0, m0⟩ := open_ths (hval 0 22 v0 rfl rfl) h0
  obtain ⟨c10, c11, c12, c13, y10, y11, y12, y13, n1, rfl, rfl, rfl, t10, t11, t12, t13⟩ := Go.Joins.open_agg4 Try.underlying24 (by kernel_rfl) (by kernel_rfl) (hval 1 24 v1 rfl rfl) h1
  obtain ⟨a10, e10, -, w10⟩ := DataW.trod_int Try.underlying3 t10
  obtain rfl : c10 = .int .i64 a10 := by simpa using e10
  obtain ⟨a11, e11, -, w11⟩ := DataW.trod_int Try.underlying3 t11
  obtain rfl : c11 = .int .i64 a11 := by simpa using e11
  obtain ⟨a12, e12, -, w12⟩ := DataW.trod_int Try.underlying3 t12
  obtain rfl : c12 = .int .i64 a12 := by simpa using e12
  obtain ⟨a13, e13, -, w13⟩ := DataW.trod_int Try.underlying3 t13
  obtain rfl : c13 = .int .i64 a13 := by simpa using e13
  obtain ⟨c20, c21, c22, c23, y20, y21, y22, y23, n2, rfl, rfl, rfl, t20, t21, t22, t23⟩ := Go.Joins.open_agg4 Try.underlying24 (by kernel_rfl) (by kernel_rfl) (hval 2 24 v2 rfl rfl) h2
  obtain ⟨a20, e20, -, w20⟩ := DataW.trod_int Try.underlying3 t20
  obtain rfl : c20 = .int .i64 a20 := by simpa using e20
  obtain ⟨a21, e21, -, w21⟩ := DataW.trod_int Try.underlying3 t21
  obtain rfl : c21 = .int .i64 a21 := by simpa using e21
  obtain ⟨a22, e22, -, w22⟩ := DataW.trod_int Try.underlying3 t22
  obtain rfl : c22 = .int .i64 a22 := by simpa using e22
  obtain ⟨a23, e23, -, w23⟩ := DataW.trod_int Try.underlying3 t23
  obtain rfl : c23 = .int .i64 a23 := by simpa using e23
  clear hA0 hval0
  refine (diffRects_walk W a0 cap0 L0 i0 r0' c0 m0 a10 a11 a12 a13 a20 a21 a22 a23).mono fun e W' ⟨he, bel⟩ => ?_
  subst he
  exact ⟨_, rfl, _, _, _, [], _, [], hW', trodAll_mk1 (shut_bool Try.underlying4 _), (trodAll_cons_mk (Below.trod diffRects_laidOut (by kernel_rfl) (of_decide_eq_true (by kernel_rfl)) k0 bel lt0) (trodAll_cons_mk (Below.trod diffRects_laidOut (by kernel_rfl) (of_decide_eq_true (by kernel_rfl)) k1 bel lt1) (trodAll_cons_mk (Below.trod diffRects_laidOut (by kernel_rfl) (of_decide_eq_true (by kernel_rfl)) k2 bel lt2) trodAll_mk0))), rfl, bel.frame _, fun h => by cases h⟩

theorem diffRects_over : Rows.diffRectsRow.holds Try.pinned (OpenSpec.ofChange Rows.diffRectsSpec) :=
  OpenClaim.holds_of_wide 6 Try.f6 rfl rfl rfl rfl rfl rfl rfl ⟨rfl, rfl, rfl, rfl, rfl⟩ rfl rfl rfl rfl rfl (by kernel_rfl) Try.func6 (by kernel_rfl)
    (of_decide_eq_true (by kernel_rfl)) (by unfold Func.isWrapper; first | (rw [if_pos (by decide +kernel)]; kernel_rfl) | (rw [if_neg (by decide +kernel)]; exact ⟨rfl, rfl⟩))
    (fun os started H enc _ => diffRects_lifted os started H enc)

theorem diffRects_holds : Rows.DiffRectsSaid := diffRects_over
#print axioms diffRects_holds
end Go.Proofs.Ytjdlcocncacmlaa
