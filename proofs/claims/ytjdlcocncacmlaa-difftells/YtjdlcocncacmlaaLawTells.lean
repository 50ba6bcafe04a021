/- DiffTells holds: of every two rows of things that rise and two rectangles the package diff tells the events, and those that are seen, that the document's reference tells. -/
import Derived.Test.YtjdlcocncacmlaaKnown16
import Derived.ProofKit
import Derived.OpenShut
import Derived.ShutString
import Derived.ChangeOld
import Derived.Below
import Derived.SizedLaws
namespace Go.Proofs.Ytjdlcocncacmlaa
open Go.ChangeShapes Go.WideShapes Go.ChangeAt Go.RowKit
open Go.ChangeMaps (open_string shut_string)
set_option linter.unusedVariables false

set_option maxRecDepth 100000 in
set_option maxHeartbeats 8000000 in
theorem diffTells_walk (w : World) (a0 : Option Addr) (cap0 : Nat) (L0 : List Th) (i0 : ∀ t ∈ L0, inT t) (r0 : RowT w a0 L0) (c0 : L0.length ≤ cap0) (m0 : cap0 ≤ maxLen) (a1 : Option Addr) (cap1 : Nat) (L1 : List Th) (i1 : ∀ t ∈ L1, inT t) (r1 : RowT w a1 L1) (c1 : L1.length ≤ cap1) (m1 : cap1 ≤ maxLen) (a20 a21 a22 a23 a30 a31 a32 a33 : Int) :
    Calls Try.prog 3 #[.slice a0 L0.length cap0, .slice a1 L1.length cap1, rc a20 a21 a22 a23, rc a30 a31 a32 a33] w fun e w' => e = .returned (.bool true) ∧ Below w.heap.size w w' := by
  obtain ⟨ti, hti, hz0, hz1, hz2⟩ := info_parts3 Try.infoEv
  obtain ⟨n0, hn0⟩ : ∃ n, Hid (L0.length = n) := ⟨_, rfl⟩
  obtain ⟨n1, hn1⟩ : ∃ n, Hid (L1.length = n) := ⟨_, rfl⟩
  obtain ⟨f0, hf0⟩ : ∃ q, Hid (fewL L0 = q) := ⟨_, rfl⟩
  obtain ⟨q0, hg0⟩ : ∃ q, Hid (good L0 = q) := ⟨_, rfl⟩
  have m0' : n0 ≤ maxLen := by rw [← hn0.out]; omega
  have k0 : n0 ≤ 9223372036854775807 := by unfold maxLen at m0'; omega
  have d0 : n0 ≤ cap0 := by rw [← hn0.out]; exact c0
  have I0 := hid i0
  obtain ⟨f1, hf1⟩ : ∃ q, Hid (fewL L1 = q) := ⟨_, rfl⟩
  obtain ⟨q1, hg1⟩ : ∃ q, Hid (good L1 = q) := ⟨_, rfl⟩
  have m1' : n1 ≤ maxLen := by rw [← hn1.out]; omega
  have k1 : n1 ≤ 9223372036854775807 := by unfold maxLen at m1'; omega
  have d1 : n1 ≤ cap1 := by rw [← hn1.out]; exact c1
  have I1 := hid i1
  obtain ⟨rp, rfl, rfl, rfl, rfl⟩ : ∃ r : Rc, r.x0 = a20 ∧ r.y0 = a21 ∧ r.x1 = a22 ∧ r.y1 = a23 := ⟨⟨a20, a21, a22, a23⟩, rfl, rfl, rfl, rfl⟩
  obtain ⟨rq, rfl, rfl, rfl, rfl⟩ : ∃ r : Rc, r.x0 = a30 ∧ r.y0 = a31 ∧ r.x1 = a32 ∧ r.y1 = a33 := ⟨⟨a30, a31, a32, a33⟩, rfl, rfl, rfl, rfl⟩
  obtain ⟨W0, hW0⟩ : ∃ W0, (w.alloc (rcO rp.x0 rp.y0 rp.x1 rp.y1)).alloc (rcO rq.x0 rq.y0 rq.x1 rq.y1) = W0 := ⟨_, rfl⟩
  have hE : Below w.heap.size w W0 := by rw [← hW0]; exact Go.Joins.below_alloc2 _ _ _
  have K := hid (show W0.heap[w.heap.size]? = some (rcO rp.x0 rp.y0 rp.x1 rp.y1) by rw [← hW0]; exact old_at (new_at _ _ _ rfl) _)
  have K' := hid (show W0.heap[w.heap.size + 1]? = some (rcO rq.x0 rq.y0 rq.x1 rq.y1) by rw [← hW0]; exact new_at _ _ _ (by simp))
  have R0 := hid (r0.later hE)
  have R1 := hid (r1.later hE)
  rw [hn0.out, hn1.out]
  clear c0 m0 r0 i0 c1 m1 r1 i1
  obtain ⟨g0, hg0'⟩ : ∃ g, Hid (w.heap.size = g) := ⟨_, rfl⟩
  obtain ⟨Q, hQ⟩ : ∃ Q : Ending → World → Prop, Hid ((fun e w' => e = .returned (.bool true) ∧ Below w.heap.size w w') = Q) := ⟨_, rfl⟩
  rw [hQ.out]
  go_enter Try.func3, Try.ntmps3
  go_upto_region 1 with fail
  try rw [hW0]
  clear hW0
  rw [hg0'.out] at K K' ⊢
  have hE0 := hid hE
  clear hE
  have SC : ∀ wx : World, Below W0.heap.size W0 wx → (wx.cell? ⟨g0, 0, none⟩ = some (.int .i64 rp.x0) ∧ wx.cell? ⟨g0, 1, none⟩ = some (.int .i64 rp.y0) ∧ wx.cell? ⟨g0, 2, none⟩ = some (.int .i64 rp.x1) ∧ wx.cell? ⟨g0, 3, none⟩ = some (.int .i64 rp.y1) ∧ wx.cell? ⟨g0 + 1, 0, none⟩ = some (.int .i64 rq.x0) ∧ wx.cell? ⟨g0 + 1, 1, none⟩ = some (.int .i64 rq.y0) ∧ wx.cell? ⟨g0 + 1, 2, none⟩ = some (.int .i64 rq.x1) ∧ wx.cell? ⟨g0 + 1, 3, none⟩ = some (.int .i64 rq.y1)) := fun wx hx => by
    have c := (cells_at (var_on hx K.out (at_lt K.out))).1
    have c' := (cells_at (var_on hx K'.out (at_lt K'.out))).1
    exact ⟨c 0, c 1, c 2, c 3, c' 0, c' 1, c' 2, c' 3⟩
  go_wp2_with fail
  refine (known_holds _).mono ?_
  rintro x v1 ⟨rfl, hB⟩
  go_wp2_with fail
  refine (few_at16 hf0 hn0 (R0.out.later hB) I0.out m0').mono ?_
  rintro x v2 ⟨rfl, hb⟩
  replace hB := below_on hB hb
  clear hb
  cases f0
  · go_wp2_with fail
    rw [← hQ.out]
    exact ⟨rfl, below_on hE0.out hB⟩
  go_wp2_with fail
  refine (few_at16 hf1 hn1 (R1.out.later hB) I1.out m1').mono ?_
  rintro x v3 ⟨rfl, hb⟩
  replace hB := below_on hB hb
  clear hb
  cases f1
  · go_wp2_with fail
    rw [← hQ.out]
    exact ⟨rfl, below_on hE0.out hB⟩
  go_wp2_with fail
  refine (law_rising _ _ _ _ _ _ hg0 hn0 (R0.out.later hB) I0.out m0').mono ?_
  rintro x v4 ⟨rfl, hb⟩
  replace hB := below_on hB hb
  clear hb
  cases q0
  · go_wp2_with fail
    rw [← hQ.out]
    exact ⟨rfl, below_on hE0.out hB⟩
  go_wp2_with fail
  refine (law_rising _ _ _ _ _ _ hg1 hn1 (R1.out.later hB) I1.out m1').mono ?_
  rintro x v5 ⟨rfl, hb⟩
  replace hB := below_on hB hb
  clear hb
  cases q1
  · go_wp2_with fail
    rw [← hQ.out]
    exact ⟨rfl, below_on hE0.out hB⟩
  have h30 := fewL_len16 hf0.out hn0.out
  have G0 := hid (good_goodR hg0.out I0.out)
  have h31 := fewL_len16 hf1.out hn1.out
  have G1 := hid (good_goodR hg1.out I1.out)
  clear hf0 hg0 hf1 hg1
  obtain ⟨M, hM⟩ : ∃ M, Hid (doO (seenL rp L0) (seenL rq L1) = M) := ⟨_, rfl⟩
  obtain ⟨nm, hnm⟩ : ∃ n, Hid (M.length = n) := ⟨_, rfl⟩
  obtain ⟨A, hA⟩ : ∃ A, Hid (seenL rp L0 = A) := ⟨_, rfl⟩
  obtain ⟨na, hna⟩ : ∃ n, Hid (A.length = n) := ⟨_, rfl⟩
  have hna2 : na ≤ 30 := by have := seen_len rp L0; rw [hA.out, hna.out, hn0.out] at this; omega
  have hnm2 : nm ≤ 60 := by
    have h1 := doO_len (seenL rp L0) (seenL rq L1)
    have h2 := seen_len rp L0
    have h3 := seen_len rq L1
    rw [hM.out, hnm.out] at h1
    rw [hn0.out] at h2
    rw [hn1.out] at h3
    omega
  have hSM := hid (sameE_self M)
  have SB : ∀ wx : World, Below W0.heap.size W0 wx → (Below W0.heap.size W0 wx ∧ wx.cell? ⟨g0, 0, none⟩ = some (.int .i64 rp.x0) ∧ wx.cell? ⟨g0, 1, none⟩ = some (.int .i64 rp.y0) ∧ wx.cell? ⟨g0, 2, none⟩ = some (.int .i64 rp.x1) ∧ wx.cell? ⟨g0, 3, none⟩ = some (.int .i64 rp.y1) ∧ wx.cell? ⟨g0 + 1, 0, none⟩ = some (.int .i64 rq.x0) ∧ wx.cell? ⟨g0 + 1, 1, none⟩ = some (.int .i64 rq.y0) ∧ wx.cell? ⟨g0 + 1, 2, none⟩ = some (.int .i64 rq.x1) ∧ wx.cell? ⟨g0 + 1, 3, none⟩ = some (.int .i64 rq.y1)) := fun wx hx => ⟨hx, SC wx hx⟩
  go_wp2_with fail
  refine wp_region_held_drew (S := fun w' => Below W0.heap.size W0 w' ∧ w'.cell? ⟨g0, 0, none⟩ = some (.int .i64 rp.x0) ∧ w'.cell? ⟨g0, 1, none⟩ = some (.int .i64 rp.y0) ∧ w'.cell? ⟨g0, 2, none⟩ = some (.int .i64 rp.x1) ∧ w'.cell? ⟨g0, 3, none⟩ = some (.int .i64 rp.y1) ∧ w'.cell? ⟨g0 + 1, 0, none⟩ = some (.int .i64 rq.x0) ∧ w'.cell? ⟨g0 + 1, 1, none⟩ = some (.int .i64 rq.y0) ∧ w'.cell? ⟨g0 + 1, 2, none⟩ = some (.int .i64 rq.x1) ∧ w'.cell? ⟨g0 + 1, 3, none⟩ = some (.int .i64 rq.y1)) (by kernel_rfl) (SB _ hB.drew) (fun hHeld => ?_)
  refine take_yes (i := 0) (v := ?v0a) rfl (by kernel_rfl) (by kernel_rfl) (by kernel_rfl) (fun _ _ _ h => h) (by rfl) ?hy0a hHeld ?rest0a
  case hy0a =>
    intro w' hSw
    obtain ⟨-, s0, s1, s2, s3, s4, s5, s6, s7⟩ := hSw
    go_simp <;> with_reducible rfl
  try simp only [Act.put, List.setIfInBounds_toArray, List.set_cons_zero, List.set_cons_succ]
  refine take_yes (i := 1) (v := ?v1a) rfl (by kernel_rfl) (by kernel_rfl) (by kernel_rfl) (fun _ _ _ h => h) (by rfl) ?hy1a hHeld ?rest1a
  case hy1a =>
    intro w' hSw
    obtain ⟨-, s0, s1, s2, s3, s4, s5, s6, s7⟩ := hSw
    go_simp <;> with_reducible rfl
  try simp only [Act.put, List.setIfInBounds_toArray, List.set_cons_zero, List.set_cons_succ]
  refine take_yes (i := 2) (v := ?v2a) rfl (by kernel_rfl) (by kernel_rfl) (by kernel_rfl) (fun _ _ _ h => h) (by rfl) ?hy2a hHeld ?rest2a
  case hy2a =>
    intro w' hSw
    obtain ⟨-, s0, s1, s2, s3, s4, s5, s6, s7⟩ := hSw
    go_simp <;> with_reducible rfl
  try simp only [Act.put, List.setIfInBounds_toArray, List.set_cons_zero, List.set_cons_succ]
  refine take_yes (i := 3) (v := ?v3a) rfl (by kernel_rfl) (by kernel_rfl) (by kernel_rfl) (fun _ _ _ h => h) (by rfl) ?hy3a hHeld ?rest3a
  case hy3a =>
    intro w' hSw
    obtain ⟨-, s0, s1, s2, s3, s4, s5, s6, s7⟩ := hSw
    go_simp <;> with_reducible rfl
  try simp only [Act.put, List.setIfInBounds_toArray, List.set_cons_zero, List.set_cons_succ]
  refine take_yes (i := 5) (v := ?v5a) rfl (by kernel_rfl) (by kernel_rfl) (by kernel_rfl) (fun _ _ _ h => h) (by rfl) ?hy5a hHeld ?rest5a
  case hy5a =>
    intro w' hSw
    obtain ⟨-, s0, s1, s2, s3, s4, s5, s6, s7⟩ := hSw
    go_simp <;> with_reducible rfl
  try simp only [Act.put, List.setIfInBounds_toArray, List.set_cons_zero, List.set_cons_succ]
  refine take_yes (i := 6) (v := ?v6a) rfl (by kernel_rfl) (by kernel_rfl) (by kernel_rfl) (fun _ _ _ h => h) (by rfl) ?hy6a hHeld ?rest6a
  case hy6a =>
    intro w' hSw
    obtain ⟨-, s0, s1, s2, s3, s4, s5, s6, s7⟩ := hSw
    go_simp <;> with_reducible rfl
  try simp only [Act.put, List.setIfInBounds_toArray, List.set_cons_zero, List.set_cons_succ]
  refine take_yes (i := 7) (v := ?v7a) rfl (by kernel_rfl) (by kernel_rfl) (by kernel_rfl) (fun _ _ _ h => h) (by rfl) ?hy7a hHeld ?rest7a
  case hy7a =>
    intro w' hSw
    obtain ⟨-, s0, s1, s2, s3, s4, s5, s6, s7⟩ := hSw
    go_simp <;> with_reducible rfl
  try simp only [Act.put, List.setIfInBounds_toArray, List.set_cons_zero, List.set_cons_succ]
  refine take_yes (i := 8) (v := ?v8a) rfl (by kernel_rfl) (by kernel_rfl) (by kernel_rfl) (fun _ _ _ h => h) (by rfl) ?hy8a hHeld ?rest8a
  case hy8a =>
    intro w' hSw
    obtain ⟨-, s0, s1, s2, s3, s4, s5, s6, s7⟩ := hSw
    go_simp <;> with_reducible rfl
  try simp only [Act.put, List.setIfInBounds_toArray, List.set_cons_zero, List.set_cons_succ]
  refine wpAnyH_ready (rs := [4]) (by kernel_rfl) (by simp) (cons_at (i := 4) rfl (fun K4a hK4a => ?_) AllReadyH.nil)
  go_simp
  go_at_call 12
  with_reducible refine (diff_of (r := rp) (r' := rq) (R0.out.later hHeld.1) (R1.out.later hHeld.1) hn0 hn1 (by omega) (by omega) hM hnm).mono ?_
  rintro x V4 ⟨p4, c4, rfl, ho4, hb4⟩
  have hB4 := below_on hHeld.1 hb4
  clear hHeld
  have E4 := hid (rowE_own ho4 hnm.out.symm)
  go_wp2_with fail
  refine hK4a.out _ _ (SB _ hB4) (fun hHeld => ?_)
  clear hK4a K4a
  try simp only [Act.put, List.setIfInBounds_toArray, List.set_cons_zero, List.set_cons_succ]
  refine wpAnyH_ready (rs := [9]) (by kernel_rfl) (by simp) (cons_at (i := 9) rfl (fun K9a hK9a => ?_) AllReadyH.nil)
  go_simp
  go_at_call 13
  with_reducible refine (ref_diff15 (r := rp) (r' := rq) (R0.out.later hHeld.1) (R1.out.later hHeld.1) hn0 hn1 (by omega) (by omega) hM hnm).mono ?_
  rintro x V9 ⟨p9, c9, rfl, ho9, hb9⟩
  have hB9 := below_on hHeld.1 hb9
  clear hHeld
  have E9 := hid (rowE_own ho9 hnm.out.symm)
  have E4b := hid (E4.out.later (show Below V4.heap.size V4 V9 from (Below.refl _ _).trans (hb9.mono (Nat.le_refl _))))
  go_wp2_with fail
  refine hK9a.out _ _ (SB _ hB9) (fun hHeld => ?_)
  clear hK9a K9a
  try simp only [Act.put, List.setIfInBounds_toArray, List.set_cons_zero, List.set_cons_succ]
  refine wpAnyH_ready (rs := [10]) (by kernel_rfl) (by simp) (cons_at (i := 10) rfl (fun K10a hK10a => ?_) AllReadyH.nil)
  go_simp
  go_at_call 11
  with_reducible refine (refev_same (q := true) hSM E4b.out E9.out hnm hnm (by omega) (by omega)).mono ?_
  rintro x V10 ⟨rfl, hb10⟩
  have hB10 := below_on hHeld.1 hb10
  clear hHeld ho4 ho9 E4 E9 E4b hb4 hb9 hb10
  go_wp2_with fail
  refine hK10a.out _ _ (SB _ hB10) (fun hHeld => ?_)
  clear hK10a K10a
  try simp only [Act.put, List.setIfInBounds_toArray, List.set_cons_zero, List.set_cons_succ]
  refine take_yes (i := 11) (v := ?v11a) rfl (by kernel_rfl) (by kernel_rfl) (by kernel_rfl) (fun _ _ _ h => h) (by rfl) ?hy11a hHeld ?rest11a
  case hy11a =>
    intro w' hSw
    obtain ⟨-, s0, s1, s2, s3, s4, s5, s6, s7⟩ := hSw
    go_simp <;> with_reducible rfl
  try simp only [Act.put, List.setIfInBounds_toArray, List.set_cons_zero, List.set_cons_succ]
  refine take_yes (i := 12) (v := ?v12a) rfl (by kernel_rfl) (by kernel_rfl) (by kernel_rfl) (fun _ _ _ h => h) (by rfl) ?hy12a hHeld ?rest12a
  case hy12a =>
    intro w' hSw
    obtain ⟨-, s0, s1, s2, s3, s4, s5, s6, s7⟩ := hSw
    go_simp <;> with_reducible rfl
  try simp only [Act.put, List.setIfInBounds_toArray, List.set_cons_zero, List.set_cons_succ]
  refine take_yes (i := 13) (v := ?v13a) rfl (by kernel_rfl) (by kernel_rfl) (by kernel_rfl) (fun _ _ _ h => h) (by rfl) ?hy13a hHeld ?rest13a
  case hy13a =>
    intro w' hSw
    obtain ⟨-, s0, s1, s2, s3, s4, s5, s6, s7⟩ := hSw
    go_simp <;> with_reducible rfl
  try simp only [Act.put, List.setIfInBounds_toArray, List.set_cons_zero, List.set_cons_succ]
  refine take_yes (i := 15) (v := ?v15a) rfl (by kernel_rfl) (by kernel_rfl) (by kernel_rfl) (fun _ _ _ h => h) (by rfl) ?hy15a hHeld ?rest15a
  case hy15a =>
    intro w' hSw
    obtain ⟨-, s0, s1, s2, s3, s4, s5, s6, s7⟩ := hSw
    go_simp <;> with_reducible rfl
  try simp only [Act.put, List.setIfInBounds_toArray, List.set_cons_zero, List.set_cons_succ]
  refine take_yes (i := 16) (v := ?v16a) rfl (by kernel_rfl) (by kernel_rfl) (by kernel_rfl) (fun _ _ _ h => h) (by rfl) ?hy16a hHeld ?rest16a
  case hy16a =>
    intro w' hSw
    obtain ⟨-, s0, s1, s2, s3, s4, s5, s6, s7⟩ := hSw
    go_simp <;> with_reducible rfl
  try simp only [Act.put, List.setIfInBounds_toArray, List.set_cons_zero, List.set_cons_succ]
  refine wpAnyH_ready (rs := [14]) (by kernel_rfl) (by simp) (cons_at (i := 14) rfl (fun K14a hK14a => ?_) AllReadyH.nil)
  go_simp
  go_at_call 15
  with_reducible refine (diff_seen (r := rp) (R0.out.later hHeld.1) hn0 (by omega) hA hna).mono ?_
  rintro x V14 ⟨p14, c14, rfl, ho14, hb14⟩
  have hB14 := below_on hHeld.1 hb14
  clear hHeld
  have E14 := hid (row_own ho14 hna.out.symm)
  go_wp2_with fail
  refine hK14a.out _ _ (SB _ hB14) (fun hHeld => ?_)
  clear hK14a K14a
  try simp only [Act.put, List.setIfInBounds_toArray, List.set_cons_zero, List.set_cons_succ]
  refine wpAnyH_ready (rs := [17]) (by kernel_rfl) (by simp) (cons_at (i := 17) rfl (fun K17a hK17a => ?_) AllReadyH.nil)
  go_simp
  go_at_call 16
  with_reducible refine (ref_seen (r := rp) (R0.out.later hHeld.1) hn0 (by omega) hA hna).mono ?_
  rintro x V17 ⟨p17, c17, rfl, ho17, hb17⟩
  have hB17 := below_on hHeld.1 hb17
  clear hHeld
  have E17 := hid (row_own ho17 hna.out.symm)
  have E14b := hid (E14.out.later (show Below V14.heap.size V14 V17 from (Below.refl _ _).trans (hb17.mono (Nat.le_refl _))))
  go_wp2_with fail
  refine hK17a.out _ _ (SB _ hB17) (fun hHeld => ?_)
  clear hK17a K17a
  try simp only [Act.put, List.setIfInBounds_toArray, List.set_cons_zero, List.set_cons_succ]
  refine wpAnyH_ready (rs := [18]) (by kernel_rfl) (by simp) (cons_at (i := 18) rfl (fun K18a hK18a => ?_) AllReadyH.nil)
  go_simp
  go_at_call 14
  with_reducible refine (same_true16 E14b.out E17.out hna (by omega)).mono ?_
  rintro x V18 ⟨rfl, hb18⟩
  have hB18 := below_on hHeld.1 hb18
  clear hHeld ho14 ho17 E14 E17 E14b hb14 hb17 hb18
  go_wp2_with fail
  refine hK18a.out _ _ (SB _ hB18) (fun hHeld => ?_)
  clear hK18a K18a
  try simp only [Act.put, List.setIfInBounds_toArray, List.set_cons_zero, List.set_cons_succ]
  refine take_yes (i := 19) (v := ?v19a) rfl (by kernel_rfl) (by kernel_rfl) (by kernel_rfl) (fun _ _ _ h => h) (by rfl) ?hy19a hHeld ?rest19a
  case hy19a =>
    intro w' hSw
    obtain ⟨-, s0, s1, s2, s3, s4, s5, s6, s7⟩ := hSw
    go_simp <;> with_reducible rfl
  try simp only [Act.put, List.setIfInBounds_toArray, List.set_cons_zero, List.set_cons_succ]
  refine take_yes (i := 20) (v := ?v20a) rfl (by kernel_rfl) (by kernel_rfl) (by kernel_rfl) (fun _ _ _ h => h) (by rfl) ?hy20a hHeld ?rest20a
  case hy20a =>
    intro w' hSw
    obtain ⟨-, s0, s1, s2, s3, s4, s5, s6, s7⟩ := hSw
    go_simp <;> with_reducible rfl
  try simp only [Act.put, List.setIfInBounds_toArray, List.set_cons_zero, List.set_cons_succ]
  refine wpAnyH_done (by kernel_rfl) ?_ _
  clear hHeld SB SC
  go_wp2_with fail
  rw [← hQ.out]
  exact ⟨rfl, below_on hE0.out hB18⟩

theorem diffTells_own : ownKnob Try.prog.godebug = none := by kernel_rfl
theorem diffTells_laidOut : laidOutB Try.prog = true := by kernel_rfl
set_option maxRecDepth 100000 in
theorem diffTells_lifted (os : Os) (started : os.Started) (H : Type) (enc : TypeId × Value → H) :
    ReturnsInHanded {} Try.checked os 3 .any (Rows.diffTellsSpec.pre6 enc Try.prog Try.f3 Rows.diffTellsRow.domain false) (Rows.diffTellsSpec.post enc Try.prog Try.f3 false true false false) := by
  refine returnsInHanded_of_change (C := Try.checked) diffTells_own started (by kernel_rfl) Try.func3
    (ChangeSpec.witness6 (enc := enc) (C := Try.checked) false ⟨#[], #[.slice none 0 0, .slice none 0 0, .agg #[.int .i64 0, .int .i64 0, .int .i64 0, .int .i64 0], .agg #[.int .i64 0, .int .i64 0, .int .i64 0, .int .i64 0]], []⟩ 8 (by kernel_rfl) (by kernel_rfl) (by kernel_rfl) (by kernel_rfl)) ?_
  intro W base args ds gs before hval0 hW hcnd _
  have hval : ∀ (j : Nat) t v, Try.f3.params[j]? = some t → args[j]? = some v → Value.okWide Try.prog W .any base t v := hval0
  have hW' := hW
  obtain ⟨p, q, hA0, hV, rfl, hfz, hnd⟩ := hW
  have hA : DataW.TrodAll enc Try.prog W 0 (fun _ => true) true Try.f3.params.toList args.toList ds p := hA0
  rw [Try.params3] at hA hval
  obtain ⟨v0, vs0, d0, ds0, p0, q0, hargs, rfl, rfl, h0, r0⟩ := trodAll_cons hA
  obtain ⟨v1, vs1, d1, ds1, p1, q1, rfl, rfl, rfl, h1, r1⟩ := trodAll_cons r0
  obtain ⟨v2, vs2, d2, ds2, p2, q2, rfl, rfl, rfl, h2, r2⟩ := trodAll_cons r1
  obtain ⟨v3, vs3, d3, ds3, p3, q3, rfl, rfl, rfl, h3, r3⟩ := trodAll_cons r2
  obtain ⟨rfl, rfl, rfl⟩ := trodAll_nil r3
  obtain rfl : args = #[v0, v1, v2, v3] := by cases args; simp_all
  obtain ⟨rfl, rfl⟩ := trodVars_none hV
  have k0 := h0
  have lt0 : ∀ x ∈ p0, x.block < W.heap.size := by obtain ⟨m, hm⟩ := k0; exact DataW.trod_lt m _ _ _ hm
  have k1 := h1
  have lt1 : ∀ x ∈ p1, x.block < W.heap.size := by obtain ⟨m, hm⟩ := k1; exact DataW.trod_lt m _ _ _ hm
  have k2 := h2
  have lt2 : ∀ x ∈ p2, x.block < W.heap.size := by obtain ⟨m, hm⟩ := k2; exact DataW.trod_lt m _ _ _ hm
  have k3 := h3
  have lt3 : ∀ x ∈ p3, x.block < W.heap.size := by obtain ⟨m, hm⟩ := k3; exact DataW.trod_lt m _ _ _ hm
  obtain ⟨a0, cap0, L0, rfl, i0, r0', c0, m0⟩ := open_ths (hval 0 22 v0 rfl rfl) h0
  obtain ⟨a1, cap1, L1, rfl, i1, r1', c1, m1⟩ := open_ths (hval 1 22 v1 rfl rfl) h1
  obtain ⟨c20, c21, c22, c23, y20, y21, y22, y23, n2, rfl, rfl, rfl, t20, t21, t22, t23⟩ := Go.Joins.open_agg4 Try.underlying24 (by kernel_rfl) (by kernel_rfl) (hval 2 24 v2 rfl rfl) h2
  obtain ⟨a20, e20, -, w20⟩ := DataW.trod_int Try.underlying3 t20
  obtain rfl : c20 = .int .i64 a20 := by simpa using e20
  obtain ⟨a21, e21, -, w21⟩ := DataW.trod_int Try.underlying3 t21
  obtain rfl : c21 = .int .i64 a21 := by simpa using e21
  obtain ⟨a22, e22, -, w22⟩ := DataW.trod_int Try.underlying3 t22
  obtain rfl : c22 = .int .i64 a22 := by simpa using e22
  obtain ⟨a23, e23, -, w23⟩ := DataW.trod_int Try.underlying3 t23
  obtain rfl : c23 = .int .i64 a23 := by simpa using e23
  obtain ⟨c30, c31, c32, c33, y30, y31, y32, y33, n3, rfl, rfl, rfl, t30, t31, t32, t33⟩ := Go.Joins.open_agg4 Try.underlying24 (by kernel_rfl) (by kernel_rfl) (hval 3 24 v3 rfl rfl) h3
  obtain ⟨a30, e30, -, w30⟩ := DataW.trod_int Try.underlying3 t30
  obtain rfl : c30 = .int .i64 a30 := by simpa using e30
  obtain ⟨a31, e31, -, w31⟩ := DataW.trod_int Try.underlying3 t31
  obtain rfl : c31 = .int .i64 a31 := by simpa using e31
  obtain ⟨a32, e32, -, w32⟩ := DataW.trod_int Try.underlying3 t32
  obtain rfl : c32 = .int .i64 a32 := by simpa using e32
  obtain ⟨a33, e33, -, w33⟩ := DataW.trod_int Try.underlying3 t33
  obtain rfl : c33 = .int .i64 a33 := by simpa using e33
  clear hA0 hval0
  refine (diffTells_walk W a0 cap0 L0 i0 r0' c0 m0 a1 cap1 L1 i1 r1' c1 m1 a20 a21 a22 a23 a30 a31 a32 a33).mono fun e W' ⟨he, bel⟩ => ?_
  subst he
  exact ⟨_, rfl, _, _, _, [], _, [], hW', trodAll_mk1 (shut_bool Try.underlying4 _), (trodAll_cons_mk (Below.trod diffTells_laidOut (by kernel_rfl) (of_decide_eq_true (by kernel_rfl)) k0 bel lt0) (trodAll_cons_mk (Below.trod diffTells_laidOut (by kernel_rfl) (of_decide_eq_true (by kernel_rfl)) k1 bel lt1) (trodAll_cons_mk (Below.trod diffTells_laidOut (by kernel_rfl) (of_decide_eq_true (by kernel_rfl)) k2 bel lt2) (trodAll_cons_mk (Below.trod diffTells_laidOut (by kernel_rfl) (of_decide_eq_true (by kernel_rfl)) k3 bel lt3) trodAll_mk0)))), rfl, bel.frame _, fun h => by cases h⟩

theorem diffTells_over : Rows.diffTellsRow.holds Try.pinned (OpenSpec.ofChange Rows.diffTellsSpec) :=
  OpenClaim.holds_of_wide 3 Try.f3 rfl rfl rfl rfl rfl rfl rfl ⟨rfl, rfl, rfl, rfl, rfl⟩ rfl rfl rfl rfl rfl (by kernel_rfl) Try.func3 (by kernel_rfl)
    (of_decide_eq_true (by kernel_rfl)) (by unfold Func.isWrapper; first | (rw [if_pos (by decide +kernel)]; kernel_rfl) | (rw [if_neg (by decide +kernel)]; exact ⟨rfl, rfl⟩))
    (fun os started H enc _ => diffTells_lifted os started H enc)

theorem diffTells_holds : Rows.DiffTellsSaid := diffTells_over
#print axioms diffTells_holds
end Go.Proofs.Ytjdlcocncacmlaa
