/- What the laws on watches share: known; a step of Do with its error and its watches under names. -/
import Derived.Test.YthgnmpgdlemdlaaWaE
import Derived.Test.YthgnmpgdlemdlaaWaO
namespace Go.Proofs.Ythgnmpgdlemdlaa
open Go.RowKit
set_option linter.unusedVariables false
set_option linter.unusedSimpArgs false
/-- a Do by itself, its error and its watches under names -/
theorem do_at {w : World} {g : Nat} {t : TypeId} {L M : List Wt} {c : Cm} {b e : Int} (h : WB w g t L) (hs : sizedC c) (he : Hid (wdoE L c = e)) (hm : Hid (wdoL L c b = M)) :
    Calls Try.prog 10 #[.pointer (some ⟨g, 0, none⟩), c.v, .int .i64 b] w fun x w' => x = .returned (.int .i64 e) ∧ WB w' g t M ∧ But g w w' :=
  (watch_do h hs b).mono fun x w' ⟨h1, h2, h3⟩ => ⟨by rw [h1, he.out], by rw [← hm.out]; exact h2, h3⟩
theorem refdo_at {w : World} {g : Nat} {t : TypeId} {L M : List Wt} {c : Cm} {b e : Int} (h : WB w g t L) (hs : sizedC c) (he : Hid (wdoE L c = e)) (hm : Hid (wdoL L c b = M)) :
    Calls Try.prog 11 #[.pointer (some ⟨g, 0, none⟩), c.v, .int .i64 b] w fun x w' => x = .returned (.int .i64 e) ∧ WB w' g t M ∧ But g w w' :=
  (ref_do h hs b).mono fun x w' ⟨h1, h2, h3⟩ => ⟨by rw [h1, he.out], by rw [← hm.out]; exact h2, h3⟩
abbrev eF : Fl := ⟨0, ⟨#[]⟩⟩
theorem eF_in : inF eF := ⟨by decide, by decide, by decide⟩
/-- a command of the three -/
abbrev cmW (kd cl se r0 r1 r2 r3 : Int) : Cm := ⟨kd, 0, 0, 0, 0, 0, eF, eF, eF, eF, eF, cl, se, r0, r1, r2, r3⟩
theorem cmW_in (kd cl se r0 r1 r2 r3 : Int) : inC (cmW kd cl se r0 r1 r2 r3) := ⟨eF_in, eF_in, eF_in, eF_in, eF_in⟩
theorem cmW_sz (kd cl se r0 r1 r2 r3 : Int) : sizedC (cmW kd cl se r0 r1 r2 r3) := in_sized (cmW_in kd cl se r0 r1 r2 r3)
def kM : List Wt := [⟨true, 2, 7, ⟨0, 1, 5, 64⟩⟩, noW, noW, noW]
def kQ : List Wt := [⟨false, 2, 7, ⟨0, 0, 0, 0⟩⟩, noW, noW, noW]
theorem k_e : wdoE noL (cmW 7 0 1 0 0 0 0) = 20 ∧ wdoE noL (cmW 6 0 2 (-5) 1 5 100) = 0 ∧ wdoE kM (cmW 6 0 2 0 0 0 0) = 20 ∧ wdoE kM (cmW 1 0 0 0 0 0 0) = 11 ∧ wdoE kM (cmW 8 0 2 0 0 0 0) = 0 := by decide +kernel
theorem k_l : wdoL noL (cmW 6 0 2 (-5) 1 5 100) 7 = kM ∧ wdoL kM (cmW 8 0 2 0 0 0 0) 9 = kQ := by
  refine ⟨?_, ?_⟩ <;> kernel_rfl
theorem k_s : seesB kM 0 4 1 = true ∧ seesB kM 0 5 1 = false ∧ seesB kM 9 0 0 = false := by decide +kernel
theorem k_o : ofW kM 0 = ⟨true, 2, 7, ⟨0, 1, 5, 64⟩⟩ ∧ ofW kM (-1) = ⟨false, 0, 0, ⟨0, 0, 0, 0⟩⟩ ∧ ofW kQ 0 = ⟨false, 2, 7, ⟨0, 0, 0, 0⟩⟩ := ⟨rfl, rfl, rfl⟩
theorem k_c : meetR ⟨-5, 1, 5, 100⟩ ⟨0, 0, 64, 64⟩ = ⟨0, 1, 5, 64⟩ := by kernel_rfl
theorem k_ix (W : World) : (Instr.index 33 (.agg (bkC kM)) (.int .i64 0)).run Try.prog W = .ok (wt true 2 7 0 1 5 64) W := by kernel_rfl
theorem field_on (W : World) (o : Wt) : (Instr.field 32 o.v 0).run Try.prog W = .ok (.bool o.on) W := by kernel_rfl
/-- a book, its copy, a rectangle, a watch -/
structure KA (W : World) (g gc rb wb : Nat) (M : List Wt) : Prop where
  bk : WB W g 55 kM
  cp : WB W gc 55 M
  rc : W.heap[rb]? = some (ro (-5) 1 5 100)
  wt : W.heap[wb]? = some (wtO true 2 7 0 1 5 64)
theorem KA.later {W W' : World} {g gc rb wb : Nat} {M : List Wt} (h : KA W g gc rb wb M) (hb : Below W.heap.size W W') : KA W' g gc rb wb M :=
  ⟨h.bk.later hb, h.cp.later hb, var_on hb h.rc (at_lt h.rc), var_on hb h.wt (at_lt h.wt)⟩
theorem KA.put {W W' : World} {g gc rb wb : Nat} {M M' : List Wt} (h : KA W g gc rb wb M) (hb : But gc W W') (hm : WB W' gc 55 M') (h1 : g ≠ gc) (h2 : rb ≠ gc) (h3 : wb ≠ gc) : KA W' g gc rb wb M' :=
  ⟨h.bk.but hb h1, hm, hb.at h.rc h2, hb.at h.wt h3⟩
set_option maxRecDepth 100000 in
set_option maxHeartbeats 8000000 in
theorem known14 (w : World) : Calls Try.prog 6 #[] w fun e w' => e = .returned (.bool true) ∧ Below w.heap.size w w' := by
  obtain ⟨e1, e2, e3, e4, e5⟩ := k_e
  obtain ⟨l2, l5⟩ := k_l
  obtain ⟨s1, s2, s3⟩ := k_s
  obtain ⟨o1, o2, o3⟩ := k_o
  have E1 := hid e1
  have E2 := hid e2
  have E3 := hid e3
  have E4 := hid e4
  have E5 := hid e5
  have L1 := hid (wdoL_bad (b := 0) e1 (by decide))
  have L2 := hid l2
  have L3 := hid (wdoL_bad (b := 8) e3 (by decide))
  have L4 := hid (wdoL_bad (b := 8) e4 (by decide))
  have L5 := hid l5
  have S1 := hid s1
  have S2 := hid s2
  have S3 := hid s3
  have O1 := hid o1
  have O2 := hid o2
  have O3 := hid o3
  clear e1 e2 e3 e4 e5 l2 l5 s1 s2 s3 o1 o2 o3
  have C := watch_new w
  go_enter Try.func6, Try.ntmps6
  go_wp2_with fail
  refine C.mono ?_
  rintro x w1 ⟨rfl, hm1, hb1⟩
  obtain ⟨g, hg⟩ : ∃ g, w.heap.size = g := ⟨_, rfl⟩
  have hBg : w.heap.size ≤ g := by omega
  rw [hg] at hm1
  try rw [hg]
  have M1 := hid hm1
  clear C hm1
  go_upto_region 3 with fail
  obtain ⟨W2, hW2⟩ : ∃ W2, w1.alloc (ro (-5) 1 5 100) = W2 := ⟨_, rfl⟩
  have hb2 : Below w1.heap.size w1 W2 := by rw [← hW2]; exact below1 _ _
  have R2 := hid (show W2.heap[w1.heap.size]? = some (ro (-5) 1 5 100) by rw [← hW2]; exact new_at _ _ _ rfl)
  have M2 := hid (M1.out.later hb2)
  have B2 := below_on hb1 hb2
  obtain ⟨rb, hrb⟩ : ∃ rb, w1.heap.size = rb := ⟨_, rfl⟩
  have hlr : g < rb := by rw [← hrb]; exact M1.out.lt
  rw [hrb] at R2
  try rw [hW2]
  try rw [hrb]
  clear hW2 hb2 hb1 M1
  go_wp2_with fail
  with_reducible refine (do_at (c := cmW 7 0 1 0 0 0 0) M2.out (cmW_sz _ _ _ _ _ _ _) E1 L1).mono ?_
  rintro x w3 ⟨rfl, hm3, hb3⟩
  have M3 := hid hm3
  have R3 := hid (hb3.at R2.out (by omega))
  have B3 := But.below B2 hb3 hBg
  have c3 := (cells_at R3.out).1
  clear hm3 hb3 M2 R2 B2
  go_wp2_with fail
  with_reducible refine (do_at (c := cmW 6 0 2 (-5) 1 5 100) M3.out (cmW_sz _ _ _ _ _ _ _) E2 L2).mono ?_
  rintro x w4 ⟨rfl, hm4, hb4⟩
  have M4 := hid hm4
  have R4 := hid (hb4.at R3.out (by omega))
  have B4 := But.below B3 hb4 hBg
  clear hm4 hb4 M3 R3 B3 c3
  go_wp2_with fail
  with_reducible refine (do_at (c := cmW 6 0 2 0 0 0 0) M4.out (cmW_sz _ _ _ _ _ _ _) E3 L3).mono ?_
  rintro x w5 ⟨rfl, hm5, hb5⟩
  have M5 := hid hm5
  have R5 := hid (hb5.at R4.out (by omega))
  have B5 := But.below B4 hb5 hBg
  clear hm5 hb5 M4 R4 B4
  go_wp2_with fail
  with_reducible refine (do_at (c := cmW 1 0 0 0 0 0 0) M5.out (cmW_sz _ _ _ _ _ _ _) E4 L4).mono ?_
  rintro x w6 ⟨rfl, hm6, hb6⟩
  have M6 := hid hm6
  have R6 := hid (hb6.at R5.out (by omega))
  have B6 := But.below B5 hb6 hBg
  clear hm6 hb6 M5 R5 B5
  go_wp2_with fail
  refine (watch_of_at M6.out O1).mono ?_
  rintro x w7 ⟨rfl, hb7⟩
  have M7 := hid (M6.out.later hb7)
  have R7 := hid (var_on hb7 R6.out (at_lt R6.out))
  have B7 := below_on B6 hb7
  clear hb7 M6 R6 B6
  go_upto_region 6 with fail
  obtain ⟨W8, hW8⟩ : ∃ W8, w7.alloc (wtO true 2 7 0 1 5 64) = W8 := ⟨_, rfl⟩
  have hb8 : Below w7.heap.size w7 W8 := by rw [← hW8]; exact below1 _ _
  have X8 := hid (show W8.heap[w7.heap.size]? = some (wtO true 2 7 0 1 5 64) by rw [← hW8]; exact new_at _ _ _ rfl)
  have R8 := hid (var_on hb8 R7.out (at_lt R7.out))
  have M8 := hid (M7.out.later hb8)
  have B8 := below_on B7 hb8
  obtain ⟨wb, hwb⟩ : ∃ wb, w7.heap.size = wb := ⟨_, rfl⟩
  rw [hwb] at X8
  try rw [hW8]
  try rw [hwb]
  clear hW8 hb8 R7 M7 B7 hwb
  go_wp2_with fail
  refine (watch_copy M8.out).mono ?_
  rintro x w9 ⟨rfl, hc9, hb9⟩
  obtain ⟨gc, hgc⟩ : ∃ gc, W8.heap.size = gc := ⟨_, rfl⟩
  have l1 : g < gc := by rw [← hgc]; exact M8.out.lt
  have l2 : rb < gc := by rw [← hgc]; exact at_lt R8.out
  have l3 : wb < gc := by rw [← hgc]; exact at_lt X8.out
  have l4 : w.heap.size ≤ gc := by omega
  rw [hgc] at hc9
  have K9 := hid (show KA w9 g gc rb wb kM from ⟨M8.out.later hb9, hc9, var_on hb9 R8.out (at_lt R8.out), var_on hb9 X8.out (at_lt X8.out)⟩)
  have B9 := below_on B8 hb9
  try rw [hgc]
  clear hgc hc9 hb9 M8 R8 X8 B8
  have q1 := equal_wt_at (a := ⟨true, 2, 7, ⟨0, 1, 5, 64⟩⟩) (b := ⟨true, 2, 7, ⟨0, 1, 5, 64⟩⟩) (q := true) rfl
  have q2 := equal_wt_at (a := noW) (b := noW) (q := true) rfl
  have q3 := fun W => equal_rc W 0 1 5 64 0 1 5 64
  have q4 := k_ix
  have q5 := fun W => field_on W ⟨false, 2, 7, ⟨0, 0, 0, 0⟩⟩
  simp only [noW] at q2
  have q6 := fun W => field_on W ⟨true, 2, 7, ⟨0, 1, 5, 64⟩⟩
  simp only at q5 q6
  rw [show eqB ⟨0, 1, 5, 64⟩ ⟨0, 1, 5, 64⟩ = true from rfl] at q3
  go_wp2_with fail
  refine wp_region_held_drew (S := fun w' => (∀ i, w'.cell? ⟨rb, i, none⟩ = (#[.int .i64 (-5), .int .i64 1, .int .i64 5, .int .i64 100] : Array Value)[i]?) ∧ (∀ i, w'.cell? ⟨wb, i, none⟩ = (#[.bool true, .int .i64 2, .int .i64 7, .int .i64 0, .int .i64 1, .int .i64 5, .int .i64 64] : Array Value)[i]?)) (by kernel_rfl) ⟨(cells_at K9.out.rc).1, (cells_at K9.out.wt).1⟩ (fun hHeld => ?_)
  refine take_yes (i := 0) (v := ?v0k) rfl (by kernel_rfl) (by kernel_rfl) (by kernel_rfl) (fun _ _ _ h => h) (by rfl) ?hy0k hHeld ?rest0k
  case hy0k =>
    intro w' hSw
    obtain ⟨r0, r1⟩ := hSw
    go_simp <;> with_reducible rfl
  try simp only [Act.put, List.setIfInBounds_toArray, List.set_cons_zero, List.set_cons_succ]
  refine take_yes (i := 1) (v := ?v1k) rfl (by kernel_rfl) (by kernel_rfl) (by kernel_rfl) (fun _ _ _ h => h) (by rfl) ?hy1k hHeld ?rest1k
  case hy1k =>
    intro w' hSw
    obtain ⟨r0, r1⟩ := hSw
    go_simp <;> with_reducible rfl
  try simp only [Act.put, List.setIfInBounds_toArray, List.set_cons_zero, List.set_cons_succ]
  refine take_yes (i := 2) (v := ?v2k) rfl (by kernel_rfl) (by kernel_rfl) (by kernel_rfl) (fun _ _ _ h => h) (by rfl) ?hy2k hHeld ?rest2k
  case hy2k =>
    intro w' hSw
    obtain ⟨r0, r1⟩ := hSw
    go_simp <;> with_reducible rfl
  try simp only [Act.put, List.setIfInBounds_toArray, List.set_cons_zero, List.set_cons_succ]
  refine take_yes (i := 3) (v := ?v3k) rfl (by kernel_rfl) (by kernel_rfl) (by kernel_rfl) (fun _ _ _ h => h) (by rfl) ?hy3k hHeld ?rest3k
  case hy3k =>
    intro w' hSw
    obtain ⟨r0, r1⟩ := hSw
    go_simp <;> with_reducible rfl
  try simp only [Act.put, List.setIfInBounds_toArray, List.set_cons_zero, List.set_cons_succ]
  refine take_yes (i := 4) (v := ?v4k) rfl (by kernel_rfl) (by kernel_rfl) (by kernel_rfl) (fun _ _ _ h => h) (by rfl) ?hy4k hHeld ?rest4k
  case hy4k =>
    intro w' hSw
    obtain ⟨r0, r1⟩ := hSw
    go_simp <;> with_reducible rfl
  try simp only [Act.put, List.setIfInBounds_toArray, List.set_cons_zero, List.set_cons_succ]
  refine take_yes (i := 5) (v := ?v5k) rfl (by kernel_rfl) (by kernel_rfl) (by kernel_rfl) (fun _ _ _ h => h) (by rfl) ?hy5k hHeld ?rest5k
  case hy5k =>
    intro w' hSw
    obtain ⟨r0, r1⟩ := hSw
    go_simp <;> with_reducible rfl
  try simp only [Act.put, List.setIfInBounds_toArray, List.set_cons_zero, List.set_cons_succ]
  refine take_yes (i := 6) (v := ?v6k) rfl (by kernel_rfl) (by kernel_rfl) (by kernel_rfl) (fun _ _ _ h => h) (by rfl) ?hy6k hHeld ?rest6k
  case hy6k =>
    intro w' hSw
    obtain ⟨r0, r1⟩ := hSw
    go_simp <;> with_reducible rfl
  try simp only [Act.put, List.setIfInBounds_toArray, List.set_cons_zero, List.set_cons_succ]
  refine wpAnyH_ready (rs := [7]) (by kernel_rfl) (by simp) (cons_at (i := 7) rfl (fun K7k hK7k => ?_) AllReadyH.nil)
  go_simp
  go_at_call 13
  with_reducible refine (watch_sees_at (K9.out.later (by first | exact Below.refl _ _ | exact (Below.refl _ _).drew)).bk S1).mono ?_
  rintro x W10 ⟨rfl, hb10⟩
  have K10 := hid ((K9.out.later (by first | exact Below.refl _ _ | exact (Below.refl _ _).drew)).later hb10)
  have B10 := (show Below w.heap.size w W10 from below_on (by first | exact B9 | exact B9.drew) hb10)
  clear hb10 K9 B9
  go_wp2_with fail
  refine hK7k.out _ _ ⟨(cells_at K10.out.rc).1, (cells_at K10.out.wt).1⟩ (fun hHeld => ?_)
  clear hK7k K7k
  try simp only [Act.put, List.setIfInBounds_toArray, List.set_cons_zero, List.set_cons_succ]
  refine take_yes (i := 8) (v := ?v8k) rfl (by kernel_rfl) (by kernel_rfl) (by kernel_rfl) (fun _ _ _ h => h) (by rfl) ?hy8k hHeld ?rest8k
  case hy8k =>
    intro w' hSw
    obtain ⟨r0, r1⟩ := hSw
    go_simp <;> with_reducible rfl
  try simp only [Act.put, List.setIfInBounds_toArray, List.set_cons_zero, List.set_cons_succ]
  refine take_yes (i := 9) (v := ?v9k) rfl (by kernel_rfl) (by kernel_rfl) (by kernel_rfl) (fun _ _ _ h => h) (by rfl) ?hy9k hHeld ?rest9k
  case hy9k =>
    intro w' hSw
    obtain ⟨r0, r1⟩ := hSw
    go_simp <;> with_reducible rfl
  try simp only [Act.put, List.setIfInBounds_toArray, List.set_cons_zero, List.set_cons_succ]
  refine take_yes (i := 10) (v := ?v10k) rfl (by kernel_rfl) (by kernel_rfl) (by kernel_rfl) (fun _ _ _ h => h) (by rfl) ?hy10k hHeld ?rest10k
  case hy10k =>
    intro w' hSw
    obtain ⟨r0, r1⟩ := hSw
    go_simp <;> with_reducible rfl
  try simp only [Act.put, List.setIfInBounds_toArray, List.set_cons_zero, List.set_cons_succ]
  refine take_yes (i := 11) (v := ?v11k) rfl (by kernel_rfl) (by kernel_rfl) (by kernel_rfl) (fun _ _ _ h => h) (by rfl) ?hy11k hHeld ?rest11k
  case hy11k =>
    intro w' hSw
    obtain ⟨r0, r1⟩ := hSw
    go_simp <;> with_reducible rfl
  try simp only [Act.put, List.setIfInBounds_toArray, List.set_cons_zero, List.set_cons_succ]
  refine wpAnyH_ready (rs := [12]) (by kernel_rfl) (by simp) (cons_at (i := 12) rfl (fun K12k hK12k => ?_) AllReadyH.nil)
  go_simp
  go_at_call 13
  with_reducible refine (watch_sees_at K10.out.bk S2).mono ?_
  rintro x W11 ⟨rfl, hb11⟩
  have K11 := hid (K10.out.later hb11)
  have B11 := below_on B10 hb11
  clear hb11 K10 B10 hHeld
  go_wp2_with fail
  refine hK12k.out _ _ ⟨(cells_at K11.out.rc).1, (cells_at K11.out.wt).1⟩ (fun hHeld => ?_)
  clear hK12k K12k
  try simp only [Act.put, List.setIfInBounds_toArray, List.set_cons_zero, List.set_cons_succ]
  refine take_yes (i := 13) (v := ?v13k) rfl (by kernel_rfl) (by kernel_rfl) (by kernel_rfl) (fun _ _ _ h => h) (by rfl) ?hy13k hHeld ?rest13k
  case hy13k =>
    intro w' hSw
    obtain ⟨r0, r1⟩ := hSw
    go_simp <;> with_reducible rfl
  try simp only [Act.put, List.setIfInBounds_toArray, List.set_cons_zero, List.set_cons_succ]
  refine take_yes (i := 14) (v := ?v14k) rfl (by kernel_rfl) (by kernel_rfl) (by kernel_rfl) (fun _ _ _ h => h) (by rfl) ?hy14k hHeld ?rest14k
  case hy14k =>
    intro w' hSw
    obtain ⟨r0, r1⟩ := hSw
    go_simp <;> with_reducible rfl
  try simp only [Act.put, List.setIfInBounds_toArray, List.set_cons_zero, List.set_cons_succ]
  refine take_yes (i := 15) (v := ?v15k) rfl (by kernel_rfl) (by kernel_rfl) (by kernel_rfl) (fun _ _ _ h => h) (by rfl) ?hy15k hHeld ?rest15k
  case hy15k =>
    intro w' hSw
    obtain ⟨r0, r1⟩ := hSw
    go_simp <;> with_reducible rfl
  try simp only [Act.put, List.setIfInBounds_toArray, List.set_cons_zero, List.set_cons_succ]
  refine take_yes (i := 16) (v := ?v16k) rfl (by kernel_rfl) (by kernel_rfl) (by kernel_rfl) (fun _ _ _ h => h) (by rfl) ?hy16k hHeld ?rest16k
  case hy16k =>
    intro w' hSw
    obtain ⟨r0, r1⟩ := hSw
    go_simp <;> with_reducible rfl
  try simp only [Act.put, List.setIfInBounds_toArray, List.set_cons_zero, List.set_cons_succ]
  refine take_yes (i := 17) (v := ?v17k) rfl (by kernel_rfl) (by kernel_rfl) (by kernel_rfl) (fun _ _ _ h => h) (by rfl) ?hy17k hHeld ?rest17k
  case hy17k =>
    intro w' hSw
    obtain ⟨r0, r1⟩ := hSw
    go_simp <;> with_reducible rfl
  try simp only [Act.put, List.setIfInBounds_toArray, List.set_cons_zero, List.set_cons_succ]
  refine wpAnyH_ready (rs := [18]) (by kernel_rfl) (by simp) (cons_at (i := 18) rfl (fun K18k hK18k => ?_) AllReadyH.nil)
  go_simp
  go_at_call 13
  with_reducible refine (watch_sees_at K11.out.bk S3).mono ?_
  rintro x W12 ⟨rfl, hb12⟩
  have K12 := hid (K11.out.later hb12)
  have B12 := below_on B11 hb12
  clear hb12 K11 B11 hHeld
  go_wp2_with fail
  refine hK18k.out _ _ ⟨(cells_at K12.out.rc).1, (cells_at K12.out.wt).1⟩ (fun hHeld => ?_)
  clear hK18k K18k
  try simp only [Act.put, List.setIfInBounds_toArray, List.set_cons_zero, List.set_cons_succ]
  refine take_yes (i := 19) (v := ?v19k) rfl (by kernel_rfl) (by kernel_rfl) (by kernel_rfl) (fun _ _ _ h => h) (by rfl) ?hy19k hHeld ?rest19k
  case hy19k =>
    intro w' hSw
    obtain ⟨r0, r1⟩ := hSw
    go_simp <;> with_reducible rfl
  try simp only [Act.put, List.setIfInBounds_toArray, List.set_cons_zero, List.set_cons_succ]
  refine take_yes (i := 20) (v := ?v20k) rfl (by kernel_rfl) (by kernel_rfl) (by kernel_rfl) (fun _ _ _ h => h) (by rfl) ?hy20k hHeld ?rest20k
  case hy20k =>
    intro w' hSw
    obtain ⟨r0, r1⟩ := hSw
    go_simp <;> with_reducible rfl
  try simp only [Act.put, List.setIfInBounds_toArray, List.set_cons_zero, List.set_cons_succ]
  refine take_yes (i := 21) (v := ?v21k) rfl (by kernel_rfl) (by kernel_rfl) (by kernel_rfl) (fun _ _ _ h => h) (by rfl) ?hy21k hHeld ?rest21k
  case hy21k =>
    intro w' hSw
    obtain ⟨r0, r1⟩ := hSw
    go_simp <;> with_reducible rfl
  try simp only [Act.put, List.setIfInBounds_toArray, List.set_cons_zero, List.set_cons_succ]
  refine take_yes (i := 22) (v := ?v22k) rfl (by kernel_rfl) (by kernel_rfl) (by kernel_rfl) (fun _ _ _ h => h) (by rfl) ?hy22k hHeld ?rest22k
  case hy22k =>
    intro w' hSw
    obtain ⟨r0, r1⟩ := hSw
    go_simp <;> with_reducible rfl
  try simp only [Act.put, List.setIfInBounds_toArray, List.set_cons_zero, List.set_cons_succ]
  refine take_yes (i := 24) (v := ?v24k) rfl (by kernel_rfl) (by kernel_rfl) (by kernel_rfl) (fun _ _ _ h => h) (by rfl) ?hy24k hHeld ?rest24k
  case hy24k =>
    intro w' hSw
    obtain ⟨r0, r1⟩ := hSw
    go_simp <;> with_reducible rfl
  try simp only [Act.put, List.setIfInBounds_toArray, List.set_cons_zero, List.set_cons_succ]
  refine wpAnyH_ready (rs := [23]) (by kernel_rfl) (by simp) (cons_at (i := 23) rfl (fun K23k hK23k => ?_) AllReadyH.nil)
  go_simp
  go_at_call 15
  with_reducible refine (watch_of_at K12.out.bk O2).mono ?_
  rintro x W13 ⟨rfl, hb13⟩
  have K13 := hid (K12.out.later hb13)
  have B13 := below_on B12 hb13
  clear hb13 K12 B12 hHeld
  go_wp2_with fail
  refine hK23k.out _ _ ⟨(cells_at K13.out.rc).1, (cells_at K13.out.wt).1⟩ (fun hHeld => ?_)
  clear hK23k K23k
  try simp only [Act.put, List.setIfInBounds_toArray, List.set_cons_zero, List.set_cons_succ]
  refine take_yes (i := 25) (v := ?v25k) rfl (by kernel_rfl) (by kernel_rfl) (by kernel_rfl) (fun _ _ _ h => h) (by rfl) ?hy25k hHeld ?rest25k
  case hy25k =>
    intro w' hSw
    obtain ⟨r0, r1⟩ := hSw
    go_simp <;> with_reducible rfl
  try simp only [Act.put, List.setIfInBounds_toArray, List.set_cons_zero, List.set_cons_succ]
  refine take_yes (i := 26) (v := ?v26k) rfl (by kernel_rfl) (by kernel_rfl) (by kernel_rfl) (fun _ _ _ h => h) (by rfl) ?hy26k hHeld ?rest26k
  case hy26k =>
    intro w' hSw
    obtain ⟨r0, r1⟩ := hSw
    go_simp <;> with_reducible rfl
  try simp only [Act.put, List.setIfInBounds_toArray, List.set_cons_zero, List.set_cons_succ]
  refine take_yes (i := 27) (v := ?v27k) rfl (by kernel_rfl) (by kernel_rfl) (by kernel_rfl) (fun _ _ _ h => h) (by rfl) ?hy27k hHeld ?rest27k
  case hy27k =>
    intro w' hSw
    obtain ⟨r0, r1⟩ := hSw
    go_simp <;> with_reducible rfl
  try simp only [Act.put, List.setIfInBounds_toArray, List.set_cons_zero, List.set_cons_succ]
  refine take_yes (i := 28) (v := ?v28k) rfl (by kernel_rfl) (by kernel_rfl) (by kernel_rfl) (fun _ _ _ h => h) (by rfl) ?hy28k hHeld ?rest28k
  case hy28k =>
    intro w' hSw
    obtain ⟨r0, r1⟩ := hSw
    go_simp <;> with_reducible rfl
  try simp only [Act.put, List.setIfInBounds_toArray, List.set_cons_zero, List.set_cons_succ]
  refine take_yes (i := 29) (v := ?v29k) rfl (by kernel_rfl) (by kernel_rfl) (by kernel_rfl) (fun _ _ _ h => h) (by rfl) ?hy29k hHeld ?rest29k
  case hy29k =>
    intro w' hSw
    obtain ⟨r0, r1⟩ := hSw
    go_simp <;> with_reducible rfl
  try simp only [Act.put, List.setIfInBounds_toArray, List.set_cons_zero, List.set_cons_succ]
  refine wpAnyH_ready (rs := [30]) (by kernel_rfl) (by simp) (cons_at (i := 30) rfl (fun K30k hK30k => ?_) AllReadyH.nil)
  go_simp
  go_at_call 10
  with_reducible refine (do_at (c := cmW 8 0 2 0 0 0 0) K13.out.cp (cmW_sz _ _ _ _ _ _ _) E5 L5).mono ?_
  rintro x W14 ⟨rfl, hm14, hb14⟩
  have K14 := hid (K13.out.put hb14 hm14 (by omega) (by omega) (by omega))
  have B14 := But.below B13 hb14 l4
  clear hb14 hm14 K13 B13 hHeld
  go_wp2_with fail
  refine hK30k.out _ _ ⟨(cells_at K14.out.rc).1, (cells_at K14.out.wt).1⟩ (fun hHeld => ?_)
  clear hK30k K30k
  try simp only [Act.put, List.setIfInBounds_toArray, List.set_cons_zero, List.set_cons_succ]
  refine take_yes (i := 31) (v := ?v31k) rfl (by kernel_rfl) (by kernel_rfl) (by kernel_rfl) (fun _ _ _ h => h) (by rfl) ?hy31k hHeld ?rest31k
  case hy31k =>
    intro w' hSw
    obtain ⟨r0, r1⟩ := hSw
    go_simp <;> with_reducible rfl
  try simp only [Act.put, List.setIfInBounds_toArray, List.set_cons_zero, List.set_cons_succ]
  refine take_yes (i := 32) (v := ?v32k) rfl (by kernel_rfl) (by kernel_rfl) (by kernel_rfl) (fun _ _ _ h => h) (by rfl) ?hy32k hHeld ?rest32k
  case hy32k =>
    intro w' hSw
    obtain ⟨r0, r1⟩ := hSw
    go_simp <;> with_reducible rfl
  try simp only [Act.put, List.setIfInBounds_toArray, List.set_cons_zero, List.set_cons_succ]
  refine take_yes (i := 33) (v := ?v33k) rfl (by kernel_rfl) (by kernel_rfl) (by kernel_rfl) (fun _ _ _ h => h) (by rfl) ?hy33k hHeld ?rest33k
  case hy33k =>
    intro w' hSw
    obtain ⟨r0, r1⟩ := hSw
    go_simp <;> with_reducible rfl
  try simp only [Act.put, List.setIfInBounds_toArray, List.set_cons_zero, List.set_cons_succ]
  refine take_yes (i := 34) (v := ?v34k) rfl (by kernel_rfl) (by kernel_rfl) (by kernel_rfl) (fun _ _ _ h => h) (by rfl) ?hy34k hHeld ?rest34k
  case hy34k =>
    intro w' hSw
    obtain ⟨r0, r1⟩ := hSw
    go_simp <;> with_reducible rfl
  try simp only [Act.put, List.setIfInBounds_toArray, List.set_cons_zero, List.set_cons_succ]
  refine wpAnyH_ready (rs := [35]) (by kernel_rfl) (by simp) (cons_at (i := 35) rfl (fun K35k hK35k => ?_) AllReadyH.nil)
  go_simp
  go_at_call 15
  with_reducible refine (watch_of_at K14.out.cp O3).mono ?_
  rintro x W15 ⟨rfl, hb15⟩
  have K15 := hid (K14.out.later hb15)
  have B15 := below_on B14 hb15
  clear hb15 K14 B14 hHeld
  go_wp2_with fail
  refine hK35k.out _ _ ⟨(cells_at K15.out.rc).1, (cells_at K15.out.wt).1⟩ (fun hHeld => ?_)
  clear hK35k K35k
  try simp only [Act.put, List.setIfInBounds_toArray, List.set_cons_zero, List.set_cons_succ]
  refine take_yes (i := 36) (v := ?v36k) rfl (by kernel_rfl) (by kernel_rfl) (by kernel_rfl) (fun _ _ _ h => h) (by rfl) ?hy36k hHeld ?rest36k
  case hy36k =>
    intro w' hSw
    obtain ⟨r0, r1⟩ := hSw
    go_simp <;> with_reducible rfl
  try simp only [Act.put, List.setIfInBounds_toArray, List.set_cons_zero, List.set_cons_succ]
  refine take_yes (i := 37) (v := ?v37k) rfl (by kernel_rfl) (by kernel_rfl) (by kernel_rfl) (fun _ _ _ h => h) (by rfl) ?hy37k hHeld ?rest37k
  case hy37k =>
    intro w' hSw
    obtain ⟨r0, r1⟩ := hSw
    go_simp <;> with_reducible rfl
  try simp only [Act.put, List.setIfInBounds_toArray, List.set_cons_zero, List.set_cons_succ]
  refine take_yes (i := 38) (v := ?v38k) rfl (by kernel_rfl) (by kernel_rfl) (by kernel_rfl) (fun _ _ _ h => h) (by rfl) ?hy38k hHeld ?rest38k
  case hy38k =>
    intro w' hSw
    obtain ⟨r0, r1⟩ := hSw
    go_simp <;> with_reducible rfl
  try simp only [Act.put, List.setIfInBounds_toArray, List.set_cons_zero, List.set_cons_succ]
  refine take_yes (i := 39) (v := ?v39k) rfl (by kernel_rfl) (by kernel_rfl) (by kernel_rfl) (fun _ _ _ h => h) (by rfl) ?hy39k hHeld ?rest39k
  case hy39k =>
    intro w' hSw
    obtain ⟨r0, r1⟩ := hSw
    go_simp <;> with_reducible rfl
  try simp only [Act.put, List.setIfInBounds_toArray, List.set_cons_zero, List.set_cons_succ]
  refine take_yes (i := 40) (v := ?v40k) rfl (by kernel_rfl) (by kernel_rfl) (by kernel_rfl) (fun _ _ _ h => h) (by rfl) ?hy40k hHeld ?rest40k
  case hy40k =>
    intro w' hSw
    obtain ⟨r0, r1⟩ := hSw
    go_simp <;> with_reducible rfl
  try simp only [Act.put, List.setIfInBounds_toArray, List.set_cons_zero, List.set_cons_succ]
  refine wpAnyH_ready (rs := [41]) (by kernel_rfl) (by simp) (cons_at (i := 41) rfl (fun K41k hK41k => ?_) AllReadyH.nil)
  go_simp
  go_at_call 12
  with_reducible refine (watch_all K15.out.bk).mono ?_
  rintro x W16 ⟨rfl, hb16⟩
  have K16 := hid (K15.out.later hb16)
  have B16 := below_on B15 hb16
  clear hb16 K15 B15 hHeld
  go_wp2_with fail
  refine hK41k.out _ _ ⟨(cells_at K16.out.rc).1, (cells_at K16.out.wt).1⟩ (fun hHeld => ?_)
  clear hK41k K41k
  try simp only [Act.put, List.setIfInBounds_toArray, List.set_cons_zero, List.set_cons_succ]
  refine take_yes (i := 42) (v := ?v42k) rfl (by kernel_rfl) (by kernel_rfl) (by kernel_rfl) (fun _ _ _ h => h) (by rfl) ?hy42k hHeld ?rest42k
  case hy42k =>
    intro w' hSw
    obtain ⟨r0, r1⟩ := hSw
    go_simp <;> with_reducible rfl
  try simp only [Act.put, List.setIfInBounds_toArray, List.set_cons_zero, List.set_cons_succ]
  refine take_yes (i := 43) (v := ?v43k) rfl (by kernel_rfl) (by kernel_rfl) (by kernel_rfl) (fun _ _ _ h => h) (by rfl) ?hy43k hHeld ?rest43k
  case hy43k =>
    intro w' hSw
    obtain ⟨r0, r1⟩ := hSw
    go_simp <;> with_reducible rfl
  try simp only [Act.put, List.setIfInBounds_toArray, List.set_cons_zero, List.set_cons_succ]
  refine take_yes (i := 44) (v := ?v44k) rfl (by kernel_rfl) (by kernel_rfl) (by kernel_rfl) (fun _ _ _ h => h) (by rfl) ?hy44k hHeld ?rest44k
  case hy44k =>
    intro w' hSw
    obtain ⟨r0, r1⟩ := hSw
    go_simp <;> with_reducible rfl
  try simp only [Act.put, List.setIfInBounds_toArray, List.set_cons_zero, List.set_cons_succ]
  refine take_yes (i := 45) (v := ?v45k) rfl (by kernel_rfl) (by kernel_rfl) (by kernel_rfl) (fun _ _ _ h => h) (by rfl) ?hy45k hHeld ?rest45k
  case hy45k =>
    intro w' hSw
    obtain ⟨r0, r1⟩ := hSw
    go_simp <;> with_reducible rfl
  try simp only [Act.put, List.setIfInBounds_toArray, List.set_cons_zero, List.set_cons_succ]
  refine take_yes (i := 46) (v := ?v46k) rfl (by kernel_rfl) (by kernel_rfl) (by kernel_rfl) (fun _ _ _ h => h) (by rfl) ?hy46k hHeld ?rest46k
  case hy46k =>
    intro w' hSw
    obtain ⟨r0, r1⟩ := hSw
    go_simp <;> with_reducible rfl
  try simp only [Act.put, List.setIfInBounds_toArray, List.set_cons_zero, List.set_cons_succ]
  refine take_yes (i := 48) (v := ?v48k) rfl (by kernel_rfl) (by kernel_rfl) (by kernel_rfl) (fun _ _ _ h => h) (by rfl) ?hy48k hHeld ?rest48k
  case hy48k =>
    intro w' hSw
    obtain ⟨r0, r1⟩ := hSw
    go_simp <;> with_reducible rfl
  try simp only [Act.put, List.setIfInBounds_toArray, List.set_cons_zero, List.set_cons_succ]
  refine take_yes (i := 49) (v := ?v49k) rfl (by kernel_rfl) (by kernel_rfl) (by kernel_rfl) (fun _ _ _ h => h) (by rfl) ?hy49k hHeld ?rest49k
  case hy49k =>
    intro w' hSw
    obtain ⟨r0, r1⟩ := hSw
    go_simp <;> with_reducible rfl
  try simp only [Act.put, List.setIfInBounds_toArray, List.set_cons_zero, List.set_cons_succ]
  refine wpAnyH_ready (rs := [47]) (by kernel_rfl) (by simp) (cons_at (i := 47) rfl (fun K47k hK47k => ?_) AllReadyH.nil)
  go_simp
  go_at_call 16
  with_reducible refine (watch_clip_at (hid k_c) _).mono ?_
  rintro x W17 ⟨rfl, hb17⟩
  have K17 := hid (K16.out.later hb17)
  have B17 := below_on B16 hb17
  clear hb17 K16 B16 hHeld
  go_wp2_with fail
  refine hK47k.out _ _ ⟨(cells_at K17.out.rc).1, (cells_at K17.out.wt).1⟩ (fun hHeld => ?_)
  clear hK47k K47k
  try simp only [Act.put, List.setIfInBounds_toArray, List.set_cons_zero, List.set_cons_succ]
  refine take_yes (i := 50) (v := ?v50k) rfl (by kernel_rfl) (by kernel_rfl) (by kernel_rfl) (fun _ _ _ h => h) (by rfl) ?hy50k hHeld ?rest50k
  case hy50k =>
    intro w' hSw
    obtain ⟨r0, r1⟩ := hSw
    go_simp <;> with_reducible rfl
  try simp only [Act.put, List.setIfInBounds_toArray, List.set_cons_zero, List.set_cons_succ]
  refine take_yes (i := 51) (v := ?v51k) rfl (by kernel_rfl) (by kernel_rfl) (by kernel_rfl) (fun _ _ _ h => h) (by rfl) ?hy51k hHeld ?rest51k
  case hy51k =>
    intro w' hSw
    obtain ⟨r0, r1⟩ := hSw
    go_simp <;> with_reducible rfl
  try simp only [Act.put, List.setIfInBounds_toArray, List.set_cons_zero, List.set_cons_succ]
  refine take_yes (i := 52) (v := ?v52k) rfl (by kernel_rfl) (by kernel_rfl) (by kernel_rfl) (fun _ _ _ h => h) (by rfl) ?hy52k hHeld ?rest52k
  case hy52k =>
    intro w' hSw
    obtain ⟨r0, r1⟩ := hSw
    go_simp <;> with_reducible rfl
  try simp only [Act.put, List.setIfInBounds_toArray, List.set_cons_zero, List.set_cons_succ]
  refine wpAnyH_done (by kernel_rfl) ?_ _
  go_wp2_with fail
  go_ret
  exact ⟨rfl, B17⟩
end Go.Proofs.Ythgnmpgdlemdlaa
