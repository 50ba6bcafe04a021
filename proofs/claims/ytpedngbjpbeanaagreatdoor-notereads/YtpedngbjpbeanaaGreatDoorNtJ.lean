/- Contract of readHand of the package note. -/
import Derived.Test.YtpedngbjpbeanaaGreatDoorNtK
namespace Go.Proofs.YtpedngbjpbeanaaGreatDoor
open Go.RowKit
set_option linter.unusedVariables false
set_option maxRecDepth 100000
theorem results_rh {tmps : Array Value} {W : World} {g : Nat} {c : Hd} {z e : Int} (h2 : tmps.getD 2 undef = .pointer (some ⟨g, 0, none⟩)) (h3 : tmps.getD 3 undef = .int .i64 z) (h4 : tmps.getD 4 undef = .int .i64 e) (h : W.heap[g]? = some c.o) :
    (results Tryz.f45 tmps).run Tryz.prog W = .ok (.tuple #[c.v, .int .i64 z, .int .i64 e]) W := by
  have hl : (loadVar 43 ⟨g, 0, none⟩).run Tryz.prog W = .ok c.v W := run_loadVar_row W g _ _ _ _ _ h Tryz.underlying43 rfl Tryz.sizeHd
  have h2' : tmps[2]?.getD undef = .pointer (some ⟨g, 0, none⟩) := by simpa using h2
  have h3' : tmps[3]?.getD undef = .int .i64 z := by simpa using h3
  have h4' : tmps[4]?.getD undef = .int .i64 e := by simpa using h4
  simp [results, Tryz.results45, h2', h3', h4', asAddr, hl]
theorem stepH_le (i : Nat) (m : Hd) (l : List UInt8) : (stepH i m l).2.1 ≤ l.length := by
  unfold stepH
  split <;> exact (rdI_le l).1
theorem hd_takes {s : ByteArray} (hs : s.size ≤ 1000000) (g i : Nat) (p : Pt) (hp : hdPs[i]? = some p) : TakesP stepH (fun _ m W => W.heap[g]? = some m.o) s g i p := by
  have hsz : ∀ z, (s.extract z s.size).size ≤ 1000000 := fun z => by rw [ByteArray.size_extract]; omega
  match i, hp with
  | 0, hp =>
    cases hp
    intro n m z k e W hI hz h
    have h1 := h.out
    have h2 : (⟨(rdI (s.data.toList.drop z)).1, n.u⟩, (rdI (s.data.toList.drop z)).2) = (m, k, e) := h1
    simp only [Prod.mk.injEq] at h2
    obtain ⟨rfl, h3⟩ := h2
    have h4 : rdI ((s.extract z s.size).data.toList) = ((rdI (s.data.toList.drop z)).1, k, e) := by rw [cut_data, ← h3]
    refine (nm_take (k := 0) hI rfl (hid h4) (hsz z)).mono ?_
    rintro r W' ⟨rfl, h5, h6⟩
    exact ⟨rfl, h5, h6⟩
  | 1, hp =>
    cases hp
    intro n m z k e W hI hz h
    have h1 := h.out
    have h2 : (⟨n.c, (rdI (s.data.toList.drop z)).1⟩, (rdI (s.data.toList.drop z)).2) = (m, k, e) := h1
    simp only [Prod.mk.injEq] at h2
    obtain ⟨rfl, h3⟩ := h2
    have h4 : rdI ((s.extract z s.size).data.toList) = ((rdI (s.data.toList.drop z)).1, k, e) := by rw [cut_data, ← h3]
    refine (nm_take (k := 1) hI rfl (hid h4) (hsz z)).mono ?_
    rintro r W' ⟨rfl, h5, h6⟩
    exact ⟨rfl, h5, h6⟩
  | i + 2, hp => simp [hdPs] at hp
theorem read_hand {s : ByteArray} {x : Hd} {z e : Nat} (h : Hid (readH s.data.toList = (x, z, e))) (hs : s.size ≤ 1000000) (w : World) :
    Calls Tryz.prog 45 #[.string s] w fun r w' => r = .returned (.tuple #[x.v, .int .i64 z, .int .i64 e]) ∧ Below w.heap.size w w' := by
  obtain ⟨W, hW⟩ : ∃ W, W = (w.alloc zH.o).alloc zH.o := ⟨_, rfl⟩
  have hB : Below w.heap.size w W := by rw [hW]; exact Go.Joins.below_alloc2 _ _ _
  have hA := hid (show W.heap[w.heap.size]? = some zH.o by rw [hW]; exact old_at (new_at _ _ _ rfl) _)
  have hC := hid (show W.heap[w.heap.size + 1]? = some zH.o by rw [hW]; exact new_at _ _ _ (by simp))
  have lC := at_lt hC.out
  go_enter Tryz.func45, Tryz.ntmps45
  go_upto_region 2 with fail
  rw [show (Obj.cells #[.int .i64 0, .int .i64 0] 43 (0, 0)) = zH.o from rfl, ← hW]
  clear hW
  go_wp2_with fail
  refine (note_members lC).mono ?_
  rintro y W1 ⟨b, cap, rfl, hr, hb1⟩
  have hA1 := hid (var_on hb1 hA.out (at_lt hA.out))
  have hC1 := hid (var_on hb1 hC.out lC)
  have hB1 := below_on hB hb1
  have C := note_taken (step := stepH) (Inv := fun _ m W => W.heap[w.heap.size + 1]? = some m.o) hr lC (hid rfl) (by omega) hC1.out (fun _ m W h => h) stepH_le (fun i p hp => hd_takes hs _ i p hp) h hs
  clear hb1 hA hC hB lC hr hC1
  go_wp2_with fail
  refine C.mono ?_
  rintro y W2 ⟨rfl, ⟨_, hi⟩, hbut⟩
  have hA2 := hid (hbut.at hA1.out (by omega))
  have hB2 := hbut.below hB1 (by omega)
  have HI := hid hi
  have c0 := cells_at hi
  have cA := cells_at hA2.out
  have lA := at_lt hA2.out
  have lI := at_lt hi
  clear C hbut hA1 hB1 hi
  obtain ⟨xc, xu⟩ := x
  have S2 : ((W2.setCell ⟨w.heap.size, 0, none⟩ (.int .i64 xc)).setCell ⟨w.heap.size, 1, none⟩ (.int .i64 xu)).heap[w.heap.size]? = some (Hd.o ⟨xc, xu⟩) := set_at (set_at hA2.out _ rfl) _ rfl
  have B2 : Below w.heap.size w ((W2.setCell ⟨w.heap.size, 0, none⟩ (.int .i64 xc)).setCell ⟨w.heap.size, 1, none⟩ (.int .i64 xu)) := (hB2.setCell (Nat.le_refl _) _).setCell (Nat.le_refl _) _
  have HS2 := hid S2
  have HB2 := hid B2
  clear S2 B2 hB2
  go_wp2_with fail
  exact bodyPost_ret (v := .tuple #[(Hd.v ⟨xc, xu⟩), .int .i64 z, .int .i64 e]) (results_rh rfl rfl rfl HS2.out) rfl ⟨rfl, HB2.out⟩
end Go.Proofs.YtpedngbjpbeanaaGreatDoor
