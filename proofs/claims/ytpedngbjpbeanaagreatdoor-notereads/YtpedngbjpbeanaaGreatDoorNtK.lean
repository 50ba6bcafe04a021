/- Contract of taken of the package note: a row of parts, read one behind the other. -/
import Derived.Test.YtpedngbjpbeanaaGreatDoorNtQ
namespace Go.Proofs.YtpedngbjpbeanaaGreatDoor
open Go.RowKit
set_option linter.unusedVariables false
set_option maxRecDepth 100000
/-- which function reads a part -/
def takeF (q : Nat) : Nat :=
  match q with
  | 0 => 115
  | 1 => 117
  | 2 => 119
  | _ => 121
def ptB (g : Nat) (p : Pt) : Value :=
  match p.1 with
  | 0 => nmV g p.2
  | 1 => thV g p.2
  | 2 => hdV g p.2
  | _ => cmV g p.2
theorem nil_nm (g k : Nat) : ∀ W : World, (nilAhead 282 90 (nmV g k) "vedette/note.take").run Tryz.prog W = .ok (some false) W := fun W => by kernel_rfl
theorem nil_th (g k : Nat) : ∀ W : World, (nilAhead 282 95 (thV g k) "vedette/note.take").run Tryz.prog W = .ok (some false) W := fun W => by kernel_rfl
theorem nil_hd (g k : Nat) : ∀ W : World, (nilAhead 282 100 (hdV g k) "vedette/note.take").run Tryz.prog W = .ok (some false) W := fun W => by kernel_rfl
theorem nil_cm (g k : Nat) : ∀ W : World, (nilAhead 282 105 (cmV g k) "vedette/note.take").run Tryz.prog W = .ok (some false) W := fun W => by kernel_rfl
theorem RowQ.but {W W' : World} {base g : Nat} {v : Value} {L : List Pt} (h : RowQ W base g v L) (hb : But g W W') (hlt : g < base) : RowQ W' base g v L := owns_but h hb hlt
theorem range_drop {n j : Nat} (h : j < n) : (List.range n).drop j = j :: (List.range n).drop (j + 1) := by
  rw [List.drop_eq_getElem_cons (by simpa using h)]
  simp
/-- a part takes what the step says -/
def TakesP {σ : Type} (step : Nat → σ → List UInt8 → σ × Nat × Nat) (Inv : Nat → σ → World → Prop) (s : ByteArray) (g i : Nat) (p : Pt) : Prop :=
  ∀ (n m : σ) (z k e : Nat) (W : World), Inv i n W → z ≤ s.size → Hid (step i n (s.data.toList.drop z) = (m, k, e)) → Calls Tryz.prog (takeF p.1) #[ptB g p, .string (s.extract z s.size)] W fun r W' => r = .returned (.tuple #[.int .i64 k, .int .i64 e]) ∧ Inv (i + 1) m W' ∧ But g W W'
set_option maxHeartbeats 8000000 in
theorem note_taken {σ : Type} {step : Nat → σ → List UInt8 → σ × Nat × Nat} {Inv : Nat → σ → World → Prop} {s : ByteArray} {w : World} {g b n cap base : Nat} {L : List Pt} {N M : σ} {Z E : Nat} (hr : RowQ w base g (.slice (some ⟨b, 0, none⟩) n cap) L) (hg : g < base) (hn : Hid (L.length = n)) (hm : n ≤ 10) (h0 : Inv 0 N w) (hd : ∀ j m W, Inv j m W → Inv j m W.drew) (hle : ∀ i m l, (step i m l).2.1 ≤ l.length)
    (ht : ∀ i p, L[i]? = some p → TakesP step Inv s g i p) (hR : Hid (runP step s.data.toList (List.range n) N 0 = (M, Z, E))) (hs : s.size ≤ 1000000) :
    Calls Tryz.prog 40 #[.slice (some ⟨b, 0, none⟩) n cap, .string s] w fun r w' => r = .returned (.tuple #[.int .i64 Z, .int .i64 E]) ∧ (∃ j, Inv j M w') ∧ But g w w' := by
  have HR := hid hr
  have HI := hid ht
  have HD := hid hd
  have HL := hid hle
  have H0 := hid h0
  obtain ⟨S, hS⟩ : ∃ S, Hid (s.data.toList = S) := ⟨_, rfl⟩
  have eS : S.length = s.size := by rw [← hS.out]; rfl
  rw [hS.out] at hR
  clear hr ht hd hle h0
  go_enter Tryz.func40, Tryz.ntmps40
  go_wp2_with fail
  go_step3
  go_wp2_with fail
  go_step3
  go_wp2_with fail
  go_loopw [6, 7, 13] (fun sz er i wr => ∃ (j z : Nat) (m : σ), j ≤ n ∧ i = .int .i64 j ∧ er = .int .i64 0 ∧ sz = .int .i64 z ∧ z ≤ s.size ∧ Hid (runP step S ((List.range n).drop j) m z = (M, Z, E)) ∧ Hid (Inv j m wr) ∧ RowQ wr base g (.slice (some ⟨b, 0, none⟩) n cap) L ∧ But g w wr) (fun _ _ i _ => n - (intOf i).toNat)
  case atStart => exact ⟨0, 0, N, by omega, rfl, rfl, rfl, by omega, by rw [List.drop_zero]; exact hR, H0, HR.out, But.refl _ _⟩
  case round =>
    obtain ⟨j, z, m, hj, rfl, rfl, rfl, hz, hrun, hinv, hrow, hbut⟩ := hrel
    clear HR H0
    by_cases hlt : j < n
    · have hlt' : (j : Int) < (n : Int) := by omega
      obtain ⟨p, hp⟩ := get_some L j (by rw [hn.out]; exact hlt)
      have hc0 := partQ_at hrow hp
      have hC := HI.out j p hp
      rcases hx : step j m (S.drop z) with ⟨m', k, e⟩
      have hx' : Hid (step j m (s.data.toList.drop z) = (m', k, e)) := by show _ = _; rw [hS.out]; exact hx
      have hk := HL.out j m (S.drop z)
      rw [hx, List.length_drop] at hk
      have hk : z + k ≤ s.size := by have hk : k ≤ S.length - z := hk; omega
      have hC' := hC m m' z k e wr.drew (HD.out j m wr hinv.out) hz hx'
      have HX := hid hx
      have HB := hid hbut
      have HW := hid hrow
      have jz1 : (0 : Int) ≤ (z : Int) := by omega
      have jz2 : (z : Int) ≤ (s.size : Int) := by omega
      clear hp hC hx hrow hbut hinv hx'
      obtain ⟨q, pk⟩ := p
      rcases q with _ | _ | _ | q
      · have hc : wr.cell? ⟨b, j, none⟩ = some (.iface 90 (nmV g pk)) := hc0
        have jN := nil_nm g pk
        have hC2 : Calls Tryz.prog 115 #[nmV g pk, .string (s.extract z s.size)] wr.drew fun r W' => r = .returned (.tuple #[.int .i64 k, .int .i64 e]) ∧ Inv (j + 1) m' W' ∧ But g wr.drew W' := hC'
        clear hc0 hC'
        go_wp2_with fail
        go_region_held3 (fun _ => True) (trivial)
          (first
            | (go_at_call 115
               refine hC2.mono ?_
               rintro x w2 ⟨rfl, hi2, hb2⟩))
        have HI2 := hid hi2
        have hB2 : But g w w2 := HB.out.trans (But.trans (b := wr.drew) (show But g wr wr.drew from ⟨rfl, rfl, rfl, Nat.le_refl _, fun _ _ _ => rfl⟩) hb2)
        have hR2 := RowQ.but (W := wr.drew) HW.out hb2 hg
        clear hc jN hC2 hi2 hb2 HB HW jz1 jz2
        by_cases he : e = 0
        · subst he
          have hn2 := hid (show runP step S ((List.range n).drop (j + 1)) m' (z + k) = (M, Z, E) by have := hrun.out; rw [range_drop hlt, runP_cons HX.out] at this; exact this)
          go_wp2_with fail
          go_roundw
          case rel => exact ⟨j + 1, z + k, m', by omega, by go_num, rfl, by go_num, hk, hn2, HI2, hR2, hB2⟩
          case measure => simp [intOf]; omega
        · have e0 : ((e : Int) == 0) = false := by simpa using he
          have hn2 := hrun.out
          rw [range_drop hlt, runP_bad HX.out he] at hn2
          simp only [Prod.mk.injEq] at hn2
          obtain ⟨rfl, rfl, rfl⟩ := hn2
          go_wp2_with fail
          rw [Exit.noGoto_ret]
          exact bodyPost_ret (v := .tuple #[.int .i64 0, .int .i64 e]) (by simp [results, Tryz.results40, go_sem]) rfl ⟨rfl, ⟨_, HI2.out⟩, hB2⟩
      · have hc : wr.cell? ⟨b, j, none⟩ = some (.iface 95 (thV g pk)) := hc0
        have jN := nil_th g pk
        have hC2 : Calls Tryz.prog 117 #[thV g pk, .string (s.extract z s.size)] wr.drew fun r W' => r = .returned (.tuple #[.int .i64 k, .int .i64 e]) ∧ Inv (j + 1) m' W' ∧ But g wr.drew W' := hC'
        clear hc0 hC'
        go_wp2_with fail
        go_region_held3 (fun _ => True) (trivial)
          (first
            | (go_at_call 117
               refine hC2.mono ?_
               rintro x w2 ⟨rfl, hi2, hb2⟩))
        have HI2 := hid hi2
        have hB2 : But g w w2 := HB.out.trans (But.trans (b := wr.drew) (show But g wr wr.drew from ⟨rfl, rfl, rfl, Nat.le_refl _, fun _ _ _ => rfl⟩) hb2)
        have hR2 := RowQ.but (W := wr.drew) HW.out hb2 hg
        clear hc jN hC2 hi2 hb2 HB HW jz1 jz2
        by_cases he : e = 0
        · subst he
          have hn2 := hid (show runP step S ((List.range n).drop (j + 1)) m' (z + k) = (M, Z, E) by have := hrun.out; rw [range_drop hlt, runP_cons HX.out] at this; exact this)
          go_wp2_with fail
          go_roundw
          case rel => exact ⟨j + 1, z + k, m', by omega, by go_num, rfl, by go_num, hk, hn2, HI2, hR2, hB2⟩
          case measure => simp [intOf]; omega
        · have e0 : ((e : Int) == 0) = false := by simpa using he
          have hn2 := hrun.out
          rw [range_drop hlt, runP_bad HX.out he] at hn2
          simp only [Prod.mk.injEq] at hn2
          obtain ⟨rfl, rfl, rfl⟩ := hn2
          go_wp2_with fail
          rw [Exit.noGoto_ret]
          exact bodyPost_ret (v := .tuple #[.int .i64 0, .int .i64 e]) (by simp [results, Tryz.results40, go_sem]) rfl ⟨rfl, ⟨_, HI2.out⟩, hB2⟩
      · have hc : wr.cell? ⟨b, j, none⟩ = some (.iface 100 (hdV g pk)) := hc0
        have jN := nil_hd g pk
        have hC2 : Calls Tryz.prog 119 #[hdV g pk, .string (s.extract z s.size)] wr.drew fun r W' => r = .returned (.tuple #[.int .i64 k, .int .i64 e]) ∧ Inv (j + 1) m' W' ∧ But g wr.drew W' := hC'
        clear hc0 hC'
        go_wp2_with fail
        go_region_held3 (fun _ => True) (trivial)
          (first
            | (go_at_call 119
               refine hC2.mono ?_
               rintro x w2 ⟨rfl, hi2, hb2⟩))
        have HI2 := hid hi2
        have hB2 : But g w w2 := HB.out.trans (But.trans (b := wr.drew) (show But g wr wr.drew from ⟨rfl, rfl, rfl, Nat.le_refl _, fun _ _ _ => rfl⟩) hb2)
        have hR2 := RowQ.but (W := wr.drew) HW.out hb2 hg
        clear hc jN hC2 hi2 hb2 HB HW jz1 jz2
        by_cases he : e = 0
        · subst he
          have hn2 := hid (show runP step S ((List.range n).drop (j + 1)) m' (z + k) = (M, Z, E) by have := hrun.out; rw [range_drop hlt, runP_cons HX.out] at this; exact this)
          go_wp2_with fail
          go_roundw
          case rel => exact ⟨j + 1, z + k, m', by omega, by go_num, rfl, by go_num, hk, hn2, HI2, hR2, hB2⟩
          case measure => simp [intOf]; omega
        · have e0 : ((e : Int) == 0) = false := by simpa using he
          have hn2 := hrun.out
          rw [range_drop hlt, runP_bad HX.out he] at hn2
          simp only [Prod.mk.injEq] at hn2
          obtain ⟨rfl, rfl, rfl⟩ := hn2
          go_wp2_with fail
          rw [Exit.noGoto_ret]
          exact bodyPost_ret (v := .tuple #[.int .i64 0, .int .i64 e]) (by simp [results, Tryz.results40, go_sem]) rfl ⟨rfl, ⟨_, HI2.out⟩, hB2⟩
      · have hc : wr.cell? ⟨b, j, none⟩ = some (.iface 105 (cmV g pk)) := hc0
        have jN := nil_cm g pk
        have hC2 : Calls Tryz.prog 121 #[cmV g pk, .string (s.extract z s.size)] wr.drew fun r W' => r = .returned (.tuple #[.int .i64 k, .int .i64 e]) ∧ Inv (j + 1) m' W' ∧ But g wr.drew W' := hC'
        clear hc0 hC'
        go_wp2_with fail
        go_region_held3 (fun _ => True) (trivial)
          (first
            | (go_at_call 121
               refine hC2.mono ?_
               rintro x w2 ⟨rfl, hi2, hb2⟩))
        have HI2 := hid hi2
        have hB2 : But g w w2 := HB.out.trans (But.trans (b := wr.drew) (show But g wr wr.drew from ⟨rfl, rfl, rfl, Nat.le_refl _, fun _ _ _ => rfl⟩) hb2)
        have hR2 := RowQ.but (W := wr.drew) HW.out hb2 hg
        clear hc jN hC2 hi2 hb2 HB HW jz1 jz2
        by_cases he : e = 0
        · subst he
          have hn2 := hid (show runP step S ((List.range n).drop (j + 1)) m' (z + k) = (M, Z, E) by have := hrun.out; rw [range_drop hlt, runP_cons HX.out] at this; exact this)
          go_wp2_with fail
          go_roundw
          case rel => exact ⟨j + 1, z + k, m', by omega, by go_num, rfl, by go_num, hk, hn2, HI2, hR2, hB2⟩
          case measure => simp [intOf]; omega
        · have e0 : ((e : Int) == 0) = false := by simpa using he
          have hn2 := hrun.out
          rw [range_drop hlt, runP_bad HX.out he] at hn2
          simp only [Prod.mk.injEq] at hn2
          obtain ⟨rfl, rfl, rfl⟩ := hn2
          go_wp2_with fail
          rw [Exit.noGoto_ret]
          exact bodyPost_ret (v := .tuple #[.int .i64 0, .int .i64 e]) (by simp [results, Tryz.results40, go_sem]) rfl ⟨rfl, ⟨_, HI2.out⟩, hB2⟩
    · obtain rfl : j = n := by omega
      have hlt' : ¬ (j : Int) < (j : Int) := by omega
      have hn2 := hrun.out
      rw [List.drop_of_length_le (by simp), runP] at hn2
      simp only [Prod.mk.injEq] at hn2
      obtain ⟨rfl, rfl, rfl⟩ := hn2
      go_wp2_with fail
      exact bodyPost_ret (v := .tuple #[.int .i64 z, .int .i64 0]) (by simp [results, Tryz.results40, go_sem]) rfl ⟨rfl, ⟨_, hinv.out⟩, hbut⟩
end Go.Proofs.YtpedngbjpbeanaaGreatDoor
