/- Contracts of Is, Bytes and All of the package thing, and of the reference's AllBytes. -/
import Derived.Test.YtkklchobiiajgaaThgF
import Derived.Test.YtkklchobiiajgaaFldE
namespace Go.Proofs.Ytkklchobiiajgaa
open Go.RowKit
set_option linter.unusedVariables false
theorem isT_no1 {t : Th} (h : ¬ (0 ≤ t.id ∧ t.id ≤ 1000000)) : isT t = false := by
  rw [isT_eq]
  cases hd : (decide (0 ≤ t.id) && decide (t.id ≤ 1000000))
  · simp
  · simp at hd; omega
theorem isT_no2 {t : Th} (h : onB t.x t.y = false) : isT t = false := by rw [isT_eq, h]; simp
theorem isT_no3 {t : Th} {k : Nat} (hk : k < 4) (h : isF (t.f k) = false) : isT t = false := by
  rw [isT_eq]
  obtain rfl | rfl | rfl | rfl : k = 0 ∨ k = 1 ∨ k = 2 ∨ k = 3 := by omega
  · rw [show isF t.f0 = false from h]; simp
  · rw [show isF t.f1 = false from h]; simp
  · rw [show isF t.f2 = false from h]; simp
  · rw [show isF t.f3 = false from h]; simp
theorem isT_yes {t : Th} (h : 0 ≤ t.id ∧ t.id ≤ 1000000) (h1 : onB t.x t.y = true) (h2 : ∀ j, j < 4 → isF (t.f j) = true) : isT t = true := by
  rw [isT_eq, h1, show isF t.f0 = true from h2 0 (by omega), show isF t.f1 = true from h2 1 (by omega), show isF t.f2 = true from h2 2 (by omega), show isF t.f3 = true from h2 3 (by omega)]
  simp [h]
theorem index_th (t : Th) (k : Nat) (hk : k < 4) (W : World) : (Instr.index 41 (.agg #[.int .i64 t.f0.n, .string t.f0.s, .int .i64 t.f1.n, .string t.f1.s, .int .i64 t.f2.n, .string t.f2.s, .int .i64 t.f3.n, .string t.f3.s]) (.int .i64 k)).run Try.prog W = .ok (t.f k).v W := by
  obtain rfl | rfl | rfl | rfl : k = 0 ∨ k = 1 ∨ k = 2 ∨ k = 3 := by omega
  · exact indexA_f0 W _ _ _ _ _ _ _ _
  · exact indexA_f1 W _ _ _ _ _ _ _ _
  · exact indexA_f2 W _ _ _ _ _ _ _ _
  · exact indexA_f3 W _ _ _ _ _ _ _ _
set_option maxHeartbeats 1000000 in
theorem thing_is (w : World) (t : Th) (hi : inT t) : Calls Try.prog 44 #[t.v] w fun e w' => e = .returned (.bool (isT t)) ∧ Below w.heap.size w w' := by
  obtain ⟨o, ho⟩ : ∃ o, Hid (onB t.x t.y = o) := ⟨_, rfl⟩
  have K0 : Hid ((w.alloc t.o).heap[w.heap.size]? = some t.o) := new_at _ _ _ rfl
  by_cases hA : 0 ≤ t.id ∧ t.id ≤ 1000000
  · obtain ⟨a1, a2⟩ := hA
    go_enter Try.func44, Try.ntmps44
    go_wp2_with fail
    refine (on_at ho.out _).mono ?_
    rintro x w1 ⟨rfl, hb1⟩
    have K1 := hid (var_on hb1 K0.out (at_lt K0.out))
    have hB := below_on (below1 w t.o) hb1
    have c1 := cells_at K1.out
    have l1 := at_lt K1.out
    clear hb1 K0
    cases o
    · go_wp2_with fail
      go_ret; exact ⟨congrArg (fun x => Ending.returned (.bool x)) ((isT_no2 ho.out).symm), hB⟩
    · go_wp2_with fail
      clear c1 l1
      go_loopw [21] (fun i wr => ∃ k : Nat, k ≤ 4 ∧ i = .int .i64 k ∧ (∀ j, j < k → isF (t.f j) = true) ∧ Below w.heap.size w wr) (fun i _ => 4 - (intOf i).toNat)
      case atStart => exact ⟨0, by omega, rfl, fun j hj => by omega, hB⟩
      case round =>
        clear hB K1
        obtain ⟨k, hk, rfl, hok, hb⟩ := hrel
        have HO := hid hok
        clear hok
        by_cases hlt : k < 4
        · have hlt' : (k : Int) < 4 := by omega
          have hI := index_th t k hlt
          obtain ⟨f, hf⟩ : ∃ f, Hid (t.f k = f) := ⟨_, rfl⟩
          rw [hf.out] at hI
          have hfs : f.s.size ≤ maxLen := by rw [← hf.out]; exact inT_s hi k
          obtain ⟨q, hq⟩ : ∃ q, Hid (isF f = q) := ⟨_, rfl⟩
          have hs := hb.size
          go_wp2_with fail
          refine (isF_at hq.out _ hfs).mono ?_
          rintro x w2 ⟨rfl, hb2⟩
          have hB2 := below_on (hb.alloc hs f.o) hb2
          clear hb2 hb
          cases q
          · go_wp2_with fail
            go_ret; exact ⟨congrArg (fun x => Ending.returned (.bool x)) ((isT_no3 hlt (by rw [hf.out]; exact hq.out)).symm), hB2⟩
          · go_wp2_with fail
            go_roundw
            case rel =>
              refine ⟨k + 1, by omega, by go_num, fun j hj => ?_, hB2⟩
              by_cases e : j = k
              · subst e; rw [hf.out]; exact hq.out
              · exact HO.out j (by omega)
            case measure => simp [intOf]; omega
        · obtain rfl : k = 4 := by omega
          go_wp2_with fail
          go_ret; exact ⟨congrArg (fun x => Ending.returned (.bool x)) ((isT_yes ⟨a1, a2⟩ ho.out HO.out).symm), hb⟩
  · have hF := hid (isT_no1 hA)
    rw [hF.out]
    go_enter Try.func44, Try.ntmps44
    go_wp2_with fail
    all_goals first
      | (exfalso; omega)
      | (go_ret; exact ⟨rfl, below1 _ _⟩)
theorem isT_at {t : Th} {q : Bool} (h : Hid (isT t = q)) (w : World) (hi : inT t) : Calls Try.prog 44 #[t.v] w fun e w' => e = .returned (.bool q) ∧ Below w.heap.size w w' := by
  rw [← h.out]; exact thing_is w t hi
theorem refT_at {t : Th} {q : Bool} (h : Hid (isT t = q)) (w : World) (hi : inT t) : Calls Try.prog 26 #[t.v] w fun e w' => e = .returned (.bool q) ∧ Below w.heap.size w w' := by
  rw [← h.out]; exact ref_isT w t hi
theorem thing_bytes {t : Th} {B : List UInt8} {e : Nat} (h : Hid (bytesT t = (B, e))) (hi : inT t) (w : World) : Calls Try.prog 56 #[t.v] w fun x w' => x = .returned (.tuple #[.string ⟨B.toArray⟩, .int .i64 e]) ∧ Below w.heap.size w w' := by
  obtain ⟨q, hq⟩ : ∃ q, Hid (isT t = q) := ⟨_, rfl⟩
  have K0 : Hid ((w.alloc t.o).heap[w.heap.size]? = some t.o) := new_at _ _ _ rfl
  have hp := h.out
  unfold bytesT at hp
  rw [hq.out] at hp
  have HP := hid hp
  clear hp h
  go_enter Try.func56, Try.ntmps56
  go_wp2_with fail
  refine (isT_at hq _ hi).mono ?_
  rintro x w1 ⟨rfl, hb1⟩
  have K1 := hid (var_on hb1 K0.out (at_lt K0.out))
  have hB := below_on (below1 w t.o) hb1
  have c1 := cells_at K1.out
  have l1 := at_lt K1.out
  clear hb1 K0
  cases q
  · have hp := HP.out
    simp only [Bool.false_eq_true, if_false, Prod.mk.injEq] at hp
    obtain ⟨rfl, rfl⟩ := hp
    go_wp2_with fail
    exact bodyPost_ret (v := .tuple #[.string ⟨#[]⟩, .int .i64 11]) (by simp [results, Try.results56, go_sem]) rfl ⟨rfl, hB⟩
  · have hp := HP.out
    simp only [if_true, Prod.mk.injEq] at hp
    obtain ⟨hBt, rfl⟩ := hp
    have hBt := hid hBt
    clear HP
    go_wp2_with fail
    refine (thing_whole _ t).mono ?_
    rintro x w2 ⟨rfl, hb2⟩
    replace hB := below_on hB hb2
    clear hb2 c1 l1
    obtain ⟨D, hD⟩ : ∃ D, Hid (wholeD t = D) := ⟨_, rfl⟩
    have hDD : Hid (isD D = true) := by show isD D = true; rw [← hD.out, isT_whole]; exact hq.out
    have hfit : ∀ k, fitF (D.f k) := by rw [← hD.out]; exact whole_fit hq.out hi
    rw [hD.out]
    go_wp2_with fail
    refine (fields_bytes _ D hDD.out hfit).mono ?_
    rintro x w3 ⟨rfl, hb3⟩
    replace hB := below_on hB hb3
    clear hb3
    have hS : Hid (bytesK D 4 = B) := by show bytesK D 4 = B; rw [← hD.out]; exact hBt.out
    rw [hS.out]
    go_wp2_with fail
    exact bodyPost_ret (v := .tuple #[.string ⟨B.toArray⟩, .int .i64 0]) (by simp [results, Try.results56, go_sem]) rfl ⟨rfl, hB⟩
end Go.Proofs.Ytkklchobiiajgaa
