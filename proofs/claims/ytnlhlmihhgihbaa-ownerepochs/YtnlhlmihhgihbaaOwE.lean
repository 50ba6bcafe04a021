/- Contract of the statements' alike: two maps that are alike. -/
import Derived.Test.YtnlhlmihhgihbaaOwR
namespace Go.Proofs.Ytnlhlmihhgihbaa
open Go.RowKit
set_option linter.unusedVariables false
theorem MB.drewN {w : World} {g : Nat} {t : TypeId} {a : Int} {L : List Ow} (h : MB w g t a L) (n : Nat) : MB (w.drewN n) g t a L := h.later (below_drewN (Below.refl _ _) n)
set_option maxHeartbeats 2000000 in
theorem alike_yes {w : World} {g r : Nat} {t u : TypeId} {n : Int} {L : List Ow} (h : MB w g t (n - 1) L) (hr : MB w r u n L) (h1 : 1 ≤ n) (h4 : n ≤ 4) :
    Calls Try.prog 14 #[.pointer (some ⟨g, 0, none⟩), .pointer (some ⟨r, 0, none⟩)] w fun e w' => e = .returned (.bool true) ∧ Below w.heap.size w w' := by
  have HM := hid h
  have HR := hid hr
  have C := own_all h
  clear h hr
  go_enter Try.func14, Try.ntmps14
  go_wp2_with fail
  refine C.mono ?_
  rintro x w1 ⟨b, cap, rfl, hb0, hrow, hb1⟩
  clear C
  have HM1 := hid (HM.out.later hb1)
  have HR1 := hid (HR.out.later hb1)
  have HL := hid hrow
  have HB := hid hb1
  clear HM HR hrow hb1
  have C := fun m => own_servers (HM1.out.drewN m) h1 h4
  have n0 := HR1.out.num
  have hd : (n != n) = false := by simp
  go_wp2_with fail
  go_quiet ((go_at_call 20; refine Calls.quiet_of_same (C _)))
  obtain ⟨W2, hW2⟩ : ∃ W2, w1.drewN nq = W2 := ⟨_, rfl⟩
  have hb2 : Below w1.heap.size w1 W2 := by rw [← hW2]; exact below_drewN (Below.refl _ _) nq
  rw [hW2]
  have HM2 := hid (HM1.out.later hb2)
  have HR2 := hid (HR1.out.later hb2)
  have HL2 := hid (HL.out.later hb2)
  have hB2 := below_on HB.out hb2
  clear hW2 hb2 HM1 HR1 HL HB C n0 hd
  go_wp2_with fail
  go_loopw [6, 7, 8] (fun i s7 s8 wr => ∃ k : Nat, k ≤ 16 ∧ i = .int .i64 k ∧ Below W2.heap.size W2 wr) (fun i _ _ _ => 16 - (intOf i).toNat)
  case atStart => exact ⟨0, by omega, rfl, Below.refl _ _⟩
  case round =>
    obtain ⟨k, hk, rfl, hb⟩ := hrel
    by_cases hlt : k < 16
    · have hlt' : (k : Int) < 16 := by omega
      obtain ⟨o, hok⟩ := HM2.out.get hlt
      have HO := hid hok
      have C := own_of (HM2.out.later hb) (k : Int)
      have hof : ofO L (k : Int) = o := by unfold ofO; rw [if_pos (by simp [isCell]; omega)]; exact at_nat hok
      have hic : isCell (k : Int) = true := by simp [isCell]; omega
      rw [hof, hic] at C
      clear hok hof hic
      go_wp2_with fail
      refine C.mono ?_
      rintro x w3 ⟨rfl, hb3⟩
      clear C
      have hB3 := below_on hb hb3
      clear hb hb3
      go_upto_region 8 with fail
      have hs3 := hB3.size
      obtain ⟨W, hW⟩ : ∃ W, w3.alloc (.cells #[.int .i64 o.s, .int .i64 o.e] 46) = W := ⟨_, rfl⟩
      have hB := hB3.alloc hs3 (.cells #[.int .i64 o.s, .int .i64 o.e] 46)
      have hX := hid (show W.heap[w3.heap.size]? = some (.cells #[.int .i64 o.s, .int .i64 o.e] 46 (0, 0)) by rw [← hW]; exact new_at _ _ _ rfl)
      rw [hW] at hB ⊢
      clear hW hB3 hs3
      obtain ⟨c1, c2⟩ := (HL2.out.later hB).at_ k o HO.out
      rw [Nat.zero_add] at c1 c2
      obtain ⟨r1, r2⟩ := (HR2.out.later hB).cell HO.out
      have y0 : W.cell? ⟨w3.heap.size, 0, none⟩ = some (.int .i64 o.s) := Go.Joins.cell_of_block hX.out 0
      have y1 : W.cell? ⟨w3.heap.size, 1, none⟩ = some (.int .i64 o.e) := Go.Joins.cell_of_block hX.out 1
      go_wp2_with fail
      go_quiet (fail)
      go_wp2_with fail
      go_roundw
      case rel => exact ⟨k + 1, by omega, by go_num, below_drewN hB _⟩
      case measure => simp [intOf]; omega
    · obtain rfl : k = 16 := by omega
      have hlt' : ¬ ((16 : Nat) : Int) < 16 := by omega
      go_wp2_with fail
      go_ret
      exact ⟨rfl, below_on hB2 hb⟩
end Go.Proofs.Ytnlhlmihhgihbaa
