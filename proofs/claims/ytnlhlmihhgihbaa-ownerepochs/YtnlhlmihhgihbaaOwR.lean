/- Contract of the reference's Load. -/
import Derived.Test.YtnlhlmihhgihbaaOwD
namespace Go.Proofs.Ytnlhlmihhgihbaa
open Go.RowKit
set_option linter.unusedVariables false
set_option maxHeartbeats 1000000 in
theorem ref_load_no {n : Int} {len : Nat} (h : sizesB n len = false) (w : World) (p : Option Addr) (cap : Nat) : Calls Try.prog 18 #[.int .i64 n, .slice p len cap] w fun e w' => e = .returned (.tuple #[.pointer none, .bool false]) ∧ w' = w := by
  rcases sizes_no h with d1 | ⟨d1, d2 | ⟨d2, d3⟩⟩ <;> clear h
  all_goals
    go_enter Try.func18, Try.ntmps18
    go_wp2_with fail
    exact bodyPost_ret (v := .tuple #[.pointer none, .bool false]) (by simp [results, Try.results18, go_sem]) rfl ⟨rfl, rfl⟩
/-- how the reference's Load ends -/
def LoadPostR (w : World) (n : Int) (L : List Ow) (e : Ending) (w' : World) : Prop :=
  (L.all (okO n) = true ∧ ∃ g, e = .returned (.tuple #[.pointer (some ⟨g, 0, none⟩), .bool true]) ∧ MB w' g 56 n L ∧ w.heap.size ≤ g ∧ Below w.heap.size w w') ∨
  (L.all (okO n) = false ∧ e = .returned (.tuple #[.pointer none, .bool false]) ∧ Below w.heap.size w w')
set_option maxHeartbeats 2000000 in
theorem ref_load {w : World} {b off cap : Nat} {n : Int} {L : List Ow} (h : RowA w b off L) (hl : L.length = 16) (h1 : 1 ≤ n) (h4 : n ≤ 4) :
    Calls Try.prog 18 #[.int .i64 n, .slice (some ⟨b, off, none⟩) 16 cap] w (LoadPostR w n L) := by
  have HR := hid h
  have HL := hid hl
  obtain ⟨Q, hQ⟩ : ∃ Q, LoadPostR w n L = Q := ⟨_, rfl⟩
  rw [hQ]
  have HQ := hid hQ
  have hbw := h.lt
  clear h hl hQ
  have d1 : decide (n < 1) = false := by simp; omega
  have d2 : decide (4 < n) = false := by simp; omega
  have hl := mpC_size n (show zeroL.length = 16 from rfl)
  have h1c := mpC_one n zeroL
  go_enter Try.func18, Try.ntmps18
  go_upto_region 3 with fail
  go_upto_region 4 with (with_reducible refine wpList_build_rmp rfl (.tmp 19) rfl rfl ?_)
  obtain ⟨W1, hW⟩ : ∃ W1, w.alloc (.cells (mpC n zeroL) 56) = W1 := ⟨_, rfl⟩
  have hB1 : Below w.heap.size w W1 := by rw [← hW]; exact below1 _ _
  have hm1 : MB W1 w.heap.size 56 n zeroL := by rw [← hW]; exact ⟨new_at _ _ _ rfl, rfl⟩
  rw [hW]
  clear d1 d2 hW hl h1c
  go_wp2_with fail
  go_loopw [7] (fun i wr => ∃ k : Nat, k ≤ 16 ∧ i = .int .i64 k ∧ MB wr w.heap.size 56 n (loadK L k) ∧ (L.take k).all (okO n) = true ∧ Below w.heap.size w wr) (fun i _ => 16 - (intOf i).toNat)
  case atStart => exact ⟨0, by omega, rfl, by rw [loadK_0]; exact hm1, by simp, hB1⟩
  case round =>
    obtain ⟨k, hk, rfl, hmk, hall, hB⟩ := hrel
    have HM1 := hid hmk
    have HA := hid hall
    clear hmk hm1 hB1 hall
    by_cases hlt : k < 16
    · have hlt' : (k : Int) < 16 := by omega
      obtain ⟨o, hok⟩ := get_some L k (by rw [HL.out]; exact hlt)
      obtain ⟨c1, c2⟩ := (HR.out.later hB).at_ k o hok
      have HO := hid hok
      clear hok
      have hs1 := hB.size
      have hend : okO n o = false → LoadPostR w n L (.returned (.tuple #[.pointer none, .bool false])) wr := fun q => .inr ⟨all_no HO.out q, rfl, hB⟩
      by_cases q3 : o.s < 0
      · have HE := hid (hend (by unfold okO isSrv; simp; omega))
        have d3 : decide (o.s < 0) = true := by simpa using q3
        clear hend q3
        go_wp2_with fail
        rw [← HQ.out]
        exact HE.out
      by_cases q4 : n ≤ o.s
      · have HE := hid (hend (by unfold okO isSrv; simp; omega))
        have d3 : decide (o.s < 0) = false := by simpa using q3
        have d4 : decide (n ≤ o.s) = true := by simpa using q4
        clear hend q3 q4
        go_wp2_with fail
        rw [← HQ.out]
        exact HE.out
      by_cases q1 : o.e < 0
      · have HE := hid (hend (by unfold okO isSrv; simp; omega))
        have d3 : decide (o.s < 0) = false := by simpa using q3
        have d4 : decide (n ≤ o.s) = false := by simpa using q4
        have d1 : decide (o.e < 0) = true := by simpa using q1
        clear hend q1 q3 q4
        go_wp2_with fail
        rw [← HQ.out]
        exact HE.out
      by_cases q2 : 1073741824 < o.e
      · have HE := hid (hend (by unfold okO isSrv; simp; omega))
        have d3 : decide (o.s < 0) = false := by simpa using q3
        have d4 : decide (n ≤ o.s) = false := by simpa using q4
        have d1 : decide (o.e < 0) = false := by simpa using q1
        have d2 : decide (1073741824 < o.e) = true := by simpa using q2
        clear hend q1 q2 q3 q4
        go_wp2_with fail
        rw [← HQ.out]
        exact HE.out
      · have HE := hid (show okO n o = true by unfold okO isSrv; simp; omega)
        have d3 : decide (o.s < 0) = false := by simpa using q3
        have d4 : decide (n ≤ o.s) = false := by simpa using q4
        have d1 : decide (o.e < 0) = false := by simpa using q1
        have d2 : decide (1073741824 < o.e) = false := by simpa using q2
        have hfz := HM1.out.free
        obtain ⟨m1, m2⟩ := HM1.out.cell (loadK_at HL.out hlt)
        clear hend q1 q2 q3 q4
        go_wp2_with fail
        go_region
        go_wp2_with fail
        go_roundw
        case rel =>
          refine ⟨k + 1, by omega, by go_num, ?_, all_take HO.out HA.out HE.out, ((hB.setCell (Nat.le_refl _) _).setCell (Nat.le_refl _) _).drew⟩
          have := HM1.out.set o hlt
          rw [loadK_set HL.out hlt HO.out] at this
          exact this.drew
        case measure => simp [intOf]; omega
    · obtain rfl : k = 16 := by omega
      have hlt' : ¬ ((16 : Nat) : Int) < 16 := by omega
      have HE : Hid (LoadPostR w n L (.returned (.tuple #[.pointer (some ⟨w.heap.size, 0, none⟩), .bool true])) wr) := .inl ⟨by have := HA.out; rw [List.take_of_length_le (by rw [HL.out]; omega)] at this; exact this, w.heap.size, rfl, by have := HM1.out; rw [loadK_16 HL.out] at this; exact this, Nat.le_refl _, hB⟩
      go_wp2_with fail
      rw [← HQ.out]
      exact HE.out
end Go.Proofs.Ytnlhlmihhgihbaa
