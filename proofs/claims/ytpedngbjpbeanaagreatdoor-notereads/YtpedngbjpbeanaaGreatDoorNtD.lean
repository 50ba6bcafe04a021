/- Contract of the statements' fewNote. -/
import Derived.Test.YtpedngbjpbeanaaGreatDoorNtA
namespace Go.Proofs.YtpedngbjpbeanaaGreatDoor
open Go.RowKit
set_option linter.unusedVariables false
set_option maxRecDepth 100000
/-- a note that is short -/
structure FewN (n : Nt) : Prop where
  mo : n.mo.length ≤ 30
  ha : n.ha.length ≤ 20
  gi : n.gi.length ≤ 30
  wa : n.wa.length ≤ 24
theorem fewCm_at {c : Cm} {x : Bool} (h : Hid (fewC c = x)) (hs : sizedC c) (w : World) : Calls Tryz.prog 16 #[c.v] w fun e w' => e = .returned (.bool x) ∧ Below w.heap.size w w' := by
  rw [← h.out]; exact few_cmd w c hs
theorem fewLs_at {p : Option Addr} {cap : Nat} {L : List Th} {x : Bool} (h : Hid (fewL L = x)) {w : World} (hr : RowT w p L) (hi : ∀ t ∈ L, inT t) (hm : L.length ≤ maxLen) : Calls Tryz.prog 17 #[.slice p L.length cap] w fun e w' => e = .returned (.bool x) ∧ Below w.heap.size w w' := by
  rw [← h.out]; exact few_things w p cap L hr hi hm
theorem fewL_len {L : List Th} (h : fewL L = true) : L.length ≤ 30 := by
  unfold fewL at h
  rw [Bool.and_eq_true, decide_eq_true_eq] at h
  exact h.2
set_option maxHeartbeats 2000000 in
theorem few_note {w : World} {n : Nt} {s : Ns} (hr : RowN w s n) (hf : FitN n) (hl : LenN n) :
    Calls Tryz.prog 6 #[n.v s] w fun e w' => ∃ q, e = .returned (.bool q) ∧ (q = true → FewN n) ∧ Below w.heap.size w w' := by
  obtain ⟨W, hW⟩ : ∃ W, W = w.alloc (n.o s) := ⟨_, rfl⟩
  have hB : Below w.heap.size w W := by rw [hW]; exact below1 _ _
  have hA := hid (show W.heap[w.heap.size]? = some (n.o s) by rw [hW]; exact new_at _ _ _ rfl)
  obtain ⟨q2, h2⟩ : ∃ x, Hid (fewL n.mo = x) := ⟨_, rfl⟩
  obtain ⟨q4, h4⟩ : ∃ x, Hid (fewL n.gi = x) := ⟨_, rfl⟩
  have C2 := hid (fun (w' : World) (hb : Below w.heap.size w w') => fewLs_at (cap := s.cm) h2 (hr.later hb).mo hf.mo hl.mo)
  have C4 := hid (fun (w' : World) (hb : Below w.heap.size w w') => fewLs_at (cap := s.cg) h4 (hr.later hb).gi hf.gi hl.gi)
  have HR := hid hr.wa
  have HF := hid hf.wa
  have hl1 : n.wa.length ≤ 9223372036854775807 := by have := hl.wa; unfold maxLen at this; omega
  have hl2 : n.ha.length ≤ 9223372036854775807 := by have := hl.ha; unfold maxLen at this; omega
  clear hr hf hl
  go_enter Tryz.func6, Tryz.ntmps6
  go_upto_region 1 with fail
  rw [← hW]
  clear hW
  have cA := (cells_at hA.out).1
  have lA := at_lt hA.out
  go_wp2_with fail
  clear cA lA
  go_loopw [3] (fun i wr => ∃ k : Nat, k ≤ n.wa.length ∧ i = .int .i64 k ∧ Hid (wr.heap[w.heap.size]? = some (n.o s)) ∧ Hid (Below w.heap.size w wr)) (fun i _ => n.wa.length - (intOf i).toNat)
  case atStart => exact ⟨0, by omega, rfl, hA, hid hB⟩
  case round =>
    obtain ⟨k, hk, rfl, hA1, hb⟩ := hrel
    clear hA hB
    have cA := (cells_at hA1.out).1
    have lA := at_lt hA1.out
    by_cases hlt : k < n.wa.length
    · have hlt' : (k : Int) < (n.wa.length : Int) := by omega
      obtain ⟨c, hc⟩ := get_some n.wa k hlt
      obtain ⟨b, off, hp, hg⟩ := (HR.out.later hb.out).at hc
      rw [hp] at cA
      have HC := hid hg
      have hsz := fit_sized (HF.out c (List.mem_of_getElem? hc))
      obtain ⟨x, hx⟩ : ∃ x, Hid (fewC c = x) := ⟨_, rfl⟩
      clear hc hg hp
      go_wp2_with (with_reducible refine wpList_load_mid_cm rfl (.tmp 14) rfl rfl HC.out ?_)
      refine (fewCm_at hx hsz _).mono ?_
      rintro y w2 ⟨rfl, hb2⟩
      have hB2 := hid (below_on hb.out hb2)
      have hA2 := hid (var_on hb2 hA1.out lA)
      clear hb hb2 HC hA1 cA lA
      cases x
      · go_wp2_with fail
        go_ret
        exact ⟨false, rfl, (fun h => by cases h), hB2.out⟩
      · go_wp2_with fail
        go_roundw
        case rel => exact ⟨k + 1, by omega, by go_num, hA2, hB2⟩
        case measure => simp [intOf]; omega
    · have hlt' : ¬ (k : Int) < (n.wa.length : Int) := by omega
      go_wp2_with fail
      refine (C2.out _ hb.out).mono ?_
      rintro y w2 ⟨rfl, hb2⟩
      have hB2 := hid (below_on hb.out hb2)
      have hA2 := hid (var_on hb2 hA1.out lA)
      clear hb hb2 hA1 cA lA C2
      have cA := (cells_at hA2.out).1
      have lA := at_lt hA2.out
      cases q2
      · go_wp2_with fail
        go_ret
        exact ⟨false, rfl, (fun h => by cases h), hB2.out⟩
      go_wp2_with fail
      refine (C4.out _ hB2.out).mono ?_
      rintro y w3 ⟨rfl, hb2⟩
      have hB3 := hid (below_on hB2.out hb2)
      have hA3 := hid (var_on hb2 hA2.out lA)
      clear hB2 hb2 hA2 cA lA C4
      have cA := (cells_at hA3.out).1
      have lA := at_lt hA3.out
      cases q4
      · go_wp2_with fail
        go_ret
        exact ⟨false, rfl, (fun h => by cases h), hB3.out⟩
      by_cases h3 : n.ha.length ≤ 20
      · have d3 : decide ((n.ha.length : Int) ≤ 20) = true := by simp; omega
        by_cases h5 : n.wa.length ≤ 24
        · have d5 : decide ((n.wa.length : Int) ≤ 24) = true := by simp; omega
          go_wp2_with fail
          go_ret
          exact ⟨true, rfl, fun _ => ⟨fewL_len h2.out, h3, fewL_len h4.out, h5⟩, hB3.out⟩
        · have d5 : decide ((n.wa.length : Int) ≤ 24) = false := by simp; omega
          go_wp2_with fail
          go_ret
          exact ⟨false, rfl, (fun h => by cases h), hB3.out⟩
      · have d3 : decide ((n.ha.length : Int) ≤ 20) = false := by simp; omega
        go_wp2_with fail
        go_ret
        exact ⟨false, rfl, (fun h => by cases h), hB3.out⟩
end Go.Proofs.YtpedngbjpbeanaaGreatDoor
