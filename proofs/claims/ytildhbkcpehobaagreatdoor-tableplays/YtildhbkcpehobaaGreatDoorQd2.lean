/- Contracts of find and first over this translation: each returns what the plain functions say, and changes nothing that was there. -/
import Derived.Test.YtildhbkcpehobaaGreatDoorQd1
namespace Go.Proofs.YtildhbkcpehobaaGreatDoor
open Go.RowKit
set_option linter.unusedVariables false
theorem Tr.row {W : World} {base tb : Nat} {v : Value} {S : List Sp} (h : Tr W base tb v S) : ∃ p cap, v = .slice p S.length cap ∧ RowG Sp.cs 2 W p S ∧ S.length ≤ cap ∧ cap ≤ maxLen := by
  obtain ⟨p, cap, rfl⟩ := owns_slice h.own
  refine ⟨p, cap, rfl, row_own Sp.z h.own rfl, ?_⟩
  rcases h.own.2 with ⟨h1, h2⟩ | ⟨g, cap', cur, h1, _, _, h2, h3, _⟩
  · simp only [Value.slice.injEq] at h1
    obtain ⟨_, _, rfl⟩ := h1
    exact ⟨by omega, by unfold maxLen; omega⟩
  · simp only [Value.slice.injEq] at h1
    obtain ⟨_, _, rfl⟩ := h1
    exact ⟨h2, h3⟩
theorem Tr.later {W W' : World} {base tb : Nat} {v : Value} {S : List Sp} (h : Tr W base tb v S) (hb : Below W.heap.size W W') : Tr W' base tb v S :=
  ⟨var_on hb h.at_ (lt_of_at h.at_), owns_on h.own hb, h.ne, h.lo⟩
theorem tree_find {w : World} {base tb : Nat} {v : Value} {S : List Sp} (h : Tr w base tb v S) (id : Int) :
    Calls Tryz.prog 45 #[.pointer (some ⟨tb, 0, none⟩), .int .i64 id] w fun e w' => e = .returned (.int .i64 (findI id S)) ∧ Below w.heap.size w w' := by
  obtain ⟨p, cap, rfl, hr, hc, hm⟩ := h.row
  have hcell := (cells_at h.at_).1
  have hlt := lt_of_at h.at_
  have hne : tb ≠ w.heap.size := by omega
  have hcon := index_func id w.heap.size (w.alloc (.cells #[.int .i64 id] 3)) p cap S (hr.later (below1 _ _)) (by omega) (by simp)
  clear hr h hc
  obtain ⟨n, hn⟩ : ∃ n, Hid (S.length = n) := ⟨_, rfl⟩
  rw [hn.out] at hcon hcell
  obtain ⟨R, hR⟩ : ∃ R, Hid (findI id S = R) := ⟨_, rfl⟩
  rw [hR.out] at hcon ⊢
  go_enter Tryz.func45, Tryz.ntmps45
  go_wp2_with fail
  refine hcon.mono ?_
  rintro x w2 ⟨rfl, hb2⟩
  go_wp2
  go_ret
  exact ⟨rfl, below_on (below1 _ _) hb2⟩
theorem first_cl {w : World} {tb A B : Nat} {p : Option Addr} {n cap : Nat} {S : List Sp} {c i : Nat} {s : Sp} (hT : ∀ i, w.cell? ⟨tb, i, none⟩ = #[.slice p n cap][i]?) (hr : RowG Sp.cs 2 w p S) (hn : Hid (n = S.length)) (hm : n ≤ 9223372036854775807)
    (hA : w.cell? ⟨A, 0, none⟩ = some (.pointer (some ⟨tb, 0, none⟩))) (hB : w.cell? ⟨B, 0, none⟩ = some (.int .u32 (c : Nat))) (hs : S[i]? = some s) :
    Calls Tryz.prog 82 #[.int .i64 (i : Nat), .pointer (some ⟨A, 0, none⟩), .pointer (some ⟨B, 0, none⟩)] w fun e w' => e = .returned (.bool (!decide (s.c < c))) ∧ Below w.heap.size w w' := by
  have hi : i < n := by rw [hn.out]; exact (List.getElem?_eq_some_iff.1 hs).1
  have hi' : (i : Int) < (n : Int) := by omega
  obtain ⟨b, off, rfl, hc⟩ := spot_at hr hs
  have h1 : ∀ d os, (Sort.grow (redrawn w d) os).cell? ⟨tb, 0, none⟩ = some (.slice (some ⟨b, off, none⟩) n cap) := cell_regrown (hT 0)
  have h2 := cell_regrown hA
  have h3 := cell_regrown hB
  have h4 := cell_regrown hc.2
  clear hT hr hA hB hc hs
  go_enter Tryz.func82, Tryz.ntmps82
  go_wp2_with fail
  refine wp_region_quiet_below (by kernel_rfl) (by kernel_rfl) ?_
  repeat (first | go_big_quiet_skip | (go_big_quiet_want; go_big_quiet_op; first | go_big_quiet_on | go_big_quiet_call (exact Calls.regrown_of ((less_at _ _ _).mono fun _ _ ⟨he, hw⟩ => ⟨he, by rw [hw]; exact Below.refl _ _⟩))))
  refine wpQuiet_nil ?_
  intro _ hw'
  obtain ⟨⟨dq, osq⟩, hw''⟩ := hw'
  subst hw''
  go_wp2
  go_ret
  exact ⟨by simp, below_regrown _ _ _⟩
set_option maxHeartbeats 1000000 in
theorem search_at {w : World} {tb A B : Nat} {p : Option Addr} {n cap : Nat} {S : List Sp} {c : Nat} (hT : ∀ i, w.cell? ⟨tb, i, none⟩ = #[.slice p n cap][i]?) (hr : RowG Sp.cs 2 w p S) (hn : Hid (n = S.length)) (hm : n ≤ 1000000000) (hS : Rising S)
    (hA : w.cell? ⟨A, 0, none⟩ = some (.pointer (some ⟨tb, 0, none⟩))) (hB : w.cell? ⟨B, 0, none⟩ = some (.int .u32 (c : Nat))) :
    Calls Tryz.prog 81 #[.int .i64 (n : Nat), .func (.func 82) #[] #[.pointer (some ⟨A, 0, none⟩), .pointer (some ⟨B, 0, none⟩)]] w fun e w' => e = .returned (.int .i64 (firstN c S : Nat)) ∧ Below w.heap.size w w' := by
  obtain ⟨R, hR⟩ : ∃ R, Hid (firstN c S = R) := ⟨_, rfl⟩
  rw [hR.out]
  have HC : Hid (∀ (W : World) (i : Nat) (s : Sp), Below w.heap.size w W → S[i]? = some s → Calls Tryz.prog 82 #[.int .i64 (i : Nat), .pointer (some ⟨A, 0, none⟩), .pointer (some ⟨B, 0, none⟩)] W fun e w' => e = .returned (.bool (!decide (s.c < c))) ∧ Below W.heap.size W w') :=
    fun W i s hb hs => first_cl (p := p) (n := n) (cap := cap) (fun j => by
      cases j with
      | zero => exact cell_below hb (hT 0)
      | succ j => exact (hb.cell (p := ⟨tb, j + 1, none⟩) (World.block_lt_of_cell? w ⟨tb, 0, none⟩ (hT 0))).trans (hT (j + 1))) (hr.later hb) hn (by omega) (cell_below hb hA) (cell_below hb hB) hs
  clear hT hr hA hB
  go_enter Tryz.func81, Tryz.ntmps81
  go_wp2_with fail
  go_loopg [5, 6] n (fun gg s5 s6 wr => ∃ i j : Nat, i ≤ j ∧ j ≤ n ∧ j - i ≤ gg ∧ s5 = .int .i64 (i : Nat) ∧ s6 = .int .i64 (j : Nat) ∧ (∀ k a, k < i → S[k]? = some a → a.c < c) ∧ (∀ k a, j ≤ k → S[k]? = some a → c ≤ a.c) ∧ Below w.heap.size w wr)
  case atStart => exact ⟨0, n, by omega, by omega, by omega, rfl, rfl, fun k a hk => by omega, fun k a hk ha => by have := (List.getElem?_eq_some_iff.1 ha).1; have := hn.out; omega, Below.refl _ _⟩
  case round =>
    obtain ⟨i, j, hij, hj, hgg, rfl, rfl, h1, h2, hb⟩ := hrel
    have H1 := hid h1
    have H2 := hid h2
    clear h1 h2
    by_cases hlt : i < j
    · have hlt' : (i : Int) < (j : Int) := by omega
      obtain ⟨h, hh⟩ : ∃ h, Hid (h = (i + j) / 2) := ⟨_, rfl⟩
      have hh1 : ((i : Int) + (j : Int)) / 2 = (h : Int) := by rw [hh.out]; omega
      have hh2 : i ≤ h := by rw [hh.out]; omega
      have hh3 : h < j := by rw [hh.out]; omega
      obtain ⟨s, hs⟩ := get_some S h (by rw [← hn.out]; omega)
      have hcall := HC.out wr h s hb hs
      have HS := hid hs
      clear hs
      go_wp2_with fail
      refine hcall.mono ?_
      rintro x w2 ⟨rfl, hb2⟩
      have hB2 := below_on hb hb2
      clear hb2 hb hcall
      by_cases q : s.c < c
      · have Q := hid q
        have q' : decide (s.c < c) = true := by simpa using q
        rw [q']
        clear q q'
        go_wp2_with fail
        go_roundg (j - (h + 1))
        case measure => omega
        case rel =>
          refine ⟨h + 1, j, by omega, hj, by omega, by go_num, rfl, fun k a hk ha => ?_, H2.out, hB2⟩
          exact Nat.lt_of_le_of_lt (hS k h a s (by omega) ha HS.out) Q.out
      · have Q := hid q
        have q' : decide (s.c < c) = false := by simpa using q
        rw [q']
        clear q q'
        go_wp2_with fail
        go_roundg (h - i)
        case measure => omega
        case rel =>
          refine ⟨i, h, by omega, by omega, by omega, rfl, rfl, H1.out, fun k a hk ha => ?_, hB2⟩
          have := hS h k s a hk HS.out ha
          have := Q.out
          omega
    · obtain rfl : i = j := by omega
      have hlt' : ¬ (i : Int) < (i : Int) := by omega
      go_wp2_with fail
      go_ret
      exact ⟨congrArg (fun x : Nat => Ending.returned (.int .i64 (x : Nat))) ((firstN_eq (by rw [← hn.out]; exact hj) H1.out H2.out).symm.trans hR.out), hb⟩
theorem tree_first {w : World} {base tb : Nat} {v : Value} {S : List Sp} (h : Tr w base tb v S) (hl : S.length ≤ 1000000) (hS : Rising S) (c : Nat) :
    Calls Tryz.prog 66 #[.pointer (some ⟨tb, 0, none⟩), .int .u32 (c : Nat)] w fun e w' => e = .returned (.int .i64 (firstN c S : Nat)) ∧ Below w.heap.size w w' := by
  obtain ⟨p, cap, rfl, hr, hc, hm⟩ := h.row
  have hcell := (cells_at h.at_).1
  have hlt := lt_of_at h.at_
  have hne : tb ≠ w.heap.size := by omega
  have hne2 : tb ≠ w.heap.size + 1 := by omega
  obtain ⟨W1, hW1⟩ : ∃ W1, W1 = (w.alloc (.cells #[.pointer (some ⟨tb, 0, none⟩)] 56)).alloc (.cells #[.int .u32 (c : Nat)] 80) := ⟨_, rfl⟩
  have hB1 : Below w.heap.size w W1 := by rw [hW1]; exact below_on (below1 _ _) (below1 _ _)
  have hcon := search_at (w := W1) (tb := tb) (A := w.heap.size) (B := w.heap.size + 1) (p := p) (n := S.length) (cap := cap) (c := c) (fun i => by rw [hB1.cell (p := ⟨tb, i, none⟩) hlt]; exact hcell i) (hr.later hB1) rfl (by omega) hS (by rw [hW1]; simp) (by rw [hW1]; simp)
  rw [hW1] at hcon hB1
  clear hr h hc hW1
  obtain ⟨n, hn⟩ : ∃ n, Hid (S.length = n) := ⟨_, rfl⟩
  rw [hn.out] at hcon hcell
  obtain ⟨R, hR⟩ : ∃ R, Hid (firstN c S = R) := ⟨_, rfl⟩
  rw [hR.out] at hcon ⊢
  go_enter Tryz.func66, Tryz.ntmps66
  go_wp2_with fail
  refine hcon.mono ?_
  rintro x w2 ⟨rfl, hb2⟩
  go_wp2
  go_ret
  exact ⟨rfl, below_on hB1 hb2⟩
end Go.Proofs.YtildhbkcpehobaaGreatDoor
