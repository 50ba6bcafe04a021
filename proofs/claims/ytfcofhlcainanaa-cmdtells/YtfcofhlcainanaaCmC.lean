/- Contract of the statements' reads: whatever bytes, it is true. -/
import Derived.Test.YtfcofhlcainanaaCmY
import Derived.Test.YtfcofhlcainanaaCmO
namespace Go.Proofs.Ytfcofhlcainanaa
open Go.RowKit
set_option linter.unusedVariables false
theorem refIs_at {c : Cm} {q : Bool} (h : isC c = q) (hs : sizedC c) (w : World) : Calls Try.prog 12 #[c.v] w fun e w' => e = .returned (.bool q) ∧ Below w.heap.size w w' := by
  have := ref_is w c hs
  rw [isX_isC, h] at this
  exact this
theorem is_fit {c : Cm} (h : isC c = true) (hn : numsC c) : fitC c := by
  have hX := isX_iff.1 ((isX_isC c).trans h)
  obtain ⟨-, -, -, -, -, -, -, -, -, i4, i0, i1, i2, i3⟩ := hX
  have small : ∀ f : Fl, isF f = true → f.s.size ≤ maxLen := fun f hf => by
    unfold isF at hf
    simp only [Bool.and_eq_true, decide_eq_true_eq] at hf
    unfold maxLen
    omega
  intro k
  refine ⟨?_, hn k⟩
  apply small
  unfold Cm.f
  split <;> assumption
theorem eqC_zero : eqC zC zC = true := eqC_self zC
set_option maxRecDepth 100000 in
set_option maxHeartbeats 4000000 in
theorem reads_holds (w : World) (s : ByteArray) (hs : s.size ≤ 1000000) : Calls Try.prog 17 #[.string s] w fun e w' => e = .returned (.bool true) ∧ Below w.heap.size w w' := by
  rcases hr : readC s.data.toList with ⟨c, n, e⟩
  have C1 := fun w => cmd_read (hid hr) hs w
  by_cases he : e = 0
  · subst he
    obtain ⟨h1, h2, h3, h4⟩ := read_canon hr
    have h3 : n ≤ s.size := h3
    have hf := is_fit h1 h4
    obtain ⟨B, hB⟩ : ∃ B, Hid (toldL (partsP c.kd) c = B) := ⟨_, rfl⟩
    rw [hB.out] at h2
    have hn : B.length = n := by
      have := congrArg List.length h2
      rw [List.length_append, List.length_drop] at this
      have e9 : s.data.toList.length = s.size := rfl
      omega
    have C2 := fun w => bytes_at (c := c) (B := B) (e := 0) (by show bytesC c = _; unfold bytesC; rw [h1, if_pos rfl, hB.out]) hf w
    have C3 := fun w => refIs_at h1 (fit_sized hf) w
    obtain ⟨BB, hBB⟩ : ∃ BB : ByteArray, Hid ((⟨B.toArray⟩ : ByteArray) = BB) := ⟨_, rfl⟩
    have sB : BB.size = n := by rw [← hBB.out]; exact hn
    have hcut : s.extract 0 n = BB := by
      rw [← hBB.out]
      obtain ⟨⟨l⟩⟩ := s
      have e1 := ByteArray.extract_mk l 0 n
      have h2' : l = B ++ l.drop n := h2
      rw [e1, List.drop_zero, Nat.sub_zero, h2', ← hn, List.take_left]
    rw [hBB.out] at C2
    have HC := hid hcut
    have j1 : (n : Int) ≤ (s.size : Int) := by omega
    have j2 : (0 : Int) ≤ (n : Int) := by omega
    clear hr h1 h2 h4 hcut
    go_enter Try.func17, Try.ntmps17
    go_wp2_with fail
    refine (C1 _).mono ?_
    rintro x W1 ⟨rfl, hb⟩
    have hE := hb
    clear hb C1
    go_wp2_with (first
      | ((with_reducible refine wpList_store_cm rfl (.tmp 3) (.tmp 11) rfl rfl rfl (new_zero _) ?_); intro W2 h2 b2 s2
         replace hE := b2.below (hE.alloc (by have := hE.size; omega) _) hE.size
         have K := hid h2
         clear h2 b2 s2)
      | with_reducible refine wpList_load_cm rfl (.tmp 3) rfl rfl K.out ?_)
    refine (C2 _).mono ?_
    rintro x W3 ⟨rfl, hb⟩
    replace K := hid (var_on hb K.out (at_lt K.out))
    replace hE := below_on hE hb
    clear hb C2
    have hcut := HC.out
    go_wp2_with ((with_reducible refine wpList_load_cmG ?_ (.tmp 3) rfl rfl K.out ?_); · rfl)
    refine (C3 _).mono ?_
    rintro x W4 ⟨rfl, hb⟩
    replace hE := below_on hE hb
    go_wp2_with fail
    go_ret
    exact ⟨rfl, hE⟩
  · obtain ⟨rfl, rfl, h3⟩ := read_err hr he
    have q1 : ((e : Int) != 0) = true := by simpa using he
    have hQ := equal_zero eqC_zero
    clear hr he
    have h3' : ((e : Int) == 10) = true ∨ (((e : Int) == 10) = false ∧ ((e : Int) == 11) = true) ∨ (((e : Int) == 10) = false ∧ ((e : Int) == 11) = false ∧ ((e : Int) == 13) = true) := by
      rcases h3 with rfl | rfl | rfl <;> simp
    clear h3
    rcases h3' with q2 | ⟨q2, q3⟩ | ⟨q2, q3, q4⟩
    all_goals
      go_enter Try.func17, Try.ntmps17
      go_wp2_with fail
      refine (C1 _).mono ?_
      rintro x W1 ⟨rfl, hb⟩
      have hE := hb
      clear hb C1
      go_wp2_with (first
        | ((with_reducible refine wpList_store_cm rfl (.tmp 3) (.tmp 11) rfl rfl rfl (new_zero _) ?_); intro W2 h2 b2 s2
           replace hE := b2.below (hE.alloc (by have := hE.size; omega) _) hE.size
           have K := hid h2
           clear h2 b2 s2)
        | ((with_reducible refine wpList_load_cmG ?_ (.tmp 3) rfl rfl K.out ?_); · rfl))
      go_ret
      exact ⟨rfl, hE⟩
end Go.Proofs.Ytfcofhlcainanaa
