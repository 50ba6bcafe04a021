/- Contracts of within, splits and quarters over this translation: each returns what the plain functions say, and changes nothing that was there. -/
import Derived.Test.YtildhbkcpehobaaGreatDoorQd3
namespace Go.Proofs.YtildhbkcpehobaaGreatDoor
open Go.RowKit
set_option linter.unusedVariables false
/-- those of a square: one run of the row -/
def wth (S : List Sp) (s : Sq) : List Sp := (S.drop (firstN s.b S)).take (firstN (endN s) S - firstN s.b S)
theorem firstN_mono {c c' : Nat} (h : c ≤ c') (S : List Sp) : firstN c S ≤ firstN c' S := by
  unfold firstN
  apply List.countP_mono_left
  intro a _ ha
  simp at ha ⊢
  omega
theorem endN_ge (s : Sq) : s.b ≤ endN s := by unfold endN; omega
theorem wth_length (S : List Sp) (s : Sq) : (wth S s).length = firstN (endN s) S - firstN s.b S := by
  unfold wth
  have h1 := firstN_mono (endN_ge s) S
  have h2 := firstN_le (endN s) S
  rw [List.length_take, List.length_drop]
  omega
theorem wth_get (S : List Sp) (s : Sq) {k : Nat} {a : Sp} (h : (wth S s)[k]? = some a) : S[firstN s.b S + k]? = some a := by
  unfold wth at h
  rw [List.getElem?_take] at h
  split at h
  · rwa [List.getElem?_drop] at h
  · cases h
set_option maxHeartbeats 1000000 in
theorem tree_within {w : World} {base tb : Nat} {v : Value} {S : List Sp} (h : Tr w base tb v S) (hl : S.length ≤ 1000000) (hS : Rising S) (d b : Nat) (hd : d ≤ 4) (hb : b ≤ 100000) :
    Calls Tryz.prog 58 #[.pointer (some ⟨tb, 0, none⟩), .agg #[.int .i64 (d : Nat), .int .u32 (b : Nat)]] w fun e w' => ∃ p cap, e = .returned (.slice p (wth S ⟨d, b⟩).length cap) ∧ (∀ W, Tr W base tb v S → RowG Sp.cs 2 W p (wth S ⟨d, b⟩)) ∧ Below w.heap.size w w' := by
  obtain ⟨W1, hW1⟩ : ∃ W1, W1 = w.alloc (.cells #[.int .i64 (d : Nat), .int .u32 (b : Nat)] 96) := ⟨_, rfl⟩
  have hB1 : Below w.heap.size w W1 := by rw [hW1]; exact below1 _ _
  have h1 := h.later hB1
  have KB := grown_cells (show W1.heap[w.heap.size]? = some (.cells #[.int .i64 (d : Nat), .int .u32 (b : Nat)] 96 (0, 0)) by rw [hW1]; exact new_at _ _ _ rfl)
  have KT := grown_cells h1.at_
  have hE := fun w => sq_end d b w hd hb
  have hF1 : ∀ D os, Calls Tryz.prog 66 #[.pointer (some ⟨tb, 0, none⟩), .int .u32 (b : Nat)] (Sort.grow (redrawn W1 D) os) _ := fun D os => tree_first (h1.later (below_regrown W1 D os)) hl hS b
  have hF2 : ∀ D os, Calls Tryz.prog 66 #[.pointer (some ⟨tb, 0, none⟩), .int .u32 (endN ⟨d, b⟩ : Nat)] (Sort.grow (redrawn W1 D) os) _ := fun D os => tree_first (h1.later (below_regrown W1 D os)) hl hS (endN ⟨d, b⟩)
  rw [wth_length]
  have hmono := firstN_mono (endN_ge ⟨d, b⟩) S
  have hle := firstN_le (endN ⟨d, b⟩) S
  have HG : Hid (∀ k a, (wth S ⟨d, b⟩)[k]? = some a → S[firstN b S + k]? = some a) := fun k a => wth_get S ⟨d, b⟩
  have HL : Hid ((wth S ⟨d, b⟩).length = firstN (endN ⟨d, b⟩) S - firstN b S) := wth_length S ⟨d, b⟩
  obtain ⟨p, cap, rfl, hr, hcl, hcm⟩ := h1.row
  have HR : Hid (∀ W, Tr W base tb (.slice p S.length cap) S → RowG Sp.cs 2 W p S) := fun W hW => row_own Sp.z hW.own rfl
  have hnil : p = none ∧ S.length = 0 ∧ cap = 0 ∨ ∃ g, p = some ⟨g, 0, none⟩ := by
    rcases h1.own.2 with ⟨e1, e2⟩ | ⟨g, cap', cur, e1, _⟩
    · simp only [Value.slice.injEq] at e1
      exact .inl ⟨e1.1, e2, e1.2.2⟩
    · simp only [Value.slice.injEq] at e1
      exact .inr ⟨g, e1.1⟩
  obtain ⟨a, ha⟩ : ∃ a, firstN b S = a := ⟨_, rfl⟩
  obtain ⟨z, hz⟩ : ∃ z, firstN (endN ⟨d, b⟩) S = z := ⟨_, rfl⟩
  obtain ⟨en, hen⟩ : ∃ en, endN ⟨d, b⟩ = en := ⟨_, rfl⟩
  obtain ⟨n, hn⟩ : ∃ n, S.length = n := ⟨_, rfl⟩
  obtain ⟨T, hT⟩ : ∃ T, wth S ⟨d, b⟩ = T := ⟨_, rfl⟩
  simp only at hmono
  rw [hT] at HG HL ⊢
  rw [ha, hz] at HL
  rw [ha] at HG hF1 hmono
  rw [hz] at hmono hF2 hle
  rw [hen] at hF2 hE
  show Calls _ _ _ _ fun e w' => ∃ p cap, e = .returned (.slice p (firstN (endN ⟨d, b⟩) S - firstN b S : Nat) cap) ∧ _
  rw [ha, hz]
  rw [hn] at KT hcl hle hnil hl HR ⊢
  clear ha hz hen h h1 hS hr hT hn
  have hcm' : cap ≤ 9223372036854775807 := by unfold maxLen at hcm; omega
  have i1 : (a : Int) ≤ (z : Int) := by omega
  have i2 : (z : Int) ≤ (cap : Int) := by omega
  have i3 : a ≤ z := hmono
  have i4 : z ≤ cap := by omega
  have fin : ∀ (q : Option Addr) (c : Nat) (W : World), (T = [] ∨ ∃ g, p = some ⟨g, 0, none⟩ ∧ q = some ⟨g, a * 2, none⟩) → Tr W base tb (.slice p n cap) S → RowG Sp.cs 2 W q T := by
    intro q c W hq hBW
    rcases hq with hq | ⟨g, hp, hq⟩
    · exact .inl hq
    · by_cases h0 : T = []
      · exact .inl h0
      · right
        refine ⟨g, a * 2, hq, fun k t hk j u hu => ?_⟩
        obtain ⟨g', off, hp', hc⟩ := (HR.out W hBW).at (HG.out k t hk)
        rw [hp] at hp'
        simp only [Option.some.injEq, Addr.mk.injEq, and_true] at hp'
        obtain ⟨rfl, rfl⟩ := hp'
        have := hc j u hu
        rwa [show 0 + (a + k) * 2 + j = a * 2 + k * 2 + j by omega] at this
  have hnilT : Hid (a = z → T = []) := fun e => List.length_eq_zero_iff.1 (by rw [HL.out]; omega)
  have KT0 : ∀ D os, (Sort.grow (redrawn W1 D) os).cell? ⟨tb, 0, none⟩ = some (.slice p n cap) := fun D os => KT 0 D os
  clear HR HG HL KT
  rcases hnil with ⟨rfl, rfl, rfl⟩ | ⟨g, rfl⟩
  · obtain rfl : z = 0 := by omega
    obtain rfl : a = 0 := by omega
    have HT := hid (hnilT.out rfl)
    clear hnilT
    go_enter Tryz.func58, Tryz.ntmps58
    go_wp2_with fail
    rw [← hW1]; clear hW1
    refine wp_region_quiet_below (by kernel_rfl) (by kernel_rfl) ?_
    repeat (first | go_big_quiet_skip | (go_big_quiet_want; go_big_quiet_op; first | go_big_quiet_on | go_big_quiet_call (first | with_reducible exact Calls.regrown_of (hE _) | with_reducible exact Calls.regrown_of (hF1 _ _) | with_reducible exact Calls.regrown_of (hF2 _ _))))
    refine wpQuiet_nil ?_
    intro _ hw'
    obtain ⟨⟨dq, osq⟩, hw''⟩ := hw'
    subst hw''
    go_wp2
    go_ret
    exact ⟨_, _, rfl, fun W hW => fin none 0 _ (.inl HT.out) hW, below_on hB1 (below_regrown _ _ _)⟩
  · by_cases hca : cap = a
    · subst hca
      obtain rfl : z = cap := by omega
      have HT := hid (hnilT.out rfl)
      clear hnilT
      go_enter Tryz.func58, Tryz.ntmps58
      go_wp2_with fail
      rw [← hW1]; clear hW1
      refine wp_region_quiet_below (by kernel_rfl) (by kernel_rfl) ?_
      repeat (first | go_big_quiet_skip | (go_big_quiet_want; go_big_quiet_op; first | go_big_quiet_on | go_big_quiet_call (first | with_reducible exact Calls.regrown_of (hE _) | with_reducible exact Calls.regrown_of (hF1 _ _) | with_reducible exact Calls.regrown_of (hF2 _ _))))
      refine wpQuiet_nil ?_
      intro _ hw'
      obtain ⟨⟨dq, osq⟩, hw''⟩ := hw'
      subst hw''
      go_wp2
      go_ret
      exact ⟨some ⟨g, 0, none⟩, 0, by simp, fun W hW => fin _ 0 _ (.inl HT.out) hW, below_on hB1 (below_regrown _ _ _)⟩
    · go_enter Tryz.func58, Tryz.ntmps58
      go_wp2_with fail
      rw [← hW1]; clear hW1
      refine wp_region_quiet_below (by kernel_rfl) (by kernel_rfl) ?_
      repeat (first | go_big_quiet_skip | (go_big_quiet_want; go_big_quiet_op; first | go_big_quiet_on | go_big_quiet_call (first | with_reducible exact Calls.regrown_of (hE _) | with_reducible exact Calls.regrown_of (hF1 _ _) | with_reducible exact Calls.regrown_of (hF2 _ _))))
      refine wpQuiet_nil ?_
      intro _ hw'
      obtain ⟨⟨dq, osq⟩, hw''⟩ := hw'
      subst hw''
      go_wp2
      go_ret
      exact ⟨_, _, rfl, fun W hW => fin _ 0 _ (.inr ⟨g, rfl, rfl⟩) hW, below_on hB1 (below_regrown _ _ _)⟩
/-- whether a square is split -/
def splB (S : List Sp) (s : Sq) : Bool := decide (s.d < 4) && decide (4 < (wth S s).length)
theorem tree_splits {w : World} {base tb : Nat} {v : Value} {S : List Sp} (h : Tr w base tb v S) (hl : S.length ≤ 1000000) (hS : Rising S) (d b : Nat) (hd : d ≤ 4) (hb : b ≤ 100000) :
    Calls Tryz.prog 75 #[.pointer (some ⟨tb, 0, none⟩), .agg #[.int .i64 (d : Nat), .int .u32 (b : Nat)]] w fun e w' => e = .returned (.bool (splB S ⟨d, b⟩)) ∧ Below w.heap.size w w' := by
  obtain ⟨W1, hW1⟩ : ∃ W1, W1 = w.alloc (.cells #[.int .i64 (d : Nat), .int .u32 (b : Nat)] 96) := ⟨_, rfl⟩
  have hB1 : Below w.heap.size w W1 := by rw [hW1]; exact below1 _ _
  have hcon := tree_within (h.later hB1) hl hS d b hd hb
  have hle : (wth S ⟨d, b⟩).length ≤ 1000000 := by
    unfold wth
    rw [List.length_take, List.length_drop]; omega
  have hres : splB S ⟨d, b⟩ = (decide (d < 4) && decide (4 < (wth S ⟨d, b⟩).length)) := rfl
  rw [hres]
  obtain ⟨T, hT⟩ : ∃ T, wth S ⟨d, b⟩ = T := ⟨_, rfl⟩
  rw [hT] at hcon hle ⊢
  obtain ⟨n, hn⟩ : ∃ n, T.length = n := ⟨_, rfl⟩
  rw [hn] at hcon hle ⊢
  clear hT hn hres
  rw [hW1] at hcon hB1
  clear hW1 W1
  by_cases h4 : d < 4
  · have h4' : (d : Int) < 4 := by omega
    have h4'' : decide (d < 4) = true := by simpa using h4
    rw [h4'']
    clear h4''
    go_enter Tryz.func75, Tryz.ntmps75
    go_wp2_with fail
    refine hcon.mono ?_
    rintro x w2 ⟨p, cap, rfl, hr, hb2⟩
    go_wp2
    go_ret
    exact ⟨congrArg (fun x => Ending.returned (.bool x)) (show decide (4 < (n : Int)) = (true && decide (4 < n)) by rw [Bool.eq_iff_iff]; simp; omega), below_on hB1 hb2⟩
  · have h4' : ¬ (d : Int) < 4 := by omega
    have h4'' : decide (d < 4) = false := by simpa using h4
    rw [h4'']
    clear h4''
    go_enter Tryz.func75, Tryz.ntmps75
    go_wp2
    go_ret
    exact ⟨rfl, hB1⟩
end Go.Proofs.YtildhbkcpehobaaGreatDoor
