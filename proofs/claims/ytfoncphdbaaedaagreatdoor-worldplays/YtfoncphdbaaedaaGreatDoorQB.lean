/- Contracts of within, splits and quarters over this translation: each returns what the plain functions say, and changes nothing that was there. Contract of quarters over this translation: it returns the four parts of a square, and changes nothing that was there. Plain facts on the walk over squares: which squares it finds, with a stack or by parts. No conditions beyond those typed. Contract of leaves over this translation: the walk with a stack finds the squares that the plain function says; nothing that was there is changed. -/
import Derived.Test.YtfoncphdbaaedaaGreatDoorQA
import Derived.LoopN
import Derived.WalkMore
import Derived.Deep.RegionLaw
namespace Go.Proofs.YtfoncphdbaaedaaGreatDoor
section
open Go.RowKit
set_option linter.unusedVariables false
/-- those of a square: one run of the row -/
def wth (S : List Sp) (s : Sq) : List Sp := (S.drop (firstN s.b S)).take (firstN (endN s) S - firstN s.b S)
theorem firstN_mono {c c' : Nat} (h : c ≤ c') (S : List Sp) : firstN c S ≤ firstN c' S := by
  unfold firstN
  apply List.countP_mono_left
  intro a _ ha
  simp at ha ⊢
  omega
theorem endN_ge (s : Sq) : s.b ≤ endN s := by unfold endN; omega
theorem wth_length (S : List Sp) (s : Sq) : (wth S s).length = firstN (endN s) S - firstN s.b S := by
  unfold wth
  have h1 := firstN_mono (endN_ge s) S
  have h2 := firstN_le (endN s) S
  rw [List.length_take, List.length_drop]
  omega
theorem wth_get (S : List Sp) (s : Sq) {k : Nat} {a : Sp} (h : (wth S s)[k]? = some a) : S[firstN s.b S + k]? = some a := by
  unfold wth at h
  rw [List.getElem?_take] at h
  split at h
  · rwa [List.getElem?_drop] at h
  · cases h
set_option maxHeartbeats 1000000 in
theorem tree_within {w : World} {base tb : Nat} {v : Value} {S : List Sp} (h : Tr w base tb v S) (hl : S.length ≤ 1000000) (hS : Rising S) (d b : Nat) (hd : d ≤ 4) (hb : b ≤ 100000) :
    Calls Tryz.prog 61 #[.pointer (some ⟨tb, 0, none⟩), .agg #[.int .i64 (d : Nat), .int .u32 (b : Nat)]] w fun e w' => ∃ p cap, e = .returned (.slice p (wth S ⟨d, b⟩).length cap) ∧ (∀ W, Tr W base tb v S → RowG Sp.cs 2 W p (wth S ⟨d, b⟩)) ∧ Below w.heap.size w w' := by
  obtain ⟨W1, hW1⟩ : ∃ W1, W1 = w.alloc (.cells #[.int .i64 (d : Nat), .int .u32 (b : Nat)] 108) := ⟨_, rfl⟩
  have hB1 : Below w.heap.size w W1 := by rw [hW1]; exact below1 _ _
  have h1 := h.later hB1
  have KB := grown_cells (show W1.heap[w.heap.size]? = some (.cells #[.int .i64 (d : Nat), .int .u32 (b : Nat)] 108 (0, 0)) by rw [hW1]; exact new_at _ _ _ rfl)
  have KT := grown_cells h1.at_
  have hE := fun w => sq_end d b w hd hb
  have hF1 : ∀ D os, Calls Tryz.prog 79 #[.pointer (some ⟨tb, 0, none⟩), .int .u32 (b : Nat)] (Sort.grow (redrawn W1 D) os) _ := fun D os => tree_first (h1.later (below_regrown W1 D os)) hl hS b
  have hF2 : ∀ D os, Calls Tryz.prog 79 #[.pointer (some ⟨tb, 0, none⟩), .int .u32 (endN ⟨d, b⟩ : Nat)] (Sort.grow (redrawn W1 D) os) _ := fun D os => tree_first (h1.later (below_regrown W1 D os)) hl hS (endN ⟨d, b⟩)
  rw [wth_length]
  have hmono := firstN_mono (endN_ge ⟨d, b⟩) S
  have hle := firstN_le (endN ⟨d, b⟩) S
  have HG : Hid (∀ k a, (wth S ⟨d, b⟩)[k]? = some a → S[firstN b S + k]? = some a) := fun k a => wth_get S ⟨d, b⟩
  have HL : Hid ((wth S ⟨d, b⟩).length = firstN (endN ⟨d, b⟩) S - firstN b S) := wth_length S ⟨d, b⟩
  obtain ⟨p, cap, rfl, hr, hcl, hcm⟩ := h1.row
  have HR : Hid (∀ W, Tr W base tb (.slice p S.length cap) S → RowG Sp.cs 2 W p S) := fun W hW => row_own Sp.z hW.own rfl
  have hnil : p = none ∧ S.length = 0 ∧ cap = 0 ∨ ∃ g, p = some ⟨g, 0, none⟩ := by
    rcases h1.own.2 with ⟨e1, e2⟩ | ⟨g, cap', cur, e1, _⟩
    · simp only [Value.slice.injEq] at e1
      exact .inl ⟨e1.1, e2, e1.2.2⟩
    · simp only [Value.slice.injEq] at e1
      exact .inr ⟨g, e1.1⟩
  obtain ⟨a, ha⟩ : ∃ a, firstN b S = a := ⟨_, rfl⟩
  obtain ⟨z, hz⟩ : ∃ z, firstN (endN ⟨d, b⟩) S = z := ⟨_, rfl⟩
  obtain ⟨en, hen⟩ : ∃ en, endN ⟨d, b⟩ = en := ⟨_, rfl⟩
  obtain ⟨n, hn⟩ : ∃ n, S.length = n := ⟨_, rfl⟩
  obtain ⟨T, hT⟩ : ∃ T, wth S ⟨d, b⟩ = T := ⟨_, rfl⟩
  simp only at hmono
  rw [hT] at HG HL ⊢
  rw [ha, hz] at HL
  rw [ha] at HG hF1 hmono
  rw [hz] at hmono hF2 hle
  rw [hen] at hF2 hE
  show Calls _ _ _ _ fun e w' => ∃ p cap, e = .returned (.slice p (firstN (endN ⟨d, b⟩) S - firstN b S : Nat) cap) ∧ _
  rw [ha, hz]
  rw [hn] at KT hcl hle hnil hl HR ⊢
  clear ha hz hen h h1 hS hr hT hn
  have hcm' : cap ≤ 9223372036854775807 := by unfold maxLen at hcm; omega
  have i1 : (a : Int) ≤ (z : Int) := by omega
  have i2 : (z : Int) ≤ (cap : Int) := by omega
  have i3 : a ≤ z := hmono
  have i4 : z ≤ cap := by omega
  have fin : ∀ (q : Option Addr) (c : Nat) (W : World), (T = [] ∨ ∃ g, p = some ⟨g, 0, none⟩ ∧ q = some ⟨g, a * 2, none⟩) → Tr W base tb (.slice p n cap) S → RowG Sp.cs 2 W q T := by
    intro q c W hq hBW
    rcases hq with hq | ⟨g, hp, hq⟩
    · exact .inl hq
    · by_cases h0 : T = []
      · exact .inl h0
      · right
        refine ⟨g, a * 2, hq, fun k t hk j u hu => ?_⟩
        obtain ⟨g', off, hp', hc⟩ := (HR.out W hBW).at (HG.out k t hk)
        rw [hp] at hp'
        simp only [Option.some.injEq, Addr.mk.injEq, and_true] at hp'
        obtain ⟨rfl, rfl⟩ := hp'
        have := hc j u hu
        rwa [show 0 + (a + k) * 2 + j = a * 2 + k * 2 + j by omega] at this
  have hnilT : Hid (a = z → T = []) := fun e => List.length_eq_zero_iff.1 (by rw [HL.out]; omega)
  have KT0 : ∀ D os, (Sort.grow (redrawn W1 D) os).cell? ⟨tb, 0, none⟩ = some (.slice p n cap) := fun D os => KT 0 D os
  clear HR HG HL KT
  rcases hnil with ⟨rfl, rfl, rfl⟩ | ⟨g, rfl⟩
  · obtain rfl : z = 0 := by omega
    obtain rfl : a = 0 := by omega
    have HT := hid (hnilT.out rfl)
    clear hnilT
    go_enter Tryz.func61, Tryz.ntmps61
    go_wp2_with fail
    rw [← hW1]; clear hW1
    refine wp_region_quiet_below (by kernel_rfl) (by kernel_rfl) ?_
    repeat (first | go_big_quiet_skip | (go_big_quiet_want; go_big_quiet_op; first | go_big_quiet_on | go_big_quiet_call (first | with_reducible exact Calls.regrown_of (hE _) | with_reducible exact Calls.regrown_of (hF1 _ _) | with_reducible exact Calls.regrown_of (hF2 _ _))))
    refine wpQuiet_nil ?_
    intro _ hw'
    obtain ⟨⟨dq, osq⟩, hw''⟩ := hw'
    subst hw''
    go_wp2
    go_ret
    exact ⟨_, _, rfl, fun W hW => fin none 0 _ (.inl HT.out) hW, below_on hB1 (below_regrown _ _ _)⟩
  · by_cases hca : cap = a
    · subst hca
      obtain rfl : z = cap := by omega
      have HT := hid (hnilT.out rfl)
      clear hnilT
      go_enter Tryz.func61, Tryz.ntmps61
      go_wp2_with fail
      rw [← hW1]; clear hW1
      refine wp_region_quiet_below (by kernel_rfl) (by kernel_rfl) ?_
      repeat (first | go_big_quiet_skip | (go_big_quiet_want; go_big_quiet_op; first | go_big_quiet_on | go_big_quiet_call (first | with_reducible exact Calls.regrown_of (hE _) | with_reducible exact Calls.regrown_of (hF1 _ _) | with_reducible exact Calls.regrown_of (hF2 _ _))))
      refine wpQuiet_nil ?_
      intro _ hw'
      obtain ⟨⟨dq, osq⟩, hw''⟩ := hw'
      subst hw''
      go_wp2
      go_ret
      exact ⟨some ⟨g, 0, none⟩, 0, by simp, fun W hW => fin _ 0 _ (.inl HT.out) hW, below_on hB1 (below_regrown _ _ _)⟩
    · go_enter Tryz.func61, Tryz.ntmps61
      go_wp2_with fail
      rw [← hW1]; clear hW1
      refine wp_region_quiet_below (by kernel_rfl) (by kernel_rfl) ?_
      repeat (first | go_big_quiet_skip | (go_big_quiet_want; go_big_quiet_op; first | go_big_quiet_on | go_big_quiet_call (first | with_reducible exact Calls.regrown_of (hE _) | with_reducible exact Calls.regrown_of (hF1 _ _) | with_reducible exact Calls.regrown_of (hF2 _ _))))
      refine wpQuiet_nil ?_
      intro _ hw'
      obtain ⟨⟨dq, osq⟩, hw''⟩ := hw'
      subst hw''
      go_wp2
      go_ret
      exact ⟨_, _, rfl, fun W hW => fin _ 0 _ (.inr ⟨g, rfl, rfl⟩) hW, below_on hB1 (below_regrown _ _ _)⟩
/-- whether a square is split -/
def splB (S : List Sp) (s : Sq) : Bool := decide (s.d < 4) && decide (4 < (wth S s).length)
theorem tree_splits {w : World} {base tb : Nat} {v : Value} {S : List Sp} (h : Tr w base tb v S) (hl : S.length ≤ 1000000) (hS : Rising S) (d b : Nat) (hd : d ≤ 4) (hb : b ≤ 100000) :
    Calls Tryz.prog 77 #[.pointer (some ⟨tb, 0, none⟩), .agg #[.int .i64 (d : Nat), .int .u32 (b : Nat)]] w fun e w' => e = .returned (.bool (splB S ⟨d, b⟩)) ∧ Below w.heap.size w w' := by
  obtain ⟨W1, hW1⟩ : ∃ W1, W1 = w.alloc (.cells #[.int .i64 (d : Nat), .int .u32 (b : Nat)] 108) := ⟨_, rfl⟩
  have hB1 : Below w.heap.size w W1 := by rw [hW1]; exact below1 _ _
  have hcon := tree_within (h.later hB1) hl hS d b hd hb
  have hle : (wth S ⟨d, b⟩).length ≤ 1000000 := by
    unfold wth
    rw [List.length_take, List.length_drop]; omega
  have hres : splB S ⟨d, b⟩ = (decide (d < 4) && decide (4 < (wth S ⟨d, b⟩).length)) := rfl
  rw [hres]
  obtain ⟨T, hT⟩ : ∃ T, wth S ⟨d, b⟩ = T := ⟨_, rfl⟩
  rw [hT] at hcon hle ⊢
  obtain ⟨n, hn⟩ : ∃ n, T.length = n := ⟨_, rfl⟩
  rw [hn] at hcon hle ⊢
  clear hT hn hres
  rw [hW1] at hcon hB1
  clear hW1 W1
  by_cases h4 : d < 4
  · have h4' : (d : Int) < 4 := by omega
    have h4'' : decide (d < 4) = true := by simpa using h4
    rw [h4'']
    clear h4''
    go_enter Tryz.func77, Tryz.ntmps77
    go_wp2_with fail
    refine hcon.mono ?_
    rintro x w2 ⟨p, cap, rfl, hr, hb2⟩
    go_wp2
    go_ret
    exact ⟨congrArg (fun x => Ending.returned (.bool x)) (show decide (4 < (n : Int)) = (true && decide (4 < n)) by rw [Bool.eq_iff_iff]; simp; omega), below_on hB1 hb2⟩
  · have h4' : ¬ (d : Int) < 4 := by omega
    have h4'' : decide (d < 4) = false := by simpa using h4
    rw [h4'']
    clear h4''
    go_enter Tryz.func77, Tryz.ntmps77
    go_wp2
    go_ret
    exact ⟨rfl, hB1⟩
end
section
open Go.RowKit
set_option linter.unusedVariables false
/-- how many codes a part has -/
def qN (d : Nat) : Nat := sideN (d + 1) * sideN (d + 1)
def partQ (s : Sq) (i : Nat) : Sq := ⟨s.d + 1, s.b + i * qN s.d⟩
def qC (s : Sq) (k i : Nat) : List Value := if i < k then (partQ s i).cs else [.int .i64 0, .int .u32 0]
def fourK (s : Sq) (k : Nat) : Array Value := (qC s k 0 ++ qC s k 1 ++ qC s k 2 ++ qC s k 3).toArray
def fourV (s : Sq) : Value := .agg #[.int .i64 ((partQ s 0).d : Nat), .int .u32 ((partQ s 0).b : Nat), .int .i64 ((partQ s 1).d : Nat), .int .u32 ((partQ s 1).b : Nat), .int .i64 ((partQ s 2).d : Nat), .int .u32 ((partQ s 2).b : Nat), .int .i64 ((partQ s 3).d : Nat), .int .u32 ((partQ s 3).b : Nat)]
theorem end_part (s : Sq) (i : Nat) : endN (partQ s i) = (partQ s (i + 1)).b := by
  unfold endN partQ qN
  simp only
  rw [Nat.succ_mul]; omega
theorem qN_le (d : Nat) : qN d ≤ 4096 := by
  have : sideN (d + 1) ≤ 64 := Nat.div_le_self _ _
  exact Nat.mul_le_mul this this
abbrev cells8 (a0 a1 a2 a3 a4 a5 a6 a7 : Value) : Array Value := #[a0, a1, a2, a3, a4, a5, a6, a7]
set_option maxHeartbeats 2000000 in
theorem sq_quarters (d b : Nat) (w : World) (hd : d ≤ 3) (hb : b ≤ 4096) : Calls Tryz.prog 78 #[.agg #[.int .i64 (d : Nat), .int .u32 (b : Nat)]] w fun e w' => e = .returned (fourV ⟨d, b⟩) ∧ Below w.heap.size w w' := by
  have hqle := qN_le d
  obtain ⟨D, hD⟩ : ∃ D : Nat, D = d + 1 := ⟨_, rfl⟩
  have hDz : ((d : Int) + 1) = (D : Int) := by omega
  obtain ⟨b1, hb1⟩ : ∃ b1 : Nat, (partQ ⟨d, b⟩ 1).b = b1 := ⟨_, rfl⟩
  obtain ⟨b2, hb2⟩ : ∃ b2 : Nat, (partQ ⟨d, b⟩ 2).b = b2 := ⟨_, rfl⟩
  obtain ⟨b3, hb3⟩ : ∃ b3 : Nat, (partQ ⟨d, b⟩ 3).b = b3 := ⟨_, rfl⟩
  obtain ⟨b4, hb4⟩ : ∃ b4 : Nat, (partQ ⟨d, b⟩ 4).b = b4 := ⟨_, rfl⟩
  have hb0 : (partQ ⟨d, b⟩ 0).b = b := by unfold partQ; simp
  have l1 : b1 ≤ 100000 := by rw [← hb1]; unfold partQ; simp only; omega
  have l2 : b2 ≤ 100000 := by rw [← hb2]; unfold partQ; simp only; omega
  have l3 : b3 ≤ 100000 := by rw [← hb3]; unfold partQ; simp only; omega
  have E0 : ∀ w, Calls Tryz.prog 80 #[.agg #[.int .i64 (D : Nat), .int .u32 (b : Nat)]] w fun e w' => e = .returned (.int .u32 (b1 : Nat)) ∧ Below w.heap.size w w' := fun w => by
    have := sq_end D b w (by omega) (by omega)
    rw [show endN ⟨D, b⟩ = b1 by rw [hD, ← hb1, ← end_part ⟨d, b⟩ 0]; unfold partQ; simp] at this
    exact this
  have E1 : ∀ w, Calls Tryz.prog 80 #[.agg #[.int .i64 (D : Nat), .int .u32 (b1 : Nat)]] w fun e w' => e = .returned (.int .u32 (b2 : Nat)) ∧ Below w.heap.size w w' := fun w => by
    have := sq_end D b1 w (by omega) l1
    rw [show endN ⟨D, b1⟩ = b2 by rw [hD, ← hb2, ← end_part ⟨d, b⟩ 1, ← hb1]; unfold partQ; simp] at this
    exact this
  have E2 : ∀ w, Calls Tryz.prog 80 #[.agg #[.int .i64 (D : Nat), .int .u32 (b2 : Nat)]] w fun e w' => e = .returned (.int .u32 (b3 : Nat)) ∧ Below w.heap.size w w' := fun w => by
    have := sq_end D b2 w (by omega) l2
    rw [show endN ⟨D, b2⟩ = b3 by rw [hD, ← hb3, ← end_part ⟨d, b⟩ 2, ← hb2]; unfold partQ; simp] at this
    exact this
  have E3 : ∀ w, Calls Tryz.prog 80 #[.agg #[.int .i64 (D : Nat), .int .u32 (b3 : Nat)]] w fun e w' => e = .returned (.int .u32 (b4 : Nat)) ∧ Below w.heap.size w w' := fun w => by
    have := sq_end D b3 w (by omega) l3
    rw [show endN ⟨D, b3⟩ = b4 by rw [hD, ← hb4, ← end_part ⟨d, b⟩ 3, ← hb3]; unfold partQ; simp] at this
    exact this
  have hres : fourV ⟨d, b⟩ = .agg #[.int .i64 (D : Nat), .int .u32 (b : Nat), .int .i64 (D : Nat), .int .u32 (b1 : Nat), .int .i64 (D : Nat), .int .u32 (b2 : Nat), .int .i64 (D : Nat), .int .u32 (b3 : Nat)] := by
    unfold fourV
    rw [hb0, hb1, hb2, hb3, hD]; rfl
  rw [hres]
  clear hres hb0 hb1 hb2 hb3 hb4 l1 l2 l3 hqle hD
  obtain ⟨Z, hZ⟩ : ∃ Z : Array Value, Z = cells8 (.int .i64 0) (.int .u32 0) (.int .i64 0) (.int .u32 0) (.int .i64 0) (.int .u32 0) (.int .i64 0) (.int .u32 0) := ⟨_, rfl⟩
  obtain ⟨W0, hW0⟩ : ∃ W0, W0 = (((w.alloc (.cells #[.int .i64 (d : Nat), .int .u32 (b : Nat)] 108)).alloc (.cells Z 129)).alloc (.cells Z 129)).alloc (.cells #[.int .i64 (D : Nat), .int .u32 (b : Nat)] 108) := ⟨_, rfl⟩
  have hB0 : Below w.heap.size w W0 := by rw [hW0]; exact below_on (below_on (below_on (below1 _ _) (below1 _ _)) (below1 _ _)) (below1 _ _)
  have k2 := hid (show W0.heap[w.heap.size + 1]? = some (.cells Z 129 (0, 0)) by rw [hW0]; exact old_at (old_at (new_at _ _ _ (by simp)) _) _)
  have k3 := hid (show W0.heap[w.heap.size + 1 + 1]? = some (.cells Z 129 (0, 0)) by rw [hW0]; exact old_at (new_at _ _ _ (by simp)) _)
  have k4 := hid (show W0.heap[w.heap.size + 1 + 1 + 1]? = some (.cells #[.int .i64 (D : Nat), .int .u32 (b : Nat)] 108 (0, 0)) by rw [hW0]; exact new_at _ _ _ (by simp))
  rw [hZ] at hW0 k2 k3
  clear hZ
  go_enter Tryz.func78, Tryz.ntmps78
  go_wp2_with fail
  rw [← hW0]
  clear hW0
  refine wp_loop_rounds 5 ?_
  rw [rounds_succ]
  have c3 := cells_at k3.out
  have c4 := cells_at k4.out
  go_wp2_with fail
  have k3' := hid (set_at (set_at k3.out (i := 0) (.int .i64 (D : Nat)) (cs' := cells8 (.int .i64 (D : Nat)) (.int .u32 0) (.int .i64 0) (.int .u32 0) (.int .i64 0) (.int .u32 0) (.int .i64 0) (.int .u32 0)) rfl) (i := 1) (.int .u32 (b : Nat)) (cs' := cells8 (.int .i64 (D : Nat)) (.int .u32 (b : Nat)) (.int .i64 0) (.int .u32 0) (.int .i64 0) (.int .u32 0) (.int .i64 0) (.int .u32 0)) rfl)
  have k2' := hid (set_off (set_off k2.out (b := w.heap.size + 1 + 1) (i := 0) (by omega) (.int .i64 (D : Nat))) (b := w.heap.size + 1 + 1) (i := 1) (by omega) (.int .u32 (b : Nat)))
  have k4' := hid (set_off (set_off k4.out (b := w.heap.size + 1 + 1) (i := 0) (by omega) (.int .i64 (D : Nat))) (b := w.heap.size + 1 + 1) (i := 1) (by omega) (.int .u32 (b : Nat)))
  have hBs : Below w.heap.size w _ := (hB0.setCell (p := ⟨w.heap.size + 1 + 1, 0, none⟩) (by simp; omega) (.int .i64 (D : Nat))).setCell (p := ⟨w.heap.size + 1 + 1, 1, none⟩) (by simp; omega) (.int .u32 (b : Nat))
  clear k2 k3 k4 hB0 c3 c4
  refine (E0 _).mono ?_
  rintro x w1 ⟨rfl, hbe⟩
  have k2 := hid (var_on hbe k2'.out (lt_of_at k2'.out))
  have k3 := hid (var_on hbe k3'.out (lt_of_at k3'.out))
  have k4 := hid (var_on hbe k4'.out (lt_of_at k4'.out))
  have hB0 := below_on hBs hbe
  clear k2' k3' k4' hBs hbe
  rename World => W1
  have c4 := cells_at k4.out
  go_wp2_with fail
  have k3' := hid (set_off k3.out (b := w.heap.size + 1 + 1 + 1) (i := 1) (by omega) (.int .u32 (b1 : Nat)))
  have k2' := hid (set_off k2.out (b := w.heap.size + 1 + 1 + 1) (i := 1) (by omega) (.int .u32 (b1 : Nat)))
  have k4' := hid (set_at k4.out (i := 1) (.int .u32 (b1 : Nat)) (cs' := #[.int .i64 (D : Nat), .int .u32 (b1 : Nat)]) rfl)
  replace hB0 : Below w.heap.size w _ := hB0.setCell (p := ⟨w.heap.size + 1 + 1 + 1, 1, none⟩) (by simp; omega) (.int .u32 (b1 : Nat))
  clear k2 k3 k4 c4
  generalize W1.setCell ⟨w.heap.size + 1 + 1 + 1, 1, none⟩ (.int .u32 (b1 : Nat)) = W2 at k2' k3' k4' hB0 ⊢
  have k2 := k2'
  have k3 := k3'
  have k4 := k4'
  clear k2' k3' k4' W1
  rw [rounds_succ]
  have c3 := cells_at k3.out
  have c4 := cells_at k4.out
  go_wp2_with fail
  have k3' := hid (set_at (set_at k3.out (i := 2) (.int .i64 (D : Nat)) (cs' := cells8 (.int .i64 (D : Nat)) (.int .u32 (b : Nat)) (.int .i64 (D : Nat)) (.int .u32 0) (.int .i64 0) (.int .u32 0) (.int .i64 0) (.int .u32 0)) rfl) (i := 3) (.int .u32 (b1 : Nat)) (cs' := cells8 (.int .i64 (D : Nat)) (.int .u32 (b : Nat)) (.int .i64 (D : Nat)) (.int .u32 (b1 : Nat)) (.int .i64 0) (.int .u32 0) (.int .i64 0) (.int .u32 0)) rfl)
  have k2' := hid (set_off (set_off k2.out (b := w.heap.size + 1 + 1) (i := 2) (by omega) (.int .i64 (D : Nat))) (b := w.heap.size + 1 + 1) (i := 3) (by omega) (.int .u32 (b1 : Nat)))
  have k4' := hid (set_off (set_off k4.out (b := w.heap.size + 1 + 1) (i := 2) (by omega) (.int .i64 (D : Nat))) (b := w.heap.size + 1 + 1) (i := 3) (by omega) (.int .u32 (b1 : Nat)))
  have hBs : Below w.heap.size w _ := (hB0.setCell (p := ⟨w.heap.size + 1 + 1, 2, none⟩) (by simp; omega) (.int .i64 (D : Nat))).setCell (p := ⟨w.heap.size + 1 + 1, 3, none⟩) (by simp; omega) (.int .u32 (b1 : Nat))
  clear k2 k3 k4 hB0 c3 c4
  refine (E1 _).mono ?_
  rintro x w1 ⟨rfl, hbe⟩
  have k2 := hid (var_on hbe k2'.out (lt_of_at k2'.out))
  have k3 := hid (var_on hbe k3'.out (lt_of_at k3'.out))
  have k4 := hid (var_on hbe k4'.out (lt_of_at k4'.out))
  have hB0 := below_on hBs hbe
  clear k2' k3' k4' hBs hbe
  rename World => W1
  have c4 := cells_at k4.out
  go_wp2_with fail
  have k3' := hid (set_off k3.out (b := w.heap.size + 1 + 1 + 1) (i := 1) (by omega) (.int .u32 (b2 : Nat)))
  have k2' := hid (set_off k2.out (b := w.heap.size + 1 + 1 + 1) (i := 1) (by omega) (.int .u32 (b2 : Nat)))
  have k4' := hid (set_at k4.out (i := 1) (.int .u32 (b2 : Nat)) (cs' := #[.int .i64 (D : Nat), .int .u32 (b2 : Nat)]) rfl)
  replace hB0 : Below w.heap.size w _ := hB0.setCell (p := ⟨w.heap.size + 1 + 1 + 1, 1, none⟩) (by simp; omega) (.int .u32 (b2 : Nat))
  clear k2 k3 k4 c4
  generalize W1.setCell ⟨w.heap.size + 1 + 1 + 1, 1, none⟩ (.int .u32 (b2 : Nat)) = W2 at k2' k3' k4' hB0 ⊢
  have k2 := k2'
  have k3 := k3'
  have k4 := k4'
  clear k2' k3' k4' W1
  rw [rounds_succ]
  have c3 := cells_at k3.out
  have c4 := cells_at k4.out
  go_wp2_with fail
  have k3' := hid (set_at (set_at k3.out (i := 4) (.int .i64 (D : Nat)) (cs' := cells8 (.int .i64 (D : Nat)) (.int .u32 (b : Nat)) (.int .i64 (D : Nat)) (.int .u32 (b1 : Nat)) (.int .i64 (D : Nat)) (.int .u32 0) (.int .i64 0) (.int .u32 0)) rfl) (i := 5) (.int .u32 (b2 : Nat)) (cs' := cells8 (.int .i64 (D : Nat)) (.int .u32 (b : Nat)) (.int .i64 (D : Nat)) (.int .u32 (b1 : Nat)) (.int .i64 (D : Nat)) (.int .u32 (b2 : Nat)) (.int .i64 0) (.int .u32 0)) rfl)
  have k2' := hid (set_off (set_off k2.out (b := w.heap.size + 1 + 1) (i := 4) (by omega) (.int .i64 (D : Nat))) (b := w.heap.size + 1 + 1) (i := 5) (by omega) (.int .u32 (b2 : Nat)))
  have k4' := hid (set_off (set_off k4.out (b := w.heap.size + 1 + 1) (i := 4) (by omega) (.int .i64 (D : Nat))) (b := w.heap.size + 1 + 1) (i := 5) (by omega) (.int .u32 (b2 : Nat)))
  have hBs : Below w.heap.size w _ := (hB0.setCell (p := ⟨w.heap.size + 1 + 1, 4, none⟩) (by simp; omega) (.int .i64 (D : Nat))).setCell (p := ⟨w.heap.size + 1 + 1, 5, none⟩) (by simp; omega) (.int .u32 (b2 : Nat))
  clear k2 k3 k4 hB0 c3 c4
  refine (E2 _).mono ?_
  rintro x w1 ⟨rfl, hbe⟩
  have k2 := hid (var_on hbe k2'.out (lt_of_at k2'.out))
  have k3 := hid (var_on hbe k3'.out (lt_of_at k3'.out))
  have k4 := hid (var_on hbe k4'.out (lt_of_at k4'.out))
  have hB0 := below_on hBs hbe
  clear k2' k3' k4' hBs hbe
  rename World => W1
  have c4 := cells_at k4.out
  go_wp2_with fail
  have k3' := hid (set_off k3.out (b := w.heap.size + 1 + 1 + 1) (i := 1) (by omega) (.int .u32 (b3 : Nat)))
  have k2' := hid (set_off k2.out (b := w.heap.size + 1 + 1 + 1) (i := 1) (by omega) (.int .u32 (b3 : Nat)))
  have k4' := hid (set_at k4.out (i := 1) (.int .u32 (b3 : Nat)) (cs' := #[.int .i64 (D : Nat), .int .u32 (b3 : Nat)]) rfl)
  replace hB0 : Below w.heap.size w _ := hB0.setCell (p := ⟨w.heap.size + 1 + 1 + 1, 1, none⟩) (by simp; omega) (.int .u32 (b3 : Nat))
  clear k2 k3 k4 c4
  generalize W1.setCell ⟨w.heap.size + 1 + 1 + 1, 1, none⟩ (.int .u32 (b3 : Nat)) = W2 at k2' k3' k4' hB0 ⊢
  have k2 := k2'
  have k3 := k3'
  have k4 := k4'
  clear k2' k3' k4' W1
  rw [rounds_succ]
  have c3 := cells_at k3.out
  have c4 := cells_at k4.out
  go_wp2_with fail
  have k3' := hid (set_at (set_at k3.out (i := 6) (.int .i64 (D : Nat)) (cs' := cells8 (.int .i64 (D : Nat)) (.int .u32 (b : Nat)) (.int .i64 (D : Nat)) (.int .u32 (b1 : Nat)) (.int .i64 (D : Nat)) (.int .u32 (b2 : Nat)) (.int .i64 (D : Nat)) (.int .u32 0)) rfl) (i := 7) (.int .u32 (b3 : Nat)) (cs' := cells8 (.int .i64 (D : Nat)) (.int .u32 (b : Nat)) (.int .i64 (D : Nat)) (.int .u32 (b1 : Nat)) (.int .i64 (D : Nat)) (.int .u32 (b2 : Nat)) (.int .i64 (D : Nat)) (.int .u32 (b3 : Nat))) rfl)
  have k2' := hid (set_off (set_off k2.out (b := w.heap.size + 1 + 1) (i := 6) (by omega) (.int .i64 (D : Nat))) (b := w.heap.size + 1 + 1) (i := 7) (by omega) (.int .u32 (b3 : Nat)))
  have k4' := hid (set_off (set_off k4.out (b := w.heap.size + 1 + 1) (i := 6) (by omega) (.int .i64 (D : Nat))) (b := w.heap.size + 1 + 1) (i := 7) (by omega) (.int .u32 (b3 : Nat)))
  have hBs : Below w.heap.size w _ := (hB0.setCell (p := ⟨w.heap.size + 1 + 1, 6, none⟩) (by simp; omega) (.int .i64 (D : Nat))).setCell (p := ⟨w.heap.size + 1 + 1, 7, none⟩) (by simp; omega) (.int .u32 (b3 : Nat))
  clear k2 k3 k4 hB0 c3 c4
  refine (E3 _).mono ?_
  rintro x w1 ⟨rfl, hbe⟩
  have k2 := hid (var_on hbe k2'.out (lt_of_at k2'.out))
  have k3 := hid (var_on hbe k3'.out (lt_of_at k3'.out))
  have k4 := hid (var_on hbe k4'.out (lt_of_at k4'.out))
  have hB0 := below_on hBs hbe
  clear k2' k3' k4' hBs hbe
  rename World => W1
  have c4 := cells_at k4.out
  go_wp2_with fail
  have k3' := hid (set_off k3.out (b := w.heap.size + 1 + 1 + 1) (i := 1) (by omega) (.int .u32 (b4 : Nat)))
  have k2' := hid (set_off k2.out (b := w.heap.size + 1 + 1 + 1) (i := 1) (by omega) (.int .u32 (b4 : Nat)))
  have k4' := hid (set_at k4.out (i := 1) (.int .u32 (b4 : Nat)) (cs' := #[.int .i64 (D : Nat), .int .u32 (b4 : Nat)]) rfl)
  replace hB0 : Below w.heap.size w _ := hB0.setCell (p := ⟨w.heap.size + 1 + 1 + 1, 1, none⟩) (by simp; omega) (.int .u32 (b4 : Nat))
  clear k2 k3 k4 c4
  generalize W1.setCell ⟨w.heap.size + 1 + 1 + 1, 1, none⟩ (.int .u32 (b4 : Nat)) = W2 at k2' k3' k4' hB0 ⊢
  have k2 := k2'
  have k3 := k3'
  have k4 := k4'
  clear k2' k3' k4' W1
  rw [rounds_succ]
  have c3 := cells_at k3.out
  have c2 := cells_at k2.out
  go_wp2
  exact bodyPost_ret (v := .agg #[.int .i64 (D : Nat), .int .u32 (b : Nat), .int .i64 (D : Nat), .int .u32 (b1 : Nat), .int .i64 (D : Nat), .int .u32 (b2 : Nat), .int .i64 (D : Nat), .int .u32 (b3 : Nat)]) (by simp [results, Tryz.results78, go_sem, c2]) rfl ⟨rfl, ((((((((hB0).setCell (by simp) _).setCell (by simp) _).setCell (by simp) _).setCell (by simp) _).setCell (by simp) _).setCell (by simp) _).setCell (by simp) _).setCell (by simp) _⟩
end
section
open Go.RowKit
set_option linter.unusedVariables false
def missB (r : Rc) (s : Sq) : Bool := emptyB (meetR (rectS s) r)
def lvs (S : List Sp) (r : Rc) : Nat → Sq → List Sq
  | 0, s => if missB r s then [] else [s]
  | k + 1, s => if missB r s then [] else if splB S s then lvs S r k (partQ s 3) ++ (lvs S r k (partQ s 2) ++ (lvs S r k (partQ s 1) ++ lvs S r k (partQ s 0))) else [s]
/-- the squares that aren't split and have a point of r, of those in s -/
def lv (S : List Sp) (r : Rc) (s : Sq) : List Sq := lvs S r (4 - s.d) s
theorem lv_miss {S : List Sp} {r : Rc} {s : Sq} (h : missB r s = true) : lv S r s = [] := by
  unfold lv
  cases 4 - s.d <;> simp [lvs, h]
theorem lv_leaf {S : List Sp} {r : Rc} {s : Sq} (h : missB r s = false) (h2 : splB S s = false) : lv S r s = [s] := by
  unfold lv
  cases 4 - s.d <;> simp [lvs, h, h2]
theorem spl_lt {S : List Sp} {s : Sq} (h : splB S s = true) : s.d < 4 := by
  unfold splB at h
  simp at h
  exact h.1
theorem lv_split {S : List Sp} {r : Rc} {s : Sq} (h : missB r s = false) (h2 : splB S s = true) : lv S r s = lv S r (partQ s 3) ++ (lv S r (partQ s 2) ++ (lv S r (partQ s 1) ++ lv S r (partQ s 0))) := by
  have hd := spl_lt h2
  obtain ⟨k, hk⟩ : ∃ k, 4 - s.d = k + 1 := ⟨3 - s.d, by omega⟩
  have e : ∀ i, 4 - (partQ s i).d = k := fun i => by unfold partQ; simp only; omega
  unfold lv
  rw [e, e, e, e, hk]
  simp [lvs, h, h2]
def okQ (s : Sq) : Prop := s.d ≤ 4 ∧ endN s ≤ 4096
theorem four_end {s : Sq} (hd : s.d ≤ 3) : (partQ s 4).b = endN s := by
  unfold partQ endN qN
  simp only
  rcases (show s.d = 0 ∨ s.d = 1 ∨ s.d = 2 ∨ s.d = 3 by omega) with h | h | h | h <;> rw [h] <;> rfl
theorem part_le {s : Sq} {i j : Nat} (h : i ≤ j) : (partQ s i).b ≤ (partQ s j).b := by
  unfold partQ
  simp only
  have := Nat.mul_le_mul_right (qN s.d) h
  omega
theorem okQ_part {s : Sq} (h : okQ s) (hd : s.d ≤ 3) {i : Nat} (hi : i < 4) : okQ (partQ s i) := by
  refine ⟨by unfold partQ; simp only; omega, ?_⟩
  rw [end_part]
  have := part_le (s := s) (show i + 1 ≤ 4 by omega)
  rw [four_end hd] at this
  have := h.2
  omega
theorem okQ_root : okQ ⟨0, 0⟩ := ⟨by simp, by decide⟩
theorem okQ_b {s : Sq} (h : okQ s) : s.b ≤ 4096 := by
  have := endN_ge s
  have := h.2
  omega
/-- how much is left to do -/
def wt (K : List Sq) : Nat := (K.map fun s => 5 ^ (5 - s.d)).sum
theorem wt_append (K L : List Sq) : wt (K ++ L) = wt K + wt L := by simp [wt]
theorem wt_one (s : Sq) : wt [s] = 5 ^ (5 - s.d) := by simp [wt]
theorem wt_pos (s : Sq) : 1 ≤ 5 ^ (5 - s.d) := Nat.pos_of_ne_zero (by simp)
theorem wt_len (K : List Sq) : K.length ≤ wt K := by
  induction K with
  | nil => simp [wt]
  | cons s K ih =>
    have : wt (s :: K) = 5 ^ (5 - s.d) + wt K := by simp [wt]
    have := wt_pos s
    simp only [List.length_cons]
    omega
def fourL (s : Sq) : List Sq := [partQ s 0, partQ s 1, partQ s 2, partQ s 3]
theorem wt_four {s : Sq} (hd : s.d < 4) : wt (fourL s) + 1 ≤ 5 ^ (5 - s.d) := by
  have e : ∀ i, (partQ s i).d = s.d + 1 := fun i => rfl
  obtain ⟨k, hk⟩ : ∃ k, 5 - s.d = k + 1 := ⟨4 - s.d, by omega⟩
  have e2 : 5 - (s.d + 1) = k := by omega
  have hp : 1 ≤ 5 ^ k := Nat.pos_of_ne_zero (by simp)
  simp only [wt, fourL, List.map_cons, List.map_nil, List.sum_cons, List.sum_nil, e, e2, hk, Nat.pow_succ]
  omega
theorem todo_miss {S : List Sp} {r : Rc} {F K : List Sq} {s : Sq} (h : missB r s = true) : F ++ (K ++ [s]).reverse.flatMap (lv S r) = F ++ K.reverse.flatMap (lv S r) := by
  simp [lv_miss h]
theorem todo_leaf {S : List Sp} {r : Rc} {F K : List Sq} {s : Sq} (h : missB r s = false) (h2 : splB S s = false) : F ++ (K ++ [s]).reverse.flatMap (lv S r) = (F ++ [s]) ++ K.reverse.flatMap (lv S r) := by
  simp [lv_leaf h h2]
theorem todo_split {S : List Sp} {r : Rc} {F K : List Sq} {s : Sq} (h : missB r s = false) (h2 : splB S s = true) : F ++ (K ++ [s]).reverse.flatMap (lv S r) = F ++ (K ++ fourL s).reverse.flatMap (lv S r) := by
  simp [lv_split h h2, fourL]
theorem owns_cut {α : Type} {cs : α → List Value} {z : Nat} (hz : ∀ a, (cs a).length = z) {W : World} {base : Nat} {e : TypeId} {p : Option Addr} {n cap : Nat} {L : List α} {s : α} (h : W.ownsRow base e z (.slice p (n + 1) cap) (n + 1) (flatG cs (L ++ [s]))) (hn : L.length = n) : W.ownsRow base e z (.slice p n cap) n (flatG cs L) := by
  refine ⟨by rw [flatG_length hz, hn], ?_⟩
  rcases h.2 with ⟨_, h2⟩ | ⟨g, cap', cur, h1, h2, h3, h4, h5, h6, h7⟩
  · omega
  · simp only [Value.slice.injEq] at h1
    obtain ⟨rfl, _, rfl⟩ := h1
    refine .inr ⟨g, cap, cur, rfl, h2, h3, by omega, h5, h6, ?_⟩
    have e1 : cur.toList.take (n * z) = (cur.toList.take ((n + 1) * z)).take (n * z) := by
      rw [List.take_take, Nat.min_eq_left (Nat.mul_le_mul_right z (by omega))]
    rw [e1, h7, flatG_append, List.take_append_of_le_length (by rw [flatG_length hz, hn]; omega), List.take_of_length_le (by rw [flatG_length hz, hn]; omega)]
theorem owns_some {W : World} {base : Nat} {e : TypeId} {size : Nat} {p : Option Addr} {n cap : Nat} {xs : List Value} (h : W.ownsRow base e size (.slice p n cap) n xs) (hn : 0 < n) : ∃ g, p = some ⟨g, 0, none⟩ ∧ base ≤ g ∧ g < W.heap.size ∧ n ≤ cap ∧ cap ≤ maxLen := by
  rcases h.2 with ⟨_, h2⟩ | ⟨g, cap', cur, h1, h2, h3, h4, h5, h6, h7⟩
  · omega
  · simp only [Value.slice.injEq] at h1
    obtain ⟨rfl, _, rfl⟩ := h1
    exact ⟨g, rfl, h2, lt_of_at h3, h4, h5⟩
theorem one_cell (s : Sq) : ∀ u ∈ s.cs, u.oneCell' = true := by
  intro u hu
  simp [Sq.cs] at hu
  rcases hu with rfl | rfl <;> rfl
theorem four_cell (s : Sq) : ∀ u ∈ flatG Sq.cs (fourL s), u.oneCell' = true := by
  intro u hu
  simp [flatG, fourL, Sq.cs] at hu
  rcases hu with h | h | h | h | h | h | h | h <;> subst h <;> rfl
end
section
open Go.RowKit
set_option linter.unusedVariables false
theorem Tryz.info108 : (Tryz.prog.info? 108).map (fun i => (i.zero, i.size, i.bytes)) = some (some (.agg #[.int .i64 0, .int .u32 0]), 2, 16) := by kernel_rfl
theorem info_parts3 {t : TypeId} {z : Value} {s b : Nat} (h : (Tryz.prog.info? t).map (fun i => (i.zero, i.size, i.bytes)) = some (some z, s, b)) : ∃ i, Tryz.prog.info? t = some i ∧ i.zero = some z ∧ i.size = s ∧ i.bytes = b := by
  cases hi : Tryz.prog.info? t with
  | none => rw [hi] at h; cases h
  | some i =>
    rw [hi] at h
    simp at h
    exact ⟨i, rfl, h.1, h.2.1, h.2.2⟩
theorem rect_at {s : Sq} {x0 y0 x1 y1 : Int} (h : Hid (rectS s = ⟨x0, y0, x1, y1⟩)) (w : World) (hM : Masks w) (hd : s.d ≤ 4) (hb : s.b ≤ 100000) : Calls Tryz.prog 76 #[.agg #[.int .i64 (s.d : Nat), .int .u32 (s.b : Nat)]] w fun e w' => e = .returned (rc x0 y0 x1 y1) ∧ Below w.heap.size w w' := by
  have := sq_rect s.d s.b w hM hd hb
  rw [show (⟨s.d, s.b⟩ : Sq) = s from rfl, h.out] at this
  exact this
theorem empty_at {x0 y0 x1 y1 : Int} {q : Bool} (h : Hid (emptyB ⟨x0, y0, x1, y1⟩ = q)) (w : World) : Calls Tryz.prog 74 #[rc x0 y0 x1 y1] w fun e w' => e = .returned (.bool q) ∧ Below w.heap.size w w' := by
  rw [← h.out]; exact geom_empty w x0 y0 x1 y1
set_option maxHeartbeats 4000000 in
theorem tree_leaves {w : World} {base tb : Nat} {v : Value} {S : List Sp} (h : Tr w base tb v S) (hl : S.length ≤ 1000000) (hS : Rising S) (hM : Masks w) (r0 r1 r2 r3 : Int) :
    Calls Tryz.prog 60 #[.pointer (some ⟨tb, 0, none⟩), rc r0 r1 r2 r3] w fun e w' => ∃ p cap, e = .returned (.slice p (lv S ⟨r0, r1, r2, r3⟩ ⟨0, 0⟩).length cap) ∧ RowG Sq.cs 2 w' p (lv S ⟨r0, r1, r2, r3⟩ ⟨0, 0⟩) ∧ (∀ s ∈ lv S ⟨r0, r1, r2, r3⟩ ⟨0, 0⟩, okQ s) ∧ (lv S ⟨r0, r1, r2, r3⟩ ⟨0, 0⟩).length ≤ 3125 ∧ Below w.heap.size w w' := by
  obtain ⟨W0, hW0⟩ : ∃ W0, W0 = w.alloc (.cells #[.int .i64 r0, .int .i64 r1, .int .i64 r2, .int .i64 r3] 25) := ⟨_, rfl⟩
  have hB0 : Below w.heap.size w W0 := by rw [hW0]; exact below1 _ _
  have hsz : W0.heap.size = w.heap.size + 1 := by rw [hW0]; simp
  have KR := hid (show W0.heap[w.heap.size]? = some (.cells #[.int .i64 r0, .int .i64 r1, .int .i64 r2, .int .i64 r3] 25 (0, 0)) by rw [hW0]; exact new_at _ _ _ rfl)
  have HM := hid (hM.below hB0)
  have HT := hid (h.later hB0)
  clear h hM
  obtain ⟨r, hr⟩ : ∃ r : Rc, Hid (r = ⟨r0, r1, r2, r3⟩) := ⟨_, rfl⟩
  rw [← hr.out]
  obtain ⟨T, hT⟩ : ∃ T, Hid (lv S r ⟨0, 0⟩ = T) := ⟨_, rfl⟩
  rw [hT.out]
  obtain ⟨i0, hi, hz0, hz1, hz2⟩ := info_parts3 Tryz.info108
  go_enter Tryz.func60, Tryz.ntmps60
  go_wp2_with fail
  go_step3
  go_wp2_with fail
  go_step3
  go_wp2_with fail
  rw [← hW0]
  have hsz' : w.heap.size + 1 = W0.heap.size := hsz.symm
  rw [hsz']
  clear hW0 hsz'
  have HSZ := hid hsz
  clear hsz
  go_loopg [5, 6] 3125 (fun gg s5 s6 wr => ∃ (F K : List Sq), wt K ≤ gg ∧ F.length + wt K ≤ 3125 ∧ (∀ s ∈ K, okQ s) ∧ (∀ s ∈ F, okQ s) ∧ Hid (F ++ K.reverse.flatMap (lv S r) = T) ∧ wr.ownsRow W0.heap.size 108 2 s5 F.length (flatG Sq.cs F) ∧ wr.ownsRow W0.heap.size 108 2 s6 K.length (flatG Sq.cs K) ∧ s5.ownBlock ≠ s6.ownBlock ∧ s6.ownBlock ≠ none ∧ Below W0.heap.size W0 wr)
  case atStart =>
    refine ⟨[], [⟨0, 0⟩], by simp [wt], by simp [wt], by simp [okQ_root], by simp, (by show [] ++ [(⟨0, 0⟩ : Sq)].reverse.flatMap (lv S r) = T; rw [← hT.out]; simp), World.ownsRow_nil _ _ _ _, ?_, by simp [Value.ownBlock], by simp [Value.ownBlock], below1 _ _⟩
    exact ⟨rfl, .inr ⟨W0.heap.size, 1, _, rfl, Nat.le_refl _, new_at _ _ _ rfl, by simp, by unfold maxLen; omega, rfl, rfl⟩⟩
  case round =>
    obtain ⟨F, K, hw1, hw2, hK, hF, hdo, ho5, ho6, hne, hnn, hb⟩ := hrel
    obtain ⟨p5, c5, rfl⟩ := owns_slice ho5
    obtain ⟨p6, c6, rfl⟩ := owns_slice ho6
    have HF := hid hF
    have HK := hid hK
    clear hF hK
    rcases List.eq_nil_or_concat K with rfl | ⟨K', s, hKs⟩
    · have hend : F = T := by simpa using hdo.out
      subst hend
      have hrow := hid (row_own Sq.z ho5 rfl)
      have hBB := hid (below_on hB0 hb)
      have hlen : F.length ≤ 3125 := by omega
      clear hdo ho5 ho6 hb hne
      go_wp2_with fail
      rw [Exit.noGoto_ret]
      go_ret
      exact ⟨_, _, rfl, hrow.out, HF.out, hlen, hBB.out⟩
    · rw [List.concat_eq_append] at hKs
      subst hKs
      obtain ⟨n, hn⟩ : ∃ n, K'.length = n := ⟨_, rfl⟩
      have hKl : (K' ++ [s]).length = n + 1 := by simp [hn]
      rw [hKl] at ho6 hnn hne
      rw [hKl]
      have hok := HK.out s (by simp)
      have hws := wt_append K' [s]
      rw [wt_one] at hws
      have hwl := wt_len K'
      have hwp := wt_pos s
      have hnle : n ≤ 3125 := by omega
      obtain ⟨g6, rfl, hg6, hg6', hc6, hc6m⟩ := owns_some ho6 (by omega)
      have hc6' : n ≤ c6 := by omega
      have hc6'' : c6 ≤ 9223372036854775807 := by unfold maxLen at hc6m; omega
      have hrow6 := row_own Sq.z ho6 (by simp [hn])
      obtain ⟨_, _, e, hsq⟩ := square_at hrow6 (k := n) (a := s) (by simp [← hn])
      cases e
      simp only [Nat.zero_add] at hsq
      obtain ⟨sd, sb⟩ := s
      simp only at hsq
      have d1 : sd ≤ 4 := hok.1
      have d2 : sb ≤ 4096 := okQ_b hok
      obtain ⟨x0, y0, x1, y1, hx⟩ : ∃ x0 y0 x1 y1 : Int, Hid (rectS ⟨sd, sb⟩ = ⟨x0, y0, x1, y1⟩) := ⟨_, _, _, _, rfl⟩
      obtain ⟨m0, m1, m2, m3, hm⟩ : ∃ m0 m1 m2 m3 : Int, Hid (meetR ⟨x0, y0, x1, y1⟩ ⟨r0, r1, r2, r3⟩ = ⟨m0, m1, m2, m3⟩) := ⟨_, _, _, _, rfl⟩
      obtain ⟨q, hq⟩ : ∃ q, Hid (emptyB ⟨m0, m1, m2, m3⟩ = q) := ⟨_, rfl⟩
      have hmiss : Hid (missB r ⟨sd, sb⟩ = q) := by
        show missB r ⟨sd, sb⟩ = q
        unfold missB
        rw [hr.out, hx.out, hm.out, hq.out]
      have e1 := cell_regrown hsq.1
      have e2 := cell_regrown hsq.2
      have e3 := grown_cells (var_on hb KR.out (lt_of_at KR.out))
      have C1 : ∀ D os, Calls Tryz.prog 76 #[.agg #[.int .i64 (sd : Nat), .int .u32 (sb : Nat)]] (Sort.grow (redrawn wr D) os) _ := fun D os => rect_at hx _ ((HM.out.below hb).below (below_regrown wr D os)) d1 (by simp only; omega)
      have C2 := fun w => geom_meet_at hm w
      have C3 := fun w => empty_at hq w
      clear hrow6 hsq
      have HN := hid hn
      have hmsr1 : wt K' + 1 ≤ wt (K' ++ [⟨sd, sb⟩]) := by rw [hws]; simp only at hwp ⊢; omega
      have HWS := hid hws
      clear hws hKl hn hwp
      have hnz : (n : Int) < (n : Int) + 1 := by omega
      have hnz2 : ¬ ((n : Int) < 0) := by omega
      go_wp2_with fail
      refine wp_region_quiet_below (by kernel_rfl) (by kernel_rfl) ?_
      repeat (first | go_big_quiet_skip | (go_big_quiet_want; go_big_quiet_op; first | go_big_quiet_on | go_big_quiet_call (first | with_reducible exact Calls.regrown_of (C1 _ _) | with_reducible exact Calls.regrown_of (C2 _) | with_reducible exact Calls.regrown_of (C3 _))))
      refine wpQuiet_nil ?_
      intro W2 hw'
      obtain ⟨⟨dq, osq⟩, hw''⟩ := hw'
      have hb2 : Below wr.heap.size wr W2 := by rw [hw'']; exact below_regrown _ _ _
      clear hw'' e1 e2 e3 C1 C2 C3
      replace ho5 := owns_on ho5 hb2
      replace ho6 := owns_on ho6 hb2
      have hB2 := hb.trans (hb2.mono hb.size)
      have hg62 : g6 < W2.heap.size := by have := hb2.size; omega
      clear hb hb2 hx hm hq
      cases q
      · obtain ⟨q2, hq2⟩ : ∃ q2, Hid (splB S ⟨sd, sb⟩ = q2) := ⟨_, rfl⟩
        have C4 := tree_splits (HT.out.later hB2) hl hS sd sb d1 (by omega)
        rw [hq2.out] at C4
        have hrow6 := row_own Sq.z ho6 (by simp [HN.out])
        obtain ⟨_, _, e, hsq⟩ := square_at hrow6 (k := n) (a := ⟨sd, sb⟩) (by simp [← HN.out])
        cases e
        simp only [Nat.zero_add] at hsq
        have HSQ := hid hsq
        clear hrow6
        go_wp2_with fail
        refine C4.mono ?_
        rintro x W3 ⟨rfl, hb3⟩
        replace ho5 := owns_on ho5 hb3
        replace ho6 := owns_on ho6 hb3
        have hB3 := hB2.trans (hb3.mono hB2.size)
        have hg63 : g6 < W3.heap.size := by have := hb3.size; omega
        replace hsq : cells2 W3 g6 (n * 2) (.int .i64 (sd : Nat)) (.int .u32 (sb : Nat)) := ⟨cell_below hb3 HSQ.out.1, cell_below hb3 HSQ.out.2⟩
        clear C4 HSQ hb3 hB2 hg62
        have hs3 := hB3.size
        cases q2
        · go_wp2_with (at_builtin; refine wpList_append_lies _ rfl _ _ 105 rfl W0.heap.size 108 i0 (.agg #[.int .i64 0, .int .u32 0]) 2 16 Tryz.underlying105 hi hz0 hz1 hz2 rfl (by decide) _ _ _ rfl (ho5.alloc _) ⟨W3.heap.size, 0, none⟩ 1 1 (Sq.cs ⟨sd, sb⟩) rfl rfl (World.news_of_block (heap_alloc_new _ _)) (one_cell _) (by decide) (by unfold maxLen; omega) (by omega) (by simp; omega) _ rfl ?_)
          intro g cap w4 hown hgrow hat hg4
          have ho64 := (ho6.alloc (.cells #[.int .i64 (sd : Nat), .int .u32 (sb : Nat)] 108)).kept hgrow (.inr (fun e => hne e.symm))
          have hB4 := (hB3.alloc hs3 (.cells #[.int .i64 (sd : Nat), .int .u32 (sb : Nat)] 108)).grown hgrow (by simp; omega) (fun k hk => (ho5.lt k hk).1)
          have hgg : g ≠ g6 := by
            rcases hat with hat | hat
            · intro e
              subst e
              exact hne hat
            · omega
          clear hgrow hat ho5 ho6 hsq
          go_wp2_with fail
          go_roundg (wt K')
          case measure => omega
          case rel =>
            refine ⟨F ++ [⟨sd, sb⟩], K', Nat.le_refl _, by simp; omega, fun s hs => HK.out s (by simp [hs]), ?_, ?_, ?_, ?_, ?_, by simp [Value.ownBlock], hB4⟩
            · intro s hs
              rcases List.mem_append.1 hs with hs | hs
              · exact HF.out s hs
              · rw [List.mem_singleton.1 hs]; exact hok
            · exact (todo_leaf hmiss.out hq2.out).symm.trans hdo.out
            · rw [flatG_append, flatG_one, List.length_append]; exact hown
            · rw [HN.out]; exact owns_cut Sq.z ho64 HN.out
            · exact fun e => hgg (Option.some.inj e)
        · have d3 : sd ≤ 3 := by have := spl_lt hq2.out; simp only at this; omega
          have hw4 := wt_four (s := ⟨sd, sb⟩) (by simp only; omega)
          have ho6c := owns_cut Sq.z ho6 HN.out
          go_wp2_with fail
          refine (sq_quarters sd sb _ d3 d2).mono ?_
          rintro x W4 ⟨rfl, hb4⟩
          replace ho5 := owns_on ho5 hb4
          replace ho6c := owns_on ho6c hb4
          have hB4 := hB3.trans (hb4.mono hB3.size)
          have hg64 : g6 < W4.heap.size := by have := hb4.size; omega
          have hs4 := hB4.size
          clear hb4 ho6 hsq hB3 hs3 hg63
          have h4c : Hid (∀ u ∈ flatG Sq.cs (fourL ⟨sd, sb⟩), u.oneCell' = true) := four_cell _
          have hfl : Hid (flatG Sq.cs (fourL ⟨sd, sb⟩) = [.int .i64 ((partQ ⟨sd, sb⟩ 0).d : Nat), .int .u32 ((partQ ⟨sd, sb⟩ 0).b : Nat), .int .i64 ((partQ ⟨sd, sb⟩ 1).d : Nat), .int .u32 ((partQ ⟨sd, sb⟩ 1).b : Nat), .int .i64 ((partQ ⟨sd, sb⟩ 2).d : Nat), .int .u32 ((partQ ⟨sd, sb⟩ 2).b : Nat), .int .i64 ((partQ ⟨sd, sb⟩ 3).d : Nat), .int .u32 ((partQ ⟨sd, sb⟩ 3).b : Nat)]) := rfl
          unfold fourV
          obtain ⟨Q0, h0⟩ : ∃ Q0, Hid (partQ ⟨sd, sb⟩ 0 = Q0) := ⟨_, rfl⟩
          obtain ⟨Q1, h1⟩ : ∃ Q1, Hid (partQ ⟨sd, sb⟩ 1 = Q1) := ⟨_, rfl⟩
          obtain ⟨Q2, h2⟩ : ∃ Q2, Hid (partQ ⟨sd, sb⟩ 2 = Q2) := ⟨_, rfl⟩
          obtain ⟨Q3, h3⟩ : ∃ Q3, Hid (partQ ⟨sd, sb⟩ 3 = Q3) := ⟨_, rfl⟩
          rw [h0.out, h1.out, h2.out, h3.out] at hfl ⊢
          go_wp2_with fail
          have hnews : Hid (∀ j u, (flatG Sq.cs (fourL ⟨sd, sb⟩))[j]? = some u → (W4.alloc (.cells #[.int .i64 (Q0.d : Nat), .int .u32 (Q0.b : Nat), .int .i64 (Q1.d : Nat), .int .u32 (Q1.b : Nat), .int .i64 (Q2.d : Nat), .int .u32 (Q2.b : Nat), .int .i64 (Q3.d : Nat), .int .u32 (Q3.b : Nat)] 129)).cell? ((⟨W4.heap.size, 0, none⟩ : Addr).add j) = some u) := by
            show ∀ j u, _
            rw [hfl.out]
            exact World.news_of_block (heap_alloc_new _ _)
          have hnl : Hid ((flatG Sq.cs (fourL ⟨sd, sb⟩)).length = 4 * 2) := flatG_length Sq.z _
          have HO := hid (ho6c.alloc (.cells #[.int .i64 (Q0.d : Nat), .int .u32 (Q0.b : Nat), .int .i64 (Q1.d : Nat), .int .u32 (Q1.b : Nat), .int .i64 (Q2.d : Nat), .int .u32 (Q2.b : Nat), .int .i64 (Q3.d : Nat), .int .u32 (Q3.b : Nat)] 129))
          have hb63 : Hid (n + 4 ≤ maxLen) := by show n + 4 ≤ maxLen; unfold maxLen; omega
          go_region_law (refine step_append_lies _ rfl (.tmp 53) (.tmp 54) 105 rfl W0.heap.size 108 i0 (.agg #[.int .i64 0, .int .u32 0]) 2 16 Tryz.underlying105 hi hz0 hz1 hz2 rfl (by decide) (.slice (some ⟨g6, 0, none⟩) n c6) n (flatG Sq.cs K') (by simp [Act.eval, Act.put]) HO.out ⟨W4.heap.size, 0, none⟩ 4 4 (flatG Sq.cs (fourL ⟨sd, sb⟩)) (by simp [Act.eval, Act.put]) hnl.out hnews.out h4c.out (by decide) hb63.out (by omega) (by simp; omega) _ rfl ?_; intro g cap w5 hown hgrow hat hg5)
          have ho5a : (World.drew (W4.alloc (.cells #[.int .i64 (Q0.d : Nat), .int .u32 (Q0.b : Nat), .int .i64 (Q1.d : Nat), .int .u32 (Q1.b : Nat), .int .i64 (Q2.d : Nat), .int .u32 (Q2.b : Nat), .int .i64 (Q3.d : Nat), .int .u32 (Q3.b : Nat)] 129))).ownsRow W0.heap.size 108 2 _ _ _ := ho5.alloc _
          have ho55 := ho5a.kept hgrow (.inr hne)
          have hB5 := (hB4.alloc hs4 (.cells #[.int .i64 (Q0.d : Nat), .int .u32 (Q0.b : Nat), .int .i64 (Q1.d : Nat), .int .u32 (Q1.b : Nat), .int .i64 (Q2.d : Nat), .int .u32 (Q2.b : Nat), .int .i64 (Q3.d : Nat), .int .u32 (Q3.b : Nat)] 129)).drew.grown hgrow (by show W0.heap.size ≤ (W4.alloc _).heap.size; rw [World.size_alloc]; omega) (fun k hk => by cases hk; exact hg6)
          have hgg : Hid ((Value.slice p5 F.length c5).ownBlock ≠ some g) := by
            intro e
            have hlt := (ho5.lt g e).2
            rcases hat with hat | hat
            · exact hne (e.trans hat.symm)
            · have hat' : g = (W4.alloc (.cells #[.int .i64 (Q0.d : Nat), .int .u32 (Q0.b : Nat), .int .i64 (Q1.d : Nat), .int .u32 (Q1.b : Nat), .int .i64 (Q2.d : Nat), .int .u32 (Q2.b : Nat), .int .i64 (Q3.d : Nat), .int .u32 (Q3.b : Nat)] 129)).heap.size := hat
              rw [World.size_alloc] at hat'
              omega
          clear hgrow hat ho5 ho5a ho6c HO hnews
          go_wp2_with fail
          go_roundg (wt (K' ++ fourL ⟨sd, sb⟩))
          case measure =>
            rw [wt_append]
            have := HWS.out
            try simp only at this
            try simp only at hw4
            omega
          case rel =>
            refine ⟨F, K' ++ fourL ⟨sd, sb⟩, Nat.le_refl _, ?_, ?_, HF.out, ?_, ho55, ?_, hgg.out, by simp [Value.ownBlock], hB5⟩
            · rw [wt_append]
              have := HWS.out
              try simp only at this
              try simp only at hw4
              omega
            · intro s hs
              rcases List.mem_append.1 hs with hs | hs
              · exact HK.out s (by simp [hs])
              · simp only [fourL, List.mem_cons, List.not_mem_nil, or_false] at hs
                rcases hs with rfl | rfl | rfl | rfl <;> exact okQ_part hok d3 (by omega)
            · exact (todo_split hmiss.out hq2.out).symm.trans hdo.out
            · rw [flatG_append, List.length_append, HN.out]; exact hown
      · go_wp2_with fail
        go_roundg (wt K')
        case measure => omega
        case rel =>
          refine ⟨F, K', Nat.le_refl _, by omega, fun s hs => HK.out s (by simp [hs]), HF.out, ?_, ho5, ?_, hne, hnn, hB2⟩
          · exact (todo_miss hmiss.out).symm.trans hdo.out
          · rw [HN.out]; exact owns_cut Sq.z ho6 HN.out
end
end Go.Proofs.YtfoncphdbaaedaaGreatDoor
