/- Contract of slices.Insert at spots over this translation, of one element: the row that it leaves; nothing else that was there is changed. -/
import Derived.Test.YtildhbkcpehobaaGreatDoorQd9
namespace Go.Proofs.YtildhbkcpehobaaGreatDoor
open Go.RowKit
set_option linter.unusedVariables false
theorem Tryz.size82 (w : World) : (Go.sizeOf 82).run Tryz.prog w = .ok 2 w := by kernel_rfl
theorem Tryz.map82 : (Tryz.prog.info? 82).map (·.size) = some 2 := by kernel_rfl
theorem insS_end {α : Type} (S : List α) (s : α) : insS S S.length s = S ++ [s] := by simp [insS]
def InsPost (w : World) (base : Nat) (v : Value) (S : List Sp) (i : Nat) (s : Sp) : Ending → World → Prop := fun e w' => ∃ g' cap', e = .returned (.slice (some ⟨g', 0, none⟩) (S.length + 1) cap') ∧ w'.ownsRow base 82 2 (.slice (some ⟨g', 0, none⟩) (S.length + 1) cap') (S.length + 1) (flatG Sp.cs (insS S i s)) ∧ w.grownBy w' v.ownBlock ∧ (v.ownBlock = some g' ∨ w.heap.size ≤ g')
set_option maxHeartbeats 2000000 in
set_option maxRecDepth 100000 in
theorem insert_end {w : World} {base vb : Nat} {v : Value} {S : List Sp} {s : Sp} (h : w.ownsRow base 82 2 v S.length (flatG Sp.cs S)) (hl : S.length ≤ 1000) (hv : w.heap[vb]? = some (.cells #[.int .i64 s.id, .int .u32 (s.c : Nat)] 82 (0, 0))) (hbase : base ≤ w.heap.size) :
    Calls Tryz.prog 65 #[v, .int .i64 (S.length : Nat), .slice (some ⟨vb, 0, none⟩) 1 1] w (InsPost w base v S S.length s) := by
  obtain ⟨i0, hi0, hz0, hz1, hz2⟩ := info_parts3 Tryz.info82
  have HO := hid h
  have HV := hid (show ∀ j u, (Sp.cs s)[j]? = some u → w.cell? ((⟨vb, 0, none⟩ : Addr).add j) = some u from World.news_of_block hv)
  have hfin : ∀ g' cap' w', w'.ownsRow base 82 2 (.slice (some ⟨g', 0, none⟩) (S.length + 1) cap') (S.length + 1) (flatG Sp.cs S ++ Sp.cs s) → w.grownBy w' v.ownBlock → (v.ownBlock = some g' ∨ g' = w.heap.size) → InsPost w base v S S.length s (.returned (.slice (some ⟨g', 0, none⟩) (S.length + 1) cap')) w' := fun g' cap' w' h1 h2 h3 =>
    ⟨g', cap', rfl, by rw [insS_end, flatG_append, flatG_one]; exact h1, h2, h3.imp id (fun e => by omega)⟩
  have FIN := hid hfin
  clear hfin
  have hvs := owns_slice h
  have hcp : ∀ p c, v = .slice p S.length c → S.length ≤ c ∧ c ≤ maxLen ∧ ∀ q, p ≠ some q ∨ ∃ g, p = some ⟨g, 0, none⟩ := by
    intro p c e
    subst e
    rcases h.2 with ⟨h1, h2⟩ | ⟨g, cap', cur, h1, _, _, h2, h3, _⟩
    · simp only [Value.slice.injEq] at h1
      obtain ⟨rfl, _, rfl⟩ := h1
      exact ⟨by omega, by unfold maxLen; omega, fun q => .inl (by simp)⟩
    · simp only [Value.slice.injEq] at h1
      obtain ⟨rfl, _, rfl⟩ := h1
      exact ⟨h2, h3, fun q => .inr ⟨g, rfl⟩⟩
  obtain ⟨p, c, rfl⟩ := hvs
  obtain ⟨q1, q2, -⟩ := hcp p c rfl
  have q3 : c ≤ 9223372036854775807 := by unfold maxLen at q2; omega
  clear hcp h hv
  obtain ⟨n, hn⟩ : ∃ n, S.length = n := ⟨_, rfl⟩
  obtain ⟨X, hX⟩ : ∃ X, flatG Sp.cs S = X := ⟨_, rfl⟩
  obtain ⟨Y, hY⟩ : ∃ Y, Sp.cs s = Y := ⟨_, rfl⟩
  have hYl : Hid (Y.length = 1 * 2) := by rw [← hY]; rfl
  have hY1 : Hid (∀ u ∈ Y, u.oneCell' = true) := by rw [← hY, ← flatG_one Sp.cs s]; exact spots_cell _
  rw [hn] at HO FIN q1 hl ⊢
  rw [hX] at HO FIN
  rw [hY] at HV FIN
  clear hn hX hY
  have j1 : (n : Int) ≤ (c : Int) := by omega
  cases p with
  | none =>
    go_enter Tryz.func65, Tryz.ntmps65
    go_wp2_with (at_builtin; refine wpList_append_lies _ rfl _ _ 75 rfl base 82 i0 (.agg #[.int .i64 0, .int .u32 0]) 2 16 Tryz.underlying75 hi0 hz0 hz1 hz2 rfl (by decide) _ _ _ rfl HO.out ⟨vb, 0, none⟩ 1 1 Y rfl hYl.out HV.out hY1.out (by decide) (by unfold maxLen; omega) (by omega) hbase _ rfl ?_)
    all_goals (intro g' cap' w' a1 a2 a3 a4; go_wp2; go_ret; exact FIN.out g' cap' w' a1 a2 a3)
  | some a =>
    obtain ⟨ab, ao, asp⟩ := a
    go_enter Tryz.func65, Tryz.ntmps65
    go_wp2_with (at_builtin; refine wpList_append_lies _ rfl _ _ 75 rfl base 82 i0 (.agg #[.int .i64 0, .int .u32 0]) 2 16 Tryz.underlying75 hi0 hz0 hz1 hz2 rfl (by decide) _ _ _ rfl HO.out ⟨vb, 0, none⟩ 1 1 Y rfl hYl.out HV.out hY1.out (by decide) (by unfold maxLen; omega) (by omega) hbase _ rfl ?_)
    all_goals (intro g' cap' w' a1 a2 a3 a4; go_wp2; go_ret; exact FIN.out g' cap' w' a1 a2 a3)
end Go.Proofs.YtildhbkcpehobaaGreatDoor
