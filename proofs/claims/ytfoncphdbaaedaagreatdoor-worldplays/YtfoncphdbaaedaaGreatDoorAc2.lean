/- Contract of kinds of the package act: what may stand against each kind, as it lies in memory. -/
import Derived.Test.YtfoncphdbaaedaaGreatDoorAcP
import Derived.Laws.EntriesVeiled
namespace Go.Proofs.YtfoncphdbaaedaaGreatDoor
open Go.RowKit Go.Maps
set_option linter.unusedVariables false
abbrev fnV (f : Nat) : Value := .func (.func f) #[] #[]
abbrev kinO (r1 r2 r3 r4 : Nat) : Obj := .cells #[.int .i64 1, .slice (some ⟨r1, 0, none⟩) 3 3, .int .i64 2, .slice (some ⟨r2, 0, none⟩) 3 3, .int .i64 3, .slice (some ⟨r3, 0, none⟩) 2 2, .int .i64 4, .slice (some ⟨r4, 0, none⟩) 1 1] 115 (0, 0)
abbrev r1O : Obj := .cells #[.int .i64 14, fnV 84, .int .i64 16, fnV 86, .int .i64 16, fnV 87] 118 (0, 0)
abbrev r2O : Obj := .cells #[.int .i64 15, fnV 83, .int .i64 14, fnV 84, .int .i64 16, fnV 88] 118 (0, 0)
abbrev r3O : Obj := .cells #[.int .i64 15, fnV 83, .int .i64 18, fnV 85] 118 (0, 0)
abbrev r4O : Obj := .cells #[.int .i64 15, fnV 83] 118 (0, 0)
/-- all kinds, at the block b -/
structure KAt (W : World) (b r1 r2 r3 r4 : Nat) : Prop where
  at_ : W.heap[b]? = some (kinO r1 r2 r3 r4)
  at1 : W.heap[r1]? = some r1O
  at2 : W.heap[r2]? = some r2O
  at3 : W.heap[r3]? = some r3O
  at4 : W.heap[r4]? = some r4O
theorem KAt.later {W W' : World} {b r1 r2 r3 r4 : Nat} (h : KAt W b r1 r2 r3 r4) (hb : Below W.heap.size W W') : KAt W' b r1 r2 r3 r4 :=
  ⟨var_on hb h.at_ (lt_of_at h.at_), var_on hb h.at1 (lt_of_at h.at1), var_on hb h.at2 (lt_of_at h.at2), var_on hb h.at3 (lt_of_at h.at3), var_on hb h.at4 (lt_of_at h.at4)⟩
/-- the reasons R, at the block r -/
def RAt (W : World) (r : Nat) (R : List Rs) : Prop := ∀ j s, R[j]? = some s → W.cell? ⟨r, j * 2, none⟩ = some (.int .i64 s.e) ∧ W.cell? ⟨r, j * 2 + 1, none⟩ = some (fnV (rsF s.r)) ∧ s.r < 6
theorem RAt.later {W W' : World} {r : Nat} {R : List Rs} (h : RAt W r R) (hb : Below W.heap.size W W') : RAt W' r R := fun j s hs =>
  ⟨cell_below hb (h j s hs).1, cell_below hb (h j s hs).2.1, (h j s hs).2.2⟩
theorem KAt.kind {W : World} {b r1 r2 r3 r4 k : Nat} {d : Kn} (h : KAt W b r1 r2 r3 r4) (hd : kinL[k]? = some d) : W.cell? ⟨b, k * 2, none⟩ = some (.int .i64 d.of) ∧ ∃ r, W.cell? ⟨b, k * 2 + 1, none⟩ = some (.slice (some ⟨r, 0, none⟩) d.rs.length d.rs.length) ∧ RAt W r d.rs := by
  have c0 := (cells_at h.at_).1
  have c1 := (cells_at h.at1).1
  have c2 := (cells_at h.at2).1
  have c3 := (cells_at h.at3).1
  have c4 := (cells_at h.at4).1
  have hk : k < 4 := (List.getElem?_eq_some_iff.1 hd).1
  obtain rfl | rfl | rfl | rfl : k = 0 ∨ k = 1 ∨ k = 2 ∨ k = 3 := by omega
  · simp [kinL] at hd
    subst hd
    refine ⟨c0 0, r1, c0 1, fun j s hs => ?_⟩
    have hj : j < 3 := (List.getElem?_eq_some_iff.1 hs).1
    obtain rfl | rfl | rfl : j = 0 ∨ j = 1 ∨ j = 2 := by omega
    · simp at hs; subst hs; exact ⟨c1 0, c1 1, by decide⟩
    · simp at hs; subst hs; exact ⟨c1 2, c1 3, by decide⟩
    · simp at hs; subst hs; exact ⟨c1 4, c1 5, by decide⟩
  · simp [kinL] at hd
    subst hd
    refine ⟨c0 2, r2, c0 3, fun j s hs => ?_⟩
    have hj : j < 3 := (List.getElem?_eq_some_iff.1 hs).1
    obtain rfl | rfl | rfl : j = 0 ∨ j = 1 ∨ j = 2 := by omega
    · simp at hs; subst hs; exact ⟨c2 0, c2 1, by decide⟩
    · simp at hs; subst hs; exact ⟨c2 2, c2 3, by decide⟩
    · simp at hs; subst hs; exact ⟨c2 4, c2 5, by decide⟩
  · simp [kinL] at hd
    subst hd
    refine ⟨c0 4, r3, c0 5, fun j s hs => ?_⟩
    have hj : j < 2 := (List.getElem?_eq_some_iff.1 hs).1
    obtain rfl | rfl : j = 0 ∨ j = 1 := by omega
    · simp at hs; subst hs; exact ⟨c3 0, c3 1, by decide⟩
    · simp at hs; subst hs; exact ⟨c3 2, c3 3, by decide⟩
  · simp [kinL] at hd
    subst hd
    refine ⟨c0 6, r4, c0 7, fun j s hs => ?_⟩
    have hj : j < 1 := (List.getElem?_eq_some_iff.1 hs).1
    obtain rfl : j = 0 := by omega
    simp at hs; subst hs; exact ⟨c4 0, c4 1, by decide⟩
theorem ac_kinds (w : World) : Calls Tryz.prog 65 #[] w fun e w' => ∃ b r1 r2 r3 r4, e = .returned (.slice (some ⟨b, 0, none⟩) 4 4) ∧ KAt w' b r1 r2 r3 r4 ∧ Below w.heap.size w w' := by
  go_enter Tryz.func65, Tryz.ntmps65
  go_wp2_with fail
  refine bodyPost_ret (v := .slice (some ⟨w.heap.size + 1 + 1 + 1 + 1 + 1 + 1 + 1, 0, none⟩) 4 4) (by simp [results, Tryz.results65, go_sem]) rfl ⟨_, w.heap.size + 1 + 1 + 1, w.heap.size + 1 + 1 + 1 + 1, w.heap.size + 1 + 1 + 1 + 1 + 1, w.heap.size + 1 + 1 + 1 + 1 + 1 + 1, rfl, ⟨?_, ?_, ?_, ?_, ?_⟩, ?_⟩
  · exact new_at _ _ _ (by simp)
  · exact old_at (old_at (old_at (old_at (new_at _ _ _ (by simp)) _) _) _) _
  · exact old_at (old_at (old_at (new_at _ _ _ (by simp)) _) _) _
  · exact old_at (old_at (new_at _ _ _ (by simp)) _) _
  · exact old_at (new_at _ _ _ (by simp)) _
  · exact (((((((below1 w _).alloc (by simp) _).alloc (by simp; omega) _).alloc (by simp; omega) _).alloc (by simp; omega) _).alloc (by simp; omega) _).alloc (by simp; omega) _).alloc (by simp; omega) _
end Go.Proofs.YtfoncphdbaaedaaGreatDoor
