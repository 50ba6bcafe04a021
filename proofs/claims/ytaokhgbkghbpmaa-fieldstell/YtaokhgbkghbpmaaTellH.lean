/- What the walks of FieldsTell share. -/
import Derived.Test.YtaokhgbkghbpmaaKnown6
import Derived.Test.YtaokhgbkghbpmaaFldL
import Derived.Deep.Cut
namespace Go.Proofs.Ytaokhgbkghbpmaa
open Go.RowKit
set_option linter.unusedVariables false
theorem few_thing_at {d : Th} {r : Bool} (h : few4 d.f = r) (w : World) (hi : inT d) : Calls Try.prog 10 #[d.v] w fun e w' => e = .returned (.bool r) ∧ Below w.heap.size w w' := by
  rw [← h]; exact few_thing w d hi
theorem few_delta_at {d : Dl} {r : Bool} (h : few4 d.f = r) (w : World) (hi : inD d) : Calls Try.prog 11 #[d.v] w fun e w' => e = .returned (.bool r) ∧ Below w.heap.size w w' := by
  rw [← h]; exact few_delta w d hi
theorem refdiff_at {a b : Th} {y : Dl} {q : Bool} (h1 : Hid (dK a b 4 = y)) (h2 : Hid (decide (¬ y.m = 0) = q)) (w : World) : Calls Try.prog 14 #[a.v, b.v] w fun e w' => e = .returned (.tuple #[y.v, .bool q]) ∧ Below w.heap.size w w' := by
  have := ref_diff w a b
  rw [h1.out, h2.out] at this
  exact this
theorem refapply_at {t y : Th} {d : Dl} (h : Hid (apply t d = y)) (hm : d.m < 256) (w : World) : Calls Try.prog 19 #[t.v, d.v] w fun e w' => e = .returned y.v ∧ Below w.heap.size w w' := by
  rw [← h.out]; exact ref_apply w t d hm
theorem refbytes_at {d : Dl} {S : ByteArray} (hD : Hid (isD d = true)) (hf : ∀ k, fitF (d.f k)) (h : Hid (⟨(bytesK d 4).toArray⟩ = S)) (w : World) : Calls Try.prog 17 #[d.v] w fun e w' => e = .returned (.string S) ∧ Below w.heap.size w w' := by
  rw [← h.out]; exact ref_bytes w d hD.out hf
theorem few_fit {d : Dl} (h : few4 d.f = true) (hi : inD d) : ∀ k, fitF (d.f k) := by
  obtain ⟨im, i0, i1, i2, i3⟩ := hi
  unfold few4 fewF at h
  simp only [Bool.and_eq_true, decide_eq_true_eq] at h
  obtain ⟨h0, h1, h2, h3⟩ := h
  intro k
  match k with
  | 0 => exact ⟨by omega, i0.2⟩
  | 1 => exact ⟨by omega, i1.2⟩
  | 2 => exact ⟨by omega, i2.2⟩
  | k + 3 => exact (⟨by have : (d.f 3).s.size ≤ 40 := h3; show d.f3.s.size ≤ 1000000; exact Nat.le_trans this (by decide), i3.2⟩ : fitF d.f3)
theorem bytes_any {d : Dl} {S X : ByteArray} {E : Int} {v : Bool} (hD : Hid (isD d = v)) (hf : ∀ k, fitF (d.f k)) (hm : d.m < 256) (hs : ∀ k, (d.f k).s.size ≤ maxLen) (h : Hid (⟨(bytesK d 4).toArray⟩ = S)) (hx : Hid ((v = true ∧ X = S ∧ E = 0) ∨ (v = false ∧ X = ⟨#[]⟩ ∧ E = 11))) (w : World) : Calls Try.prog 15 #[d.v] w fun e w' => e = .returned (.tuple #[.string X, .int .i64 E]) ∧ Below w.heap.size w w' := by
  rcases hx.out with ⟨rfl, rfl, rfl⟩ | ⟨rfl, rfl, rfl⟩
  · exact bytes_at hD hf h w
  · exact fields_bytes_no w d hD.out hm hs
end Go.Proofs.Ytaokhgbkghbpmaa
