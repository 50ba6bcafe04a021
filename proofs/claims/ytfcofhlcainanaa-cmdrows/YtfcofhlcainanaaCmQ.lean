/- Plain facts on commands: who is one, part by part; told and read again; the reference's word on it. -/
import Derived.Test.YtfcofhlcainanaaCmP
import Derived.Test.YtfcofhlcainanaaCmG
namespace Go.Proofs.Ytfcofhlcainanaa
open Go.RowKit
set_option linter.unusedVariables false
theorem isL_all (kd : Int) (c : Cm) : isL (partsP kd) c = (partsP kd).all (Pa.is c) := by
  obtain ⟨a0, a1, a2, a3, a4, a5, a6, a7, a8, a9, a10, a11, a12, a13, a14, a15, a16⟩ := c
  unfold partsP
  refine rest_cases (P := fun l => isL (headP ++ l) _ = (headP ++ l).all (Pa.is _)) ?_ ?_ ?_ ?_ ?_ ?_ ?_ kd <;> rfl
def Pa.put (c d : Cm) : Pa → Cm
  | Sum.inl (k, _, _) => d.setI k (c.i k)
  | Sum.inr k => d.setF k (c.f k)
def putL (c : Cm) : List Pa → Cm → Cm
  | [], d => d
  | p :: l, d => putL c l (p.put c d)
theorem put_back (kd : Int) (c : Cm) (h : clrL (partsP kd) c = zC) : putL c (partsP kd) zC = c := by
  obtain ⟨a0, a1, a2, a3, a4, a5, a6, a7, a8, a9, a10, a11, a12, a13, a14, a15, a16⟩ := c
  revert h
  unfold partsP
  refine rest_cases (P := fun l => clrL (headP ++ l) _ = zC → putL _ (headP ++ l) zC = _) ?_ ?_ ?_ ?_ ?_ ?_ ?_ kd
  all_goals
    intro h
    simp only [headP, List.cons_append, List.nil_append, clrL, Pa.clr, Cm.setI, Cm.setF, zC, Cm.mk.injEq] at h
    simp_all [headP, putL, Pa.put, Cm.setI, Cm.setF, Cm.i, Cm.f, zC]
theorem isC_iff {c : Cm} : isC c = true ↔ (∀ p ∈ partsP c.kd, p.is c = true) ∧ clrL (partsP c.kd) c = zC := by
  unfold isC
  rw [isL_all, Bool.and_eq_true, List.all_eq_true, eqC_iff]
theorem is_num {c : Cm} {k : Nat} {lo hi : Int} : (Pa.num k lo hi).is c = true ↔ lo ≤ c.i k ∧ c.i k ≤ hi := by
  show (decide (lo ≤ c.i k) && decide (c.i k ≤ hi)) = true ↔ _
  simp
theorem told_short {c : Cm} {p : Pa} (h : p.is c = true) : (p.told c).length ≤ 32 := by
  rcases p with ⟨k, lo, hi⟩ | k
  · have := (put_length (zig (c.i k))).2; show (put (zig (c.i k))).length ≤ 32; omega
  · have h2 : isF (c.f k) = true := h
    unfold isF at h2
    simp only [Bool.and_eq_true, decide_eq_true_eq] at h2
    have h3 := h2.2
    have h1 := (put_length (c.f k).s.data.toList.length).2
    have h4 := (put_length (zig (c.f k).n)).2
    have h5 : (c.f k).s.data.toList.length ≤ 12 := h3
    show (text _ ++ _).length ≤ 32
    unfold text
    simp only [List.length_append]
    omega
theorem toldL_len (c : Cm) : ∀ (L : List Pa), (∀ p ∈ L, p.is c = true) → (toldL L c).length ≤ 32 * L.length
  | [], _ => by simp [toldL]
  | p :: l, h => by
    have h1 := told_short (h p (by simp))
    have h2 := toldL_len c l (fun q hq => h q (by simp [hq]))
    have e : toldL (p :: l) c = p.told c ++ toldL l c := rfl
    rw [e, List.length_append, List.length_cons]
    omega
end Go.Proofs.Ytfcofhlcainanaa
