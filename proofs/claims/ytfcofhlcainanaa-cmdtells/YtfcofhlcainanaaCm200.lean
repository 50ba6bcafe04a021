/- Plain: a command has at most 200 bytes. -/
import Derived.Test.YtfcofhlcainanaaCmQ
namespace Go.Proofs.Ytfcofhlcainanaa
open Go.RowKit
set_option linter.unusedVariables false
def Pa.wt : Pa → Nat
  | Sum.inl (k, lo, hi) => 10
  | Sum.inr k => 32
theorem told_wt {c : Cm} {p : Pa} (h : p.is c = true) : (p.told c).length ≤ p.wt := by
  rcases p with ⟨k, lo, hi⟩ | k
  · have := (put_length (zig (c.i k))).2
    show (put (zig (c.i k))).length ≤ 10
    exact this
  · exact told_short h
theorem told_wts (c : Cm) : ∀ (L : List Pa), (∀ p ∈ L, p.is c = true) → (toldL L c).length ≤ (L.map Pa.wt).sum
  | [], _ => by simp [toldL]
  | p :: l, h => by
    have h1 := told_wt (h p (by simp))
    have h2 := told_wts c l (fun q hq => h q (by simp [hq]))
    have e : toldL (p :: l) c = p.told c ++ toldL l c := rfl
    rw [e, List.length_append, List.map_cons, List.sum_cons]
    omega
theorem wt_parts (kd : Int) : ((partsP kd).map Pa.wt).sum ≤ 200 := by
  unfold partsP
  refine rest_cases (P := fun l => ((headP ++ l).map Pa.wt).sum ≤ 200) ?_ ?_ ?_ ?_ ?_ ?_ ?_ kd <;> decide
theorem told_200 {c : Cm} (h : isC c = true) : (toldL (partsP c.kd) c).length ≤ 200 :=
  Nat.le_trans (told_wts c _ (isC_iff.1 h).1) (wt_parts _)
end Go.Proofs.Ytfcofhlcainanaa
