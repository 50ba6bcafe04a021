/- Contracts of the package geom's functions and of the reference's: each returns what the plain functions say, and nothing that was there before is changed. -/
import Derived.Test.YtfcofhlcainanaaGeomP
namespace Go.Proofs.Ytfcofhlcainanaa
open Go.RowKit
abbrev ro (x0 y0 x1 y1 : Int) : Obj := .cells #[.int .i64 x0, .int .i64 y0, .int .i64 x1, .int .i64 y1] 28 (0, 0)
theorem equal_rc (W : World) (a0 a1 a2 a3 b0 b1 b2 b3 : Int) : (Op.equalIn 10000 28 (rc a0 a1 a2 a3) (rc b0 b1 b2 b3)).run Try.prog W = .ok (eqB ⟨a0, a1, a2, a3⟩ ⟨b0, b1, b2, b3⟩) W := by
  unfold eqB
  by_cases h0 : a0 = b0 <;> by_cases h1 : a1 = b1 <;> by_cases h2 : a2 = b2 <;> by_cases h3 : a3 = b3 <;> simp [go_sem, h0, h1, h2, h3]
end Go.Proofs.Ytfcofhlcainanaa
