/- Contracts of Some of the package thing and of the reference: the row of things at the beginning of bytes, in memory of its own, how many bytes they are, or what is wrong. -/
import Derived.Test.YtkklchobiiajgaaThgS
import Derived.Test.YtkklchobiiajgaaThgN
namespace Go.Proofs.Ytkklchobiiajgaa
open Go.RowKit
set_option linter.unusedVariables false
theorem Try.infoT : (Try.prog.info? 43).map (fun i => (i.zero, i.size, i.bytes)) = some (some zT.v, 11, 120) := by kernel_rfl
/-- what a call that reads a row of things answers -/
def RowsOf (w : World) (L : List Th) (z e : Nat) : Ending → World → Prop := fun x w' => ∃ v, x = .returned (.tuple #[v, .int .i64 z, .int .i64 e]) ∧ w'.ownsRow w.heap.size 43 11 v L.length (flatT L) ∧ Below w.heap.size w w'
theorem readcut_at {s : ByteArray} {z : Nat} {t : Th} {n e : Nat} (h : Hid (readT (s.data.toList.drop z) = (t, n, e))) (hs : s.size ≤ 1000000) (w : World) :
    Calls Try.prog 66 #[.string (s.extract z s.size)] w fun x w' => x = .returned (.tuple #[t.v, .int .i64 n, .int .i64 e]) ∧ Below w.heap.size w w' :=
  thing_read (by show readT _ = _; rw [cut_data]; exact h.out) (by rw [ByteArray.size_extract]; omega) w
theorem refreadcut_at {s : ByteArray} {z : Nat} {t : Th} {n e : Nat} (h : Hid (readT (s.data.toList.drop z) = (t, n, e))) (hs : s.size ≤ 1000000) (w : World) :
    Calls Try.prog 68 #[.string (s.extract z s.size)] w fun x w' => x = .returned (.tuple #[t.v, .int .i64 n, .int .i64 e]) ∧ Below w.heap.size w w' :=
  ref_readThing (by show readT _ = _; rw [cut_data]; exact h.out) (by rw [ByteArray.size_extract]; omega) w
theorem cs_one (t : Th) : ∀ u ∈ t.cs, u.oneCell' = true := by
  intro u hu
  simp only [Th.cs, List.mem_cons, List.not_mem_nil, or_false] at hu
  rcases hu with rfl | rfl | rfl | rfl | rfl | rfl | rfl | rfl | rfl | rfl | rfl <;> rfl
end Go.Proofs.Ytkklchobiiajgaa
