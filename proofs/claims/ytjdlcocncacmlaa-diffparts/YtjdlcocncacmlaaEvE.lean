/- Contract of Bytes of the package event. -/
import Derived.Test.YtjdlcocncacmlaaEvD
namespace Go.Proofs.Ytjdlcocncacmlaa
open Go.RowKit
set_option linter.unusedVariables false
abbrev zeroEO : Obj := .cells #[.int .i64 0, .int .i64 0, .int .i64 0, .int .i64 0, .int .i64 0, .int .i64 0, .string ⟨#[]⟩, .int .i64 0, .string ⟨#[]⟩, .int .i64 0, .string ⟨#[]⟩, .int .i64 0, .string ⟨#[]⟩, .int .i64 0, .int .u8 0, .int .i64 0, .int .i64 0, .int .i64 0, .string ⟨#[]⟩, .int .i64 0, .string ⟨#[]⟩, .int .i64 0, .string ⟨#[]⟩, .int .i64 0, .string ⟨#[]⟩] 44 (0, 0)
theorem new_zeroE (W : World) : (W.alloc zeroEO).heap[W.heap.size]? = some zE.o := new_at _ _ _ rfl
theorem esB_no {L : List Ev} (h : L.all isE = false) : esB L = ([], 11) := by unfold esB; rw [if_neg (by simp [h])]
theorem esB_large {L : List Ev} (h : L.all isE = true) (hl : 400 < L.length) : esB L = ([], 13) := by unfold esB; rw [if_pos h, if_pos hl]
theorem esB_yes {L : List Ev} (h : L.all isE = true) (hl : L.length ≤ 400) : esB L = (put L.length ++ L.flatMap evB, 0) := by unfold esB; rw [if_pos h, if_neg (by omega)]
theorem take_flatEv {L : List Ev} {k : Nat} {t : Ev} (h : L[k]? = some t) : (L.take (k + 1)).flatMap evB = (L.take k).flatMap evB ++ evB t := by
  rw [take_es h]; simp
theorem kind_wrap {e : Ev} (h : isE e = true) : 0 ≤ e.k ∧ e.k ≤ 1000000 ∧ IntKind.u64.wrap e.k = e.k := by
  rcases isE_kind h with k | k | k <;> rw [k] <;> exact ⟨by decide, by decide, by decide⟩
end Go.Proofs.Ytjdlcocncacmlaa
