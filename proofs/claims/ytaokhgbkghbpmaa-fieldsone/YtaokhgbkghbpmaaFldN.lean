/- Plain facts on one field that is changed. -/
import Derived.Test.YtaokhgbkghbpmaaFldL
import Derived.Test.YtaokhgbkghbpmaaFldB
namespace Go.Proofs.Ytaokhgbkghbpmaa
open Go.RowKit
set_option linter.unusedVariables false
theorem put_small (n : Nat) (h : n < 128) : (put n).length = 1 := by unfold put; rw [putF_last _ _ h]; rfl
def oB (k : Nat) (f : Fl) : Th := ({ id := 7, x := 1, y := 2, f0 := zF, f1 := zF, f2 := zF, f3 := zF } : Th).set k f
def oA : Th := ⟨7, 1, 2, zF, zF, zF, zF⟩
def oD (k : Nat) (f : Fl) : Dl := ({ id := 7, m := 2 ^ (k + 1), x := 0, y := 0, f0 := zF, f1 := zF, f2 := zF, f3 := zF } : Dl).set k f
theorem one_diff (k : Nat) (hk : k < 4) (f : Fl) (hf : ¬ f = zF) : diff oA (oB k f) = (oD k f, true) := by
  have hf' : eqF zF f = false := eqF_no.2 (fun h => hf h.symm)
  have hzz : eqF zF zF = true := eqF_self zF
  have e : dK oA (oB k f) 4 = oD k f := by
    rw [dK4]
    obtain rfl | rfl | rfl | rfl : k = 0 ∨ k = 1 ∨ k = 2 ∨ k = 3 := by omega
    all_goals simp only [oA, oB, oD, Th.set, Dl.set, neF, ne0, pEq, hf', hzz, Bool.not_true, Bool.not_false, cond_true, cond_false, BEq.rfl, Bool.and_self] <;> rfl
  unfold diff
  rw [e, if_neg]
  obtain rfl | rfl | rfl | rfl : k = 0 ∨ k = 1 ∨ k = 2 ∨ k = 3 := by omega
  all_goals simp [oD, Dl.set]
theorem one_same (k : Nat) (hk : k < 4) : oB k zF = oA := by
  obtain rfl | rfl | rfl | rfl : k = 0 ∨ k = 1 ∨ k = 2 ∨ k = 3 := by omega
  all_goals rfl
theorem one_ne (k : Nat) (hk : k < 4) (f : Fl) (hf : ¬ f = zF) : eqT (oB k f) oA = false := by
  rw [eqT_no]
  intro h
  apply hf
  obtain rfl | rfl | rfl | rfl : k = 0 ∨ k = 1 ∨ k = 2 ∨ k = 3 := by omega
  all_goals (simp [oB, oA, Th.set] at h; exact h)
theorem one_isD (k : Nat) (hk : k < 4) (f : Fl) (hf : isF f = true) : isD (oD k f) = true := by
  have z : isF zF = true := by decide
  unfold isD
  obtain rfl | rfl | rfl | rfl : k = 0 ∨ k = 1 ∨ k = 2 ∨ k = 3 := by omega
  all_goals simp [oD, Dl.set, Dl.f, hf, z, eqF_self, onB, inB, pEq, List.range, List.range.loop, Nat.testBit]
theorem one_bytes (k : Nat) (hk : k < 4) (f : Fl) : (bytesK (oD k f) 4).length = 2 + (told f).length := by
  have p7 : (put 7).length = 1 := put_small _ (by omega)
  have p2 : (put 2).length = 1 := put_small _ (by omega)
  have p4 : (put 4).length = 1 := put_small _ (by omega)
  have p8 : (put 8).length = 1 := put_small _ (by omega)
  have p16 : (put 16).length = 1 := put_small _ (by omega)
  obtain rfl | rfl | rfl | rfl : k = 0 ∨ k = 1 ∨ k = 2 ∨ k = 3 := by omega
  all_goals simp [bytesK, oD, Dl.set, Dl.f, Nat.testBit, p7, p2, p4, p8, p16] <;> omega
theorem told_text {f : Fl} (h : ¬ f.s.data.toList = []) (hs : f.s.size ≤ 12) : (told f).length = 1 + f.s.size := by
  unfold told text
  have : f.s.data.toList.length = f.s.size := rfl
  rw [if_neg h, List.append_nil, List.length_append, put_small _ (by omega)]
  omega
theorem told_num {f : Fl} (h : f.s.data.toList = []) : 1 ≤ (told f).length ∧ (told f).length ≤ 11 := by
  unfold told text
  rw [if_pos h, h]
  have h1 := put_length (zig f.n)
  have h2 := put_small 0 (by omega)
  simp only [List.length_append, List.length_nil]
  omega
theorem one_fit (k : Nat) (hk : k < 4) (f : Fl) (hf : fitF f) : ∀ j, fitF ((oD k f).f j) := by
  have z : fitF zF := ⟨by decide, by decide, by decide⟩
  intro j
  obtain rfl | rfl | rfl | rfl : k = 0 ∨ k = 1 ∨ k = 2 ∨ k = 3 := by omega
  all_goals
    match j with
    | 0 => first | exact hf | exact z
    | 1 => first | exact hf | exact z
    | 2 => first | exact hf | exact z
    | j + 3 => first | exact hf | exact z
theorem one_isF {n : Int} : isF ⟨n, ⟨#[]⟩⟩ = true := by simp [isF, ByteArray.toList_eq, ByteArray.size]
theorem one_isFs {s : ByteArray} (h : s.size ≤ 12) : isF ⟨0, s⟩ = true := by simp [isF, h]
end Go.Proofs.Ytaokhgbkghbpmaa
