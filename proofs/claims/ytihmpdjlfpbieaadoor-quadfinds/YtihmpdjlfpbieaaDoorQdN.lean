/- Plain facts, of no program: what is put and dropped again leaves the row as it was; more is no less deep; five at one point are as deep as it goes. -/
import Derived.Test.YtihmpdjlfpbieaaDoorQdZ
namespace Go.Proofs.YtihmpdjlfpbieaaDoor
open Go.RowKit
set_option linter.unusedVariables false
theorem rdp_mono {L M : List Mk} (h : ∀ r, (rinL L r).length ≤ (rinL M r).length) : ∀ k r d, rdp L k r d ≤ rdp M k r d := by
  intro k
  induction k with
  | zero => intro r d; exact Nat.le_refl _
  | succ k ih =>
    intro r d
    have hr := h r
    by_cases h1 : (rinL L r).length ≤ 4
    · have : rdp L (k + 1) r d = d := by rw [rdp, if_pos h1]
      rw [this]
      exact rdp_ge M (k + 1) r d
    · have h2 : ¬ (rinL M r).length ≤ 4 := by omega
      rw [rdp, rdp, if_neg h1, if_neg h2]
      have a0 := ih (qR r 0) (d + 1)
      have a1 := ih (qR r 1) (d + 1)
      have a2 := ih (qR r 2) (d + 1)
      have a3 := ih (qR r 3) (d + 1)
      omega
theorem rin_append (L M : List Mk) (r : Rc) : rinL (L ++ M) r = rinL L r ++ rinL M r := by simp [rinL]
theorem dep_mono (L M : List Mk) : dep L ≤ dep (L ++ M) :=
  rdp_mono (fun r => by rw [rin_append, List.length_append]; omega) _ _ _
theorem quarter_has {r : Rc} {x y h : Int} (hx : r.x1 = r.x0 + 2 * h) (hy : r.y1 = r.y0 + 2 * h) (hin : inB r x y = true) : ∃ i, i < 4 ∧ inB (qR r i) x y = true ∧ (qR r i).x1 = (qR r i).x0 + h ∧ (qR r i).y1 = (qR r i).y0 + h := by
  rw [inB_iff] at hin
  have e : (r.x1 - r.x0) / 2 = h := by rw [hx]; omega
  by_cases h1 : x < r.x0 + h <;> by_cases h2 : y < r.y0 + h
  · refine ⟨0, by decide, ?_, ?_, ?_⟩
    · rw [inB_iff]; unfold qR; simp only; rw [e]; simp; omega
    · unfold qR; simp only; rw [e]
    · unfold qR; simp only; rw [e]
  · refine ⟨2, by decide, ?_, ?_, ?_⟩
    · rw [inB_iff]; unfold qR; simp only; rw [e]; simp; omega
    · unfold qR; simp only; rw [e]
    · unfold qR; simp only; rw [e]
  · refine ⟨1, by decide, ?_, ?_, ?_⟩
    · rw [inB_iff]; unfold qR; simp only; rw [e]; simp; omega
    · unfold qR; simp only; rw [e]
    · unfold qR; simp only; rw [e]
  · refine ⟨3, by decide, ?_, ?_, ?_⟩
    · rw [inB_iff]; unfold qR; simp only; rw [e]; simp; omega
    · unfold qR; simp only; rw [e]
    · unfold qR; simp only; rw [e]
theorem deep_full {L : List Mk} {x y : Int} (hc : ∀ r, inB r x y = true → 4 < (rinL L r).length) : ∀ (k : Nat) (r : Rc) (d : Nat) (c : Int), r.x1 = r.x0 + 2 ^ k * c → r.y1 = r.y0 + 2 ^ k * c → inB r x y = true → d + k ≤ rdp L k r d := by
  intro k
  induction k with
  | zero => intro r d c _ _ _; exact Nat.le_refl _
  | succ k ih =>
    intro r d c h1 h2 hin
    have e : (2 : Int) ^ (k + 1) * c = 2 * (2 ^ k * c) := by rw [Int.pow_succ, Int.mul_comm (2 ^ k) 2, Int.mul_assoc]
    rw [e] at h1 h2
    obtain ⟨i, hi, hq, g1, g2⟩ := quarter_has h1 h2 hin
    have := ih (qR r i) (d + 1) c g1 g2 hq
    rw [rdp, if_neg (by have := hc r hin; omega)]
    rcases (show i = 0 ∨ i = 1 ∨ i = 2 ∨ i = 3 by omega) with rfl | rfl | rfl | rfl <;> omega
/-- so many at one point -/
def PL (x y : Int) (k : Nat) : List Mk := (List.range k).map fun i => ⟨(i : Nat) + 100, x, y⟩
theorem PL_next (x y : Int) (k : Nat) : PL x y (k + 1) = PL x y k ++ [⟨(k : Nat) + 100, x, y⟩] := by simp [PL, List.range_succ]
theorem PL_len (x y : Int) (k : Nat) : (PL x y k).length = k := by simp [PL]
theorem PL_in {x y : Int} {r : Rc} (h : inB r x y = true) (k : Nat) : (rinL (PL x y k) r).length = k := by
  have e : (PL x y k).filter (fun m => inB r m.x m.y) = PL x y k := by
    rw [List.filter_eq_self]
    intro a ha
    obtain ⟨i, _, rfl⟩ := List.mem_map.1 ha
    exact h
  unfold rinL
  rw [e, List.length_map, PL_len]
theorem dep_le (L : List Mk) : dep L ≤ 4 := by
  have := rdp_le L 4 ⟨0, 0, 64, 64⟩ 0
  unfold dep; omega
theorem dep_five {x y : Int} (ho : onB x y = true) {L : List Mk} {n : Nat} (hn : 4 < n) : dep (L ++ PL x y n) = 4 := by
  have h1 := dep_le (L ++ PL x y n)
  have h2 := deep_full (L := L ++ PL x y n) (x := x) (y := y) (fun r hr => by rw [rin_append, List.length_append, PL_in hr]; omega) 4 ⟨0, 0, 64, 64⟩ 0 4 (by decide) (by decide) ho
  unfold dep at h1 ⊢
  omega
def QL (on : Bool) (L : List Mk) (x y : Int) (k : Nat) : List Mk := if on then L ++ PL x y k else L
def RL (on : Bool) (L : List Mk) (x y : Int) (n k : Nat) : List Mk := if on then L ++ (PL x y n).drop k else L
theorem QL_put {L : List Mk} {x y : Int} {k : Nat} (hk : k < 20) (h : ∀ a ∈ L, a.id < 100) (hl : L.length ≤ 30) : rptS ((k : Nat) + 100) x y (QL (onB x y) L x y k) = QL (onB x y) L x y (k + 1) := by
  cases ho : onB x y
  · exact (put_off (by omega) ho).2
  · unfold QL
    rw [if_pos rfl, if_pos rfl, PL_next, ← List.append_assoc]
    refine (put_end (by omega) ho (fun a ha => ?_) (by rw [List.length_append, PL_len]; omega)).2
    rcases List.mem_append.1 ha with ha | ha
    · have := h a ha; omega
    · obtain ⟨i, hi, rfl⟩ := List.mem_map.1 ha
      have := List.mem_range.1 hi
      simp only; omega
theorem QL_len {on : Bool} {L : List Mk} {x y : Int} {k : Nat} : (QL on L x y k).length ≤ L.length + k := by
  unfold QL
  split
  · rw [List.length_append, PL_len]; omega
  · omega
theorem QL_RL (on : Bool) (L : List Mk) (x y : Int) (n : Nat) : QL on L x y n = RL on L x y n 0 := by
  unfold QL RL
  rw [List.drop_zero]
theorem RL_end (on : Bool) (L : List Mk) (x y : Int) (n : Nat) : RL on L x y n n = L := by
  unfold RL
  rw [List.drop_of_length_le (by rw [PL_len]; exact Nat.le_refl _)]
  split <;> simp
theorem RL_len {on : Bool} {L : List Mk} {x y : Int} {n k : Nat} : (RL on L x y n k).length ≤ L.length + n := by
  unfold RL
  split
  · rw [List.length_append, List.length_drop, PL_len]; omega
  · omega
theorem PL_get {x y : Int} {n k : Nat} (hk : k < n) : (PL x y n).drop k = ⟨(k : Nat) + 100, x, y⟩ :: (PL x y n).drop (k + 1) := by
  have hk' : k < (PL x y n).length := by rw [PL_len]; exact hk
  rw [List.drop_eq_getElem_cons hk']
  congr 1
  simp [PL]
theorem RL_drop {on : Bool} {L : List Mk} {x y : Int} {n k : Nat} (hk : k < n) (h : ∀ a ∈ L, a.id < 100) : rdrS ((k : Nat) + 100) (RL on L x y n k) = RL on L x y n (k + 1) := by
  cases on
  · have : ¬ 0 ≤ rfI ((k : Nat) + 100) L := rf_none (fun a ha => by have := h a ha; omega)
    show rdrS _ L = L
    unfold rdrS
    rw [if_pos (by omega)]
  · unfold RL
    rw [if_pos rfl, if_pos rfl, PL_get hk]
    have hf : rfI ((k : Nat) + 100) (L ++ (⟨(k : Nat) + 100, x, y⟩ :: (PL x y n).drop (k + 1))) = L.length := by
      refine rfI_hit (s := ⟨(k : Nat) + 100, x, y⟩) ?_ rfl (fun j a hj ha => ?_)
      · rw [List.getElem?_append_right (Nat.le_refl _), Nat.sub_self]; rfl
      · rw [List.getElem?_append_left hj] at ha
        have := h a (List.mem_of_getElem? ha)
        omega
    unfold rdrS
    rw [hf, if_neg (by omega), Int.toNat_natCast]
    unfold delS
    rw [List.take_append_of_le_length (Nat.le_refl _), List.take_length, List.drop_append, List.drop_of_length_le (by omega)]
    simp
end Go.Proofs.YtihmpdjlfpbieaaDoor
