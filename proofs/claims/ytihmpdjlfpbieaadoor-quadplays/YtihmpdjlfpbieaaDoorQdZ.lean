/- Plain facts, of no program: what is put behind all others; how many a whole map has; how deep it is with more and with less. -/
import Derived.Test.YtihmpdjlfpbieaaDoorQdY
namespace Go.Proofs.YtihmpdjlfpbieaaDoor
open Go.RowKit
set_option linter.unusedVariables false
theorem rf_none {id : Int} {L : List Mk} (h : ∀ a ∈ L, a.id < id) : ¬ 0 ≤ rfI id L := by
  rw [rf_mem]
  rintro ⟨a, ha, e⟩
  have := h a ha
  omega
theorem ahead_all {id : Int} {L : List Mk} (h : ∀ a ∈ L, a.id < id) : ahead id L = L.length :=
  ahead_eq (Nat.le_refl _) (fun j a _ ha => h a (List.mem_of_getElem? ha)) (fun a ha => by rw [List.getElem?_eq_none (Nat.le_refl _)] at ha; cases ha)
/-- put behind all others -/
theorem put_end {id x y : Int} {L : List Mk} (h0 : 0 ≤ id) (ho : onB x y = true) (h : ∀ a ∈ L, a.id < id) (hl : L.length < 200) : rptE id x y L = 0 ∧ rptS id x y L = L ++ [⟨id, x, y⟩] := by
  have he : rptE id x y L = 0 := by
    unfold rptE
    rw [if_neg (by omega), ho, if_neg (by simp), if_neg (rf_none h), if_neg (by omega)]
  refine ⟨he, ?_⟩
  unfold rptS
  rw [if_pos he, ahead_all h, insS_end]
theorem put_off {id x y : Int} {L : List Mk} (h0 : 0 ≤ id) (ho : onB x y = false) : rptE id x y L = 14 ∧ rptS id x y L = L := by
  have he : rptE id x y L = 14 := by
    unfold rptE
    rw [if_neg (by omega), ho, if_pos rfl]
  refine ⟨he, ?_⟩
  unfold rptS
  rw [if_neg (by rw [he]; decide)]
theorem put_full {id x y : Int} {L : List Mk} (h0 : 0 ≤ id) (ho : onB x y = true) (h : ∀ a ∈ L, a.id < id) (hl : 200 ≤ L.length) : rptE id x y L = 16 ∧ rptS id x y L = L := by
  have he : rptE id x y L = 16 := by
    unfold rptE
    rw [if_neg (by omega), ho, if_neg (by simp), if_neg (rf_none h), if_pos hl]
  refine ⟨he, ?_⟩
  unfold rptS
  rw [if_neg (by rw [he]; decide)]
theorem drop_one {id : Int} {L : List Mk} (h : ∃ a ∈ L, a.id = id) : rdrE id L = 0 ∧ (rdrS id L).length + 1 = L.length ∧ ∀ a ∈ rdrS id L, a ∈ L := by
  have hf := rf_mem.2 h
  have hlt := rfI_lt hf
  unfold rdrE rdrS
  rw [if_neg (by omega), if_neg (by omega)]
  refine ⟨rfl, ?_, fun a ha => (delS_sub L _).subset ha⟩
  rw [delS_length hlt]; omega
theorem rin_whole {L : List Mk} (h : ∀ a ∈ L, onB a.x a.y = true) : (rinL L ⟨0, 0, 64, 64⟩).length = L.length := by
  unfold rinL
  have e : (L.filter fun m => inB ⟨0, 0, 64, 64⟩ m.x m.y) = L := List.filter_eq_self.2 (fun a ha => h a ha)
  rw [List.length_map, e]
def FL (s k : Nat) : List Mk := (List.range k).map fun i => ⟨(i : Nat), ((i * 7 + s) % 64 : Nat), ((i * 13 + s / 64) % 64 : Nat)⟩
theorem FL_len (s k : Nat) : (FL s k).length = k := by simp [FL]
theorem FL_next (s k : Nat) : FL s (k + 1) = FL s k ++ [⟨(k : Nat), ((k * 7 + s) % 64 : Nat), ((k * 13 + s / 64) % 64 : Nat)⟩] := by
  simp [FL, List.range_succ]
theorem FL_mem {s k : Nat} {a : Mk} (h : a ∈ FL s k) : 0 ≤ a.id ∧ a.id < k ∧ onB a.x a.y = true := by
  obtain ⟨i, hi, rfl⟩ := List.mem_map.1 h
  have := List.mem_range.1 hi
  refine ⟨by simp only; omega, by simp only; omega, ?_⟩
  simp [onB, inB]
  omega
theorem onB_nat {a b : Nat} (ha : a < 64) (hb : b < 64) : onB (a : Nat) (b : Nat) = true := by
  simp [onB, inB]
  omega
theorem FL_put {s k : Nat} (hk : k < 200) : rptE (k : Nat) ((k * 7 + s) % 64 : Nat) ((k * 13 + s / 64) % 64 : Nat) (FL s k) = 0 ∧ rptS (k : Nat) ((k * 7 + s) % 64 : Nat) ((k * 13 + s / 64) % 64 : Nat) (FL s k) = FL s (k + 1) := by
  rw [FL_next]
  exact put_end (by omega) (onB_nat (Nat.mod_lt _ (by decide)) (Nat.mod_lt _ (by decide))) (fun a ha => (FL_mem ha).2.1) (by rw [FL_len]; exact hk)
theorem FL_has {s k i : Nat} (hi : i < k) : ∃ a ∈ FL s k, a.id = (i : Nat) :=
  ⟨_, List.mem_map.2 ⟨i, List.mem_range.2 hi, rfl⟩, rfl⟩
end Go.Proofs.YtihmpdjlfpbieaaDoor
