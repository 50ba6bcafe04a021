/- Notes in memory: a note's value, its rows; contracts of the small functions of note. -/
import Derived.Test.YtpedngbjpbeanaaGreatDoorNtP
import Derived.Test.YtpedngbjpbeanaaGreatDoorXN
import Derived.Lib.MinMax
namespace Go.Proofs.YtpedngbjpbeanaaGreatDoor
open Go.RowKit
set_option linter.unusedVariables false
/-- where a note's rows lie -/
structure Ns where
  pm : Option Addr
  cm : Nat
  ph : Option Addr
  ch : Nat
  pg : Option Addr
  cg : Nat
  pw : Option Addr
  cw : Nat
def zS : Ns := ⟨none, 0, none, 0, none, 0, none, 0⟩
abbrev Nt.v (n : Nt) (s : Ns) : Value := .agg #[.int .i64 n.fr, .int .i64 n.be, .slice s.pm n.mo.length s.cm, .slice s.ph n.ha.length s.ch, .slice s.pg n.gi.length s.cg, .slice s.pw n.wa.length s.cw]
abbrev Nt.o (n : Nt) (s : Ns) : Obj := .cells #[.int .i64 n.fr, .int .i64 n.be, .slice s.pm n.mo.length s.cm, .slice s.ph n.ha.length s.ch, .slice s.pg n.gi.length s.cg, .slice s.pw n.wa.length s.cw] 26 (0, 0)
structure RowN (W : World) (s : Ns) (n : Nt) : Prop where
  mo : RowT W s.pm n.mo
  ha : RowG Hd.cs 2 W s.ph n.ha
  gi : RowT W s.pg n.gi
  wa : RowM W s.pw n.wa
theorem RowN.later {w wr : World} {s : Ns} {n : Nt} (h : RowN w s n) (hb : Below w.heap.size w wr) : RowN wr s n := ⟨h.mo.later hb, h.ha.later hb, h.gi.later hb, h.wa.later hb⟩
/-- the rows are not too long for the machine -/
structure LenN (n : Nt) : Prop where
  mo : n.mo.length ≤ maxLen
  ha : n.ha.length ≤ maxLen
  gi : n.gi.length ≤ maxLen
  wa : n.wa.length ≤ maxLen
theorem note_below (w : World) (n k : Int) : Calls Tryz.prog 28 #[.int .i64 n, .int .i64 k] w fun e w' => e = .returned (.bool (belB n k)) ∧ Below w.heap.size w w' := by
  obtain ⟨Q, hQ⟩ : ∃ Q : Bool, Hid (belB n k = Q) := ⟨_, rfl⟩
  rw [hQ.out]
  go_enter Tryz.func28, Tryz.ntmps28
  have h := hQ.out
  unfold belB at h
  by_cases h0 : 0 ≤ n
  · have e0 : decide (0 ≤ n) = true := by simpa using h0
    cases e1 : decide (n < k)
    · rw [e0, e1] at h
      subst h
      have := hid e1
      go_wp2_with fail
      all_goals (try (exact ⟨rfl, Below.refl _ _⟩))
      all_goals (try (go_ret; exact ⟨rfl, Below.refl _ _⟩))
    · rw [e0, e1] at h
      subst h
      go_wp2_with fail
      all_goals (try (exact ⟨rfl, Below.refl _ _⟩))
      all_goals (try (go_ret; exact ⟨rfl, Below.refl _ _⟩))
  · have e0 : decide (0 ≤ n) = false := by simpa using h0
    rw [e0] at h
    subst h
    go_wp2_with fail
    all_goals (try (exact ⟨rfl, Below.refl _ _⟩))
    all_goals (try (go_ret; exact ⟨rfl, Below.refl _ _⟩))
theorem below_at {n k : Int} {q : Bool} (h : Hid (belB n k = q)) (w : World) : Calls Tryz.prog 28 #[.int .i64 n, .int .i64 k] w fun e w' => e = .returned (.bool q) ∧ Below w.heap.size w w' := by
  rw [← h.out]; exact note_below w n k
theorem watches_at {c : Cm} {q : Bool} (h : Hid (watchB c.kd = q)) (w : World) : Calls Tryz.prog 64 #[c.v] w fun e w' => e = .returned (.bool q) ∧ Below w.heap.size w w' := by
  rw [← h.out]; exact cmd_watches w c
end Go.Proofs.YtpedngbjpbeanaaGreatDoor
