/- The statements' known examples of act hold over this translation; small commands; a byte that comes in. No conditions beyond those typed. -/
import Derived.Test.YthmnbphpjmfckaaGreatDoorAc5
namespace Go.Proofs.YthmnbphpjmfckaaGreatDoor
open Go.RowKit Go.Maps
set_option linter.unusedVariables false
abbrev eF : Fl := ⟨0, ⟨#[]⟩⟩
abbrev cmPut (x y : Int) : Cm := ⟨1, 0, 0, 0, x, y, eF, eF, eF, eF, eF, 0, 0, 0, 0, 0, 0⟩
abbrev cmMove (id x y : Int) : Cm := ⟨2, id, 0, 0, x, y, eF, eF, eF, eF, eF, 0, 0, 0, 0, 0, 0⟩
abbrev cmSet (id wh n : Int) : Cm := ⟨3, id, wh, 0, 0, 0, eF, eF, eF, eF, ⟨n, ⟨#[]⟩⟩, 0, 0, 0, 0, 0, 0⟩
abbrev cmDrop (id : Int) : Cm := ⟨4, id, 0, 0, 0, 0, eF, eF, eF, eF, eF, 0, 0, 0, 0, 0, 0⟩
abbrev cmQuit : Cm := ⟨8, 0, 0, 0, 0, 0, eF, eF, eF, eF, eF, 0, 0, 0, 0, 0, 0⟩
theorem eF_in : inF eF := ⟨by decide, by decide, by decide⟩
theorem cm_in {k id wh x y n : Int} (h1 : -9223372036854775808 ≤ n) (h2 : n ≤ 9223372036854775807) : inC ⟨k, id, wh, 0, x, y, eF, eF, eF, eF, ⟨n, ⟨#[]⟩⟩, 0, 0, 0, 0, 0, 0⟩ := ⟨eF_in, eF_in, eF_in, eF_in, by show (0 : Nat) ≤ maxLen; decide, h1, h2⟩
theorem cm_in0 {k id wh x y : Int} : inC ⟨k, id, wh, 0, x, y, eF, eF, eF, eF, eF, 0, 0, 0, 0, 0, 0⟩ := cm_in (by decide) (by decide)
abbrev ka : Th := ⟨4, 3, 0, eF, eF, eF, eF⟩
abbrev kb : Th := ⟨4, 3, 0, eF, ⟨7, ⟨#[]⟩⟩, eF, eF⟩
theorem kn1 : doE [] (cmPut 3 0) 4 = 0 ∧ doN [] (cmPut 3 0) 4 = 4 ∧ doE [ka] (cmMove 9 0 0) 0 = 15 ∧ doN [ka] (cmMove 9 0 0) 0 = 0 ∧ doE [ka] (cmSet 4 1 7) 0 = 0 ∧ doN [ka] (cmSet 4 1 7) 0 = 4 ∧ chk [kb] (cmSet 4 4 0) = 18 ∧ chk [kb] cmQuit = 11 := by decide +kernel
theorem kn2 : doL [] (cmPut 3 0) 4 = [ka] ∧ doL [ka] (cmMove 9 0 0) 0 = [ka] ∧ doL [ka] (cmSet 4 1 7) 0 = [kb] := by
  refine ⟨?_, ?_, ?_⟩ <;> kernel_rfl
set_option maxHeartbeats 4000000 in
set_option maxRecDepth 100000 in
theorem known11 (w : World) (hM : Masks w) : Calls Tryz.prog 8 #[] w fun e w' => e = .returned (.bool true) ∧ Below w.heap.size w w' := by
  have C0 := tk_new hM
  obtain ⟨a1, a2, a3, a4, a5, a6, a7, a8⟩ := kn1
  obtain ⟨b1, b2, b3⟩ := kn2
  have A1 := hid a1
  have A2 := hid a2
  have A3 := hid a3
  have A4 := hid a4
  have A5 := hid a5
  have A6 := hid a6
  have A7 := hid a7
  have A8 := hid a8
  have B1 := hid b1
  have B2 := hid b2
  have B3 := hid b3
  clear a1 a2 a3 a4 a5 a6 a7 a8 b1 b2 b3 hM
  go_enter Tryz.func8, Tryz.ntmps8
  go_wp2_with fail
  refine C0.mono ?_
  rintro z W1 ⟨tb, rfl, T1⟩
  clear C0
  go_wp2_with fail
  with_reducible refine (act_do (c := cmPut 3 0) (id := 4) T1 cm_in0 (inI_small (by decide) (by decide)) A2 A1 B1).mono ?_
  rintro z W2 ⟨rfl, T2, -⟩
  clear T1
  go_wp2_with fail
  with_reducible refine (act_do (c := cmMove 9 0 0) (id := 0) T2 cm_in0 (inI_small (by decide) (by decide)) A4 A3 B2).mono ?_
  rintro z W3 ⟨rfl, T3, -⟩
  clear T2
  go_wp2_with fail
  with_reducible refine (act_do (c := cmSet 4 1 7) (id := 0) T3 (cm_in (by decide) (by decide)) (inI_small (by decide) (by decide)) A6 A5 B3).mono ?_
  rintro z W4 ⟨rfl, T4, -⟩
  clear T3
  go_wp2_with fail
  with_reducible refine (tk_all T4 (n := 1) (hid rfl)).mono ?_
  rintro z W5 ⟨p5, c5, rfl, -, hb5⟩
  have T5 := T4.later hb5
  clear T4 hb5
  go_wp2_with fail
  with_reducible refine (tk_all T5 (n := 1) (hid rfl)).mono ?_
  rintro z W6 ⟨p6, c6, rfl, hR, hb6⟩
  have T6 := T5.later hb6
  obtain ⟨b, off, rfl, hc⟩ := hR.at (k := 0) (t := kb) rfl
  have h5 : W6.cell? ⟨b, off + 5, none⟩ = some (.int .i64 7) := by simpa using hc.2.2.2.2.2.1
  have h5' : W6.cell? ⟨b, off + 3 + 2, none⟩ = some (.int .i64 7) := h5
  clear T5 hb6 hR hc
  go_wp2_with fail
  with_reducible refine (act_check (c := cmSet 4 4 0) T6 (in_sized (cm_in (by decide) (by decide))) A7).mono ?_
  rintro z W7 ⟨rfl, hb7⟩
  have T7 := T6.later hb7
  clear T6 h5 h5' hb7
  go_wp2_with fail
  with_reducible refine (act_check (c := cmQuit) T7 (in_sized cm_in0) A8).mono ?_
  rintro z W8 ⟨rfl, hb8⟩
  have hB := (T7.later hb8).below
  clear T7 hb8
  go_wp2
  go_ret
  exact ⟨rfl, hB⟩
end Go.Proofs.YthmnbphpjmfckaaGreatDoor
