/- The statements' known examples of world hold over this translation; small commands. No conditions beyond those typed. -/
import Derived.Test.YtfoncphdbaaedaaGreatDoorWC
namespace Go.Proofs.YtfoncphdbaaedaaGreatDoor
open Go.RowKit Go.Maps
set_option linter.unusedVariables false
abbrev eF : Fl := ⟨0, ⟨#[]⟩⟩
abbrev cmPut (x y : Int) : Cm := ⟨1, 0, 0, 0, x, y, eF, eF, eF, eF, eF, 0, 0, 0, 0, 0, 0⟩
abbrev cmMove (id x y : Int) : Cm := ⟨2, id, 0, 0, x, y, eF, eF, eF, eF, eF, 0, 0, 0, 0, 0, 0⟩
abbrev cmSet (id wh n : Int) : Cm := ⟨3, id, wh, 0, 0, 0, eF, eF, eF, eF, ⟨n, ⟨#[]⟩⟩, 0, 0, 0, 0, 0, 0⟩
abbrev cmDrop (id : Int) : Cm := ⟨4, id, 0, 0, 0, 0, eF, eF, eF, eF, eF, 0, 0, 0, 0, 0, 0⟩
theorem eF_in : inF eF := ⟨by decide, by decide, by decide⟩
theorem cm_in {k id wh x y n : Int} (h1 : -9223372036854775808 ≤ n) (h2 : n ≤ 9223372036854775807) : inC ⟨k, id, wh, 0, x, y, eF, eF, eF, eF, ⟨n, ⟨#[]⟩⟩, 0, 0, 0, 0, 0, 0⟩ := ⟨eF_in, eF_in, eF_in, eF_in, by show (0 : Nat) ≤ maxLen; decide, h1, h2⟩
theorem cm_in0 {k id wh x y : Int} : inC ⟨k, id, wh, 0, x, y, eF, eF, eF, eF, eF, 0, 0, 0, 0, 0, 0⟩ := cm_in (by decide) (by decide)
abbrev ka : Th := ⟨4, 3, 0, eF, eF, eF, eF⟩
abbrev kz : Th := ⟨3, 0, 0, eF, eF, eF, eF⟩
theorem kn1 : wdE [] (cmPut 3 0) 4 = 0 ∧ wdN [] (cmPut 3 0) 4 = 4 ∧ wdE [ka] (cmDrop 5) 0 = 15 ∧ wdN [ka] (cmDrop 5) 0 = 0 ∧ wdE [ka] (cmDrop 4) 0 = 0 ∧ wdN [ka] (cmDrop 4) 0 = 4 := by decide +kernel
theorem kn2 : wdL [] (cmPut 3 0) 4 = [ka] ∧ wdL [ka] (cmDrop 5) 0 = [ka] ∧ wdL [ka] (cmDrop 4) 0 = [] ∧ stW [cmPut 0 0] [3] [] 1 = [kz] ∧ inT_r ⟨0, 0, 4, 1⟩ [ka] = [ka] := by
  refine ⟨?_, ?_, ?_, ?_, ?_⟩ <;> kernel_rfl
set_option maxHeartbeats 4000000 in
set_option maxRecDepth 100000 in
theorem known12 (w : World) (hM : Masks w) : Calls Tryz.prog 7 #[] w fun e w' => e = .returned (.bool true) ∧ Below w.heap.size w w' := by
  have C0 := wd_new hM
  obtain ⟨a1, a2, a3, a4, a5, a6⟩ := kn1
  obtain ⟨b1, b2, b3, b4, b5⟩ := kn2
  have A1 := hid a1
  have A2 := hid a2
  have A3 := hid a3
  have A4 := hid a4
  have A5 := hid a5
  have A6 := hid a6
  have B1 := hid b1
  have B2 := hid b2
  have B3 := hid b3
  have B4 := hid b4
  have B5 := hid b5
  have HM := hid hM
  clear a1 a2 a3 a4 a5 a6 b1 b2 b3 b4 b5 hM
  go_enter Tryz.func7, Tryz.ntmps7
  go_wp2_with fail
  refine C0.mono ?_
  rintro z W1 ⟨wb, rfl, T1⟩
  clear C0
  go_wp2_with fail
  with_reducible refine (wd_do (c := cmPut 3 0) (id := 4) T1 cm_in0 (inI_small (by decide) (by decide)) A2 A1 B1).mono ?_
  rintro z W2 ⟨rfl, T2', -⟩
  clear T1
  go_wp2_with fail
  with_reducible refine (wd_do (c := cmDrop 5) (id := 0) T2' cm_in0 (inI_small (by decide) (by decide)) A4 A3 B2).mono ?_
  rintro z W3 ⟨rfl, T3, -⟩
  clear T2'
  go_wp2_with fail
  with_reducible refine (t2_copy T3 HM.out).mono ?_
  rintro z W4 ⟨cb, rfl, T4, -⟩
  clear T3
  go_wp2_with fail
  with_reducible refine (t2_do (c := cmDrop 4) (id := 0) T4 cm_in0 (inI_small (by decide) (by decide)) A6 A5 B3).mono ?_
  rintro z W5 ⟨rfl, T5, -⟩
  clear T4
  go_wp2_with fail
  with_reducible refine (wd_len T5.fst (n := 0) (hid rfl)).mono ?_
  rintro z W6 ⟨rfl, hw⟩
  rw [hw]
  clear hw W6
  go_wp2_with fail
  with_reducible refine (wd_len T5.snd (n := 1) (hid rfl)).mono ?_
  rintro z W6 ⟨rfl, hw⟩
  rw [hw]
  clear hw W6
  go_wp2_with fail
  with_reducible refine (wd_see T5.snd 0 0 4 1 B5 (n := 1) (hid rfl)).mono ?_
  rintro z W7 ⟨p7, c7, rfl, -, hb7⟩
  have T7 := T5.later hb7
  clear T5 hb7
  go_wp2_with fail
  with_reducible refine (wd_all T7.snd (n := 1) (hid rfl)).mono ?_
  rintro z W8 ⟨p8, c8, rfl, -, hb8⟩
  have hB8 := (T7.later hb8).below
  clear T7 hb8
  have hb9 : Below W8.heap.size W8 (W8.alloc (cmPut 0 0).o) := below1 _ _
  have K9 : (W8.alloc (cmPut 0 0).o).heap[W8.heap.size]? = some (cmPut 0 0).o := new_at _ _ _ rfl
  have hb10 := below1 (W8.alloc (cmPut 0 0).o) (.cells #[.int .i64 3] 3)
  have K10 : ((W8.alloc (cmPut 0 0).o).alloc (.cells #[.int .i64 3] 3)).heap[(W8.alloc (cmPut 0 0).o).heap.size]? = some (.cells #[.int .i64 3] 3 (0, 0)) := new_at _ _ _ rfl
  have hB10 := below_on (below_on hB8 hb9) hb10
  have C := wd_of (HM.out.below hB10) (p := some ⟨W8.heap.size, 0, none⟩) (q := some ⟨W8.heap.size + 1, 0, none⟩) (cap := 1) (cap' := 1) (cs := [cmPut 0 0]) (ids := [3]) (rowM_one (var_on hb10 K9 (lt_of_at K9))) (by intro c hc; simp at hc; subst hc; exact cm_in0) (n := 1) rfl (by decide) (rowI_one (by simpa using K10)) (by intro i hi; simp at hi; subst hi; exact inI_small (by decide) (by decide)) (m := 1) rfl (by decide) B4
  clear hb9 K9 hb10 K10 hB8
  go_wp2_with fail
  refine C.mono ?_
  rintro z W11 ⟨ob11, rfl, T11⟩
  have hB11 := below_on hB10 T11.below
  clear C hB10
  go_wp2_with fail
  with_reducible refine (wd_len T11 (n := 1) (hid rfl)).mono ?_
  rintro z W12 ⟨rfl, hw⟩
  rw [hw]
  clear hw W12 T11
  go_wp2
  go_ret
  exact ⟨rfl, hB11⟩
end Go.Proofs.YtfoncphdbaaedaaGreatDoor
