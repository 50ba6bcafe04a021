/- The statements' known examples hold over this translation. No conditions beyond those typed. -/
import Derived.Test.YtildhbkcpehobaaGreatDoorTbX
namespace Go.Proofs.YtildhbkcpehobaaGreatDoor
open Go.RowKit Go.Maps
set_option linter.unusedVariables false
theorem row_two {W : World} {g : Nat} (h : W.heap[g]? = some (.cells (kx.cs ++ kx.cs).toArray 33 (0, 0))) : RowT W (some ⟨g, 0, none⟩) [kx, kx] := by
  have c := (cells_at h).1
  refine .inr ⟨g, 0, rfl, fun k t hk => ?_⟩
  have hk' : k = 0 ∨ k = 1 := by
    have := (List.getElem?_eq_some_iff.1 hk).1
    simp at this
    omega
  rcases hk' with rfl | rfl
  · simp at hk
    subst hk
    exact cellsT_of fun j hj => by
      rw [Nat.zero_mul, Nat.zero_add, c j]
      rw [List.getElem?_toArray, List.getElem?_append_left (by simpa [Th.cs] using hj)]
  · simp at hk
    subst hk
    exact cellsT_of fun j hj => by
      rw [c]
      rw [List.getElem?_toArray, List.getElem?_append_right (by simp [Th.cs])]
      congr 1
      simp [Th.cs]
set_option maxHeartbeats 4000000 in
set_option maxRecDepth 100000 in
theorem known9 (w : World) (hM : Masks w) : Calls Tryz.prog 4 #[] w fun e w' => e = .returned (.bool true) ∧ Below w.heap.size w w' := by
  have C0 := tk_new hM
  obtain ⟨a1, a2, a3, a4, a5⟩ := k1
  obtain ⟨b1, b2, b3, b4, b5⟩ := k2
  obtain ⟨d1, d2, d3, d4⟩ := k3
  have A1 := hid a1
  have A2 := hid a2
  have A3 := hid a3
  have A4 := hid a4
  have A5 := hid a5
  have B1 := hid b1
  have B2 := hid b2
  have B3 := hid b3
  have B4 := hid b4
  have B5 := hid b5
  have D1 := hid d1
  have D2 := hid d2
  have D3 := hid d3
  have D4 := hid d4
  clear a1 a2 a3 a4 a5 b1 b2 b3 b4 b5 d1 d2 d3 d4
  have hx : inT kx := thN_in 5 3 3
  have q25 : ∀ (w : World) (a : Addr), (binOp .eql 24 (.pointer (some a)) (.pointer none)).run Tryz.prog w = .ok (.bool false) w := fun w a => by simp [go_sem]
  clear hM
  go_enter Tryz.func4, Tryz.ntmps4
  go_wp2_with fail
  refine C0.mono ?_
  rintro z W1 ⟨tb, rfl, T1⟩
  clear C0
  obtain ⟨W2, hW2⟩ : ∃ W2, W1.alloc kx.o = W2 := ⟨_, rfl⟩
  have T2 : TK w W2 tb [] [W1.heap.size] := by rw [← hW2]; exact T1.also (below1 _ _) (Nat.le_refl _) (by simp)
  have K2 := hid (show W2.heap[W1.heap.size]? = some kx.o by rw [← hW2]; exact new_at _ _ _ rfl)
  clear T1
  unfold Th.o at hW2
  simp only at hW2
  have HW2 := hid hW2
  clear hW2
  go_upto_region 3 with fail
  rw [HW2.out]
  clear HW2
  have c := cells_at K2.out
  go_wp2_with fail
  refine (tk_put T2 hx A1 B1).mono ?_
  rintro z W3 ⟨rfl, T3, hK⟩
  have K3 := hid (hK.at (g := W1.heap.size) (by simp) K2.out)
  clear hK T2 K2 c
  have c := cells_at K3.out
  go_wp2_with fail
  refine (tk_put T3 hx A2 B2).mono ?_
  rintro z W4 ⟨rfl, T4, hK⟩
  have K4 := hid (hK.at (g := W1.heap.size) (by simp) K3.out)
  clear hK T3 K3 c
  go_wp2_with fail
  refine (tk_set T4 (thN_in 6 0 0) A3 B3).mono ?_
  rintro z W5 ⟨rfl, T5, hK⟩
  have K5 := hid (hK.at (g := W1.heap.size) (by simp) K4.out)
  clear hK T4 K4
  go_wp2_with fail
  refine (tk_drop T5 (inI_small (by decide) (by decide)) A4 B4).mono ?_
  rintro z W6 ⟨rfl, T6, hK⟩
  have K6 := hid (hK.at (g := W1.heap.size) (by simp) K5.out)
  clear hK T5 K5
  go_wp2_with fail
  refine (tk_get T6 (inI_small (by decide) (by decide)) B5 A5).mono ?_
  rintro z W7 ⟨rfl, hb7⟩
  obtain ⟨W8, hW8⟩ : ∃ W8, W7.alloc kx.o = W8 := ⟨_, rfl⟩
  have hb8 : Below W6.heap.size W6 W8 := by rw [← hW8]; exact hb7.alloc hb7.size _
  have T8 := T6.later hb8
  have K8 := hid (var_on hb8 K6.out (lt_of_at K6.out))
  have J8 := hid (show W8.heap[W7.heap.size]? = some kx.o by rw [← hW8]; exact new_at _ _ _ rfl)
  clear hb7 hb8 T6 K6
  unfold Th.o at hW8
  simp only at hW8
  have HW8 := hid hW8
  clear hW8
  go_upto_region 6 with fail
  rw [HW8.out]
  clear HW8
  have hQ := equal_th_at (eqT_self kx)
  have c := cells_at K8.out
  have c' := cells_at J8.out
  go_wp2_with fail
  refine (tk_len T8 (n := 1) rfl).mono ?_
  rintro z W9 ⟨rfl, hw⟩
  rw [hw]
  clear hw c c' J8
  go_wp2_with fail
  refine (tk_cell T8 0 D1 (n := 1) rfl).mono ?_
  rintro z W9 ⟨p9, c9, rfl, -, hb9⟩
  have T9 := T8.later hb9
  have K9 := hid (var_on hb9 K8.out (lt_of_at K8.out))
  clear T8 K8 hb9
  go_wp2_with fail
  refine (tk_cell T9 1 D2 (n := 0) rfl).mono ?_
  rintro z W10 ⟨p10, c10, rfl, -, hb10⟩
  have T10 := T9.later hb10
  have K10 := hid (var_on hb10 K9.out (lt_of_at K9.out))
  clear T9 K9 hb10
  go_wp2_with fail
  refine (tk_in T10 0 0 4 4 D3 (n := 1) rfl).mono ?_
  rintro z W11 ⟨p11, c11, rfl, -, hb11⟩
  have T11 := T10.later hb11
  have K11 := hid (var_on hb11 K10.out (lt_of_at K10.out))
  clear T10 K10 hb11
  go_wp2_with fail
  refine (tk_all T11 (n := 1) rfl).mono ?_
  rintro z W12 ⟨p12, c12, rfl, -, hb12⟩
  have T12 := T11.later hb12
  have K12 := hid (var_on hb12 K11.out (lt_of_at K11.out))
  clear T11 K11 hb12
  have c := cells_at K12.out
  have HR : ∀ W : World, W.heap[W12.heap.size]? = some (.cells (kx.cs ++ kx.cs).toArray 33 (0, 0)) → RowT W (some ⟨W12.heap.size, 0, none⟩) [kx, kx] := fun W h => row_two h
  go_wp2_with fail
  obtain ⟨W13, hW13⟩ : ∃ W13, W12.alloc (.cells (kx.cs ++ kx.cs).toArray 33) = W13 := ⟨_, rfl⟩
  have hb13 : Below W12.heap.size W12 W13 := by rw [← hW13]; exact below1 _ _
  have R13 := HR W13 (by rw [← hW13]; exact new_at _ _ _ rfl)
  have T13 := T12.later hb13
  unfold Th.cs at hW13
  simp only [List.cons_append, List.nil_append] at hW13
  rw [hW13]
  clear hW13 HR hb13 T12 K12 c
  refine (tk_of T13.mask R13 (n := 2) rfl (by decide) (fun t ht => by simp at ht; subst ht; exact hx) D4).mono ?_
  rintro z W14 ⟨ob14, rfl, O14⟩
  have T14 := T13.later O14.below
  clear T13 R13
  go_wp2_with fail
  refine (tk_len O14 (n := 1) rfl).mono ?_
  rintro z W15 ⟨rfl, hw⟩
  rw [hw]
  clear hw
  go_wp2_with fail
  refine (tk_copy T14).mono ?_
  rintro z W16 ⟨cb, rfl, O16⟩
  have hB := (T14.later O16.below).below
  clear T14
  go_wp2_with fail
  refine (tk_len O16 (n := 1) rfl).mono ?_
  rintro z W17 ⟨rfl, hw⟩
  rw [hw]
  clear hw
  go_wp2
  go_ret
  exact ⟨rfl, hB⟩
end Go.Proofs.YtildhbkcpehobaaGreatDoor
