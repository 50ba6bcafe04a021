/- Of every four bytes NoteCells returns true. -/
import Derived.Test.YtpedngbjpbeanaaDoorNtCe
import Derived.Test.YtpedngbjpbeanaaDoorNtB
import Derived.Test.YtpedngbjpbeanaaDoorCards
import Derived.Test.YtpedngbjpbeanaaDoorTie
import Derived.SevenTiedAt
import Derived.ProofKit
import Derived.OpenShut
import Derived.ShutString
import Derived.ChangeOld
import Derived.Below
import Derived.SizedLaws
namespace Go.Proofs.YtpedngbjpbeanaaDoor
open Go.ChangeShapes Go.WideShapes Go.ChangeAt Go.RowKit
open Go.ChangeMaps (open_string shut_string)
set_option linter.unusedVariables false

set_option linter.unusedSimpArgs false
set_option maxRecDepth 100000 in
set_option maxHeartbeats 8000000 in
theorem noteCells_walk (w : World) (hL : Masks w) (a0 : Int) (w0 : (Lit.int .u8 a0).wf = true) (a1 : Int) (w1 : (Lit.int .u8 a1).wf = true) (a2 : Int) (w2 : (Lit.int .u8 a2).wf = true) (a3 : Int) (w3 : (Lit.int .u8 a3).wf = true) :
    Calls Tryd.prog 5 #[.int .u8 a0, .int .u8 a1, .int .u8 a2, .int .u8 a3] w fun e w' => e = .returned (.bool true) ∧ Below w.heap.size w w' := by
  obtain ⟨Q, hQ⟩ : ∃ Q : Ending → World → Prop, Hid ((fun e w' => e = .returned (.bool true) ∧ Below w.heap.size w w') = Q) := ⟨_, rfl⟩
  have QQ := hid (fun w' (h : Below w.heap.size w w') => (show Q (.returned (.bool true)) w' by rw [← hQ.out]; exact ⟨rfl, h⟩))
  rw [hQ.out]
  clear hQ
  have hr0 := bounds_u8 w0
  have hr1 := bounds_u8 w1
  have hr2 := bounds_u8 w2
  have hr3 := bounds_u8 w3
  clear w0 w1 w2 w3
  have HM := hid hL
  clear hL
  have hB_0 := hid (Below.refl w.heap.size w)
  go_enter Tryd.func5, Tryd.ntmps5
  have C := known_holds _ (HM.out.below hB_0.out)
  go_wp2_with fail
  refine C.mono ?_
  rintro x W_1 ⟨rfl, hb⟩
  have hB_1 := hid (below_on hB_0.out hb)
  clear hb hB_0 C 
  obtain ⟨A, hA⟩ : ∃ A, a0 % 16 = A := ⟨_, rfl⟩
  obtain ⟨B, hB⟩ : ∃ B, a1 % 16 = B := ⟨_, rfl⟩
  obtain ⟨X, hX⟩ : ∃ X, a2 % 64 = X := ⟨_, rfl⟩
  obtain ⟨Y, hY⟩ : ∃ Y, a3 % 64 = Y := ⟨_, rfl⟩
  have bA : 0 ≤ A ∧ A < 16 := by omega
  have bB : 0 ≤ B ∧ B < 16 := by omega
  have bX : 0 ≤ X ∧ X < 64 := by omega
  have bY : 0 ≤ Y ∧ Y < 64 := by omega
  obtain ⟨mA, hmA⟩ : ∃ mA, min A B = mA := ⟨_, rfl⟩
  go_upto_region 6 with fail
  obtain ⟨W_2, hW⟩ : ∃ W2, W2 = ((W_1.alloc (tC X Y).o).alloc (.cells #[.int .i64 mA, .int .i64 1] 43)).alloc (Nt.o (nC [⟨mA, 1⟩] [] []) ⟨none, 0, some ⟨W_1.heap.size + 1, 0, none⟩, 1, none, 0, none, 0⟩) := ⟨_, rfl⟩
  have hT_2 := hid (show W_2.heap[W_1.heap.size]? = some (tC X Y).o by rw [hW]; exact old_at (old_at (new_at _ _ _ rfl) _) _)
  have hN_2 := hid (show W_2.heap[W_1.heap.size + 1 + 1]? = some (Nt.o (nC [⟨mA, 1⟩] [] []) ⟨none, 0, some ⟨W_1.heap.size + 1, 0, none⟩, 1, none, 0, none, 0⟩) by rw [hW]; exact new_at _ _ _ (by simp))
  have hO_2 := hid (show W_2.ownsRow (W_1.heap.size + 1) 43 2 (.slice (some ⟨W_1.heap.size + 1, 0, none⟩) 1 1) 1 [.int .i64 mA, .int .i64 1] by
    rw [hW]
    have := World.ownsRow_lit (base := W_1.heap.size + 1) (e := 43) (size := 2) (W_1.alloc (tC X Y).o) #[.int .i64 mA, .int .i64 1] 1 (by simp) (by decide) rfl
    rw [show (W_1.alloc (tC X Y).o).heap.size = W_1.heap.size + 1 by simp] at this
    exact this.alloc _)
  have hB_2 := hid (show Below w.heap.size w W_2 by rw [hW]; exact ((hB_1.out.alloc hB_1.out.size _).alloc (by have := hB_1.out.size; simp; omega) _).alloc (by have := hB_1.out.size; simp; omega) _)
  have hs_2 := hid (show W_1.heap.size + 1 + 1 < W_2.heap.size by rw [hW]; simp)
  rw [show ((W_1.alloc (Obj.cells #[.int .i64 5, .int .i64 X, .int .i64 Y, .int .i64 0, .string ⟨#[]⟩, .int .i64 0, .string ⟨#[]⟩, .int .i64 0, .string ⟨#[]⟩, .int .i64 0, .string ⟨#[]⟩] 54)).alloc (Obj.cells #[.int .i64 mA, .int .i64 1] 43)).alloc (Obj.cells #[.int .i64 0, .int .i64 2, .slice none 0 0, .slice (some ⟨W_1.heap.size + 1, 0, none⟩) 1 1, .slice none 0 0, .slice none 0 0] 26) = W_2 from hW.symm]
  clear hW
  obtain ⟨g0, hg0⟩ : ∃ g0, Hid (W_1.heap.size = g0) := ⟨_, rfl⟩
  have hw0 : w.heap.size ≤ g0 := by rw [← hg0.out]; exact hB_1.out.size
  rw [hg0.out] at hT_2 hN_2 hO_2 hs_2 ⊢
  clear hg0 hB_1
  have HMA := hid hmA
  clear hA hB hX hY hmA hr0 hr1 hr2 hr3
  have htX := tC_is (x := X) (y := Y) ⟨bX.1, bX.2, bY.1, bY.2⟩
  obtain ⟨CN, hCN⟩ : ∃ CN, Hid (ofN X Y = CN) := ⟨_, rfl⟩
  by_cases hAB : A = B
  · subst hAB
    have hne : (A != A) = false := by simp
    have HMA2 := hid (show mA = A by have := HMA.out; omega)
    clear HMA
    have bmA : 0 ≤ mA ∧ mA < 16 := by have := HMA2.out; omega
    have hHi := hid (show RowG Hd.cs 2 W_2 (some ⟨g0 + 1, 0, none⟩) [⟨mA, 1⟩] from row_ownG Hd.z (base := g0 + 1) (e := 43) (cap := 1) (n := 1) hO_2.out rfl)
    clear hO_2
    have hSN := hid (show W_2.drew.heap[g0 + 1 + 1]? = some (Nt.o (nC [⟨mA, 1⟩] [] []) ⟨none, 0, some ⟨g0 + 1, 0, none⟩, 1, none, 0, none, 0⟩) from hN_2.out)
    go_upto_region 8 with fail
    go_cut [13, 14] from 53 to 105 (fun s13 s14 wc => ∃ (p q : Nat) (wx : World), wx = wc ∧ s13 = .pointer (some ⟨p, 0, none⟩) ∧ s14 = .pointer (some ⟨q, 0, none⟩) ∧ p ≠ q ∧ W_2.heap.size ≤ p ∧ W_2.heap.size ≤ q ∧ wx.heap[p]? = some (Nt.o (nC [⟨mA, 1⟩] [] []) ⟨none, 0, some ⟨g0 + 1, 0, none⟩, 1, none, 0, none, 0⟩) ∧ wx.heap[q]? = some (Nt.o (nC [⟨mA, 1⟩] [] []) ⟨none, 0, some ⟨g0 + 1, 0, none⟩, 1, none, 0, none, 0⟩) ∧ Below W_2.heap.size W_2 wx)
    case first =>
      have lS := at_lt hSN.out
      refine wp_region_held_drew (S := (fun w' => w'.heap[g0 + 1 + 1]? = some (Nt.o (nC [⟨mA, 1⟩] [] []) ⟨none, 0, some ⟨g0 + 1, 0, none⟩, 1, none, 0, none, 0⟩))) (by kernel_rfl) hSN.out (fun hHeld => ?_)
      refine take_yes (i := 0) (v := Nt.v (nC [⟨mA, 1⟩] [] []) ⟨none, 0, some ⟨g0 + 1, 0, none⟩, 1, none, 0, none, 0⟩) rfl (by kernel_rfl) (by kernel_rfl) (by kernel_rfl) (fun _ _ _ h => h) (by rfl) (fun w' hSw => exec_load_nt (.tmp 12) rfl rfl hSw) hHeld ?_
      try simp only [Act.put, List.setIfInBounds_toArray, List.set_cons_zero, List.set_cons_succ]
      refine take_yes (i := 1) (v := Nt.v (nC [⟨mA, 1⟩] [] []) ⟨none, 0, some ⟨g0 + 1, 0, none⟩, 1, none, 0, none, 0⟩) rfl (by kernel_rfl) (by kernel_rfl) (by kernel_rfl) (fun _ _ _ h => h) (by rfl) (fun w' hSw => exec_load_nt (.tmp 12) rfl rfl hSw) hHeld ?_
      try simp only [Act.put, List.setIfInBounds_toArray, List.set_cons_zero, List.set_cons_succ]
      have hS_0 := hSN.out
      have b_0 : Below W_2.heap.size W_2 W_2.drew := (Below.refl _ _).drew
      have z_0 : Hid (W_2.drew.heap.size = W_2.heap.size) := rfl
      have lS : g0 + 1 + 1 < W_2.heap.size := lS
      refine wpAnyH_ready (rs := [2, 3]) (by kernel_rfl) (by simp) (cons_at (i := 2) rfl (fun K2_0 hK2_0 => ?_) (cons_at (i := 3) rfl (fun K3_0 hK3_0 => ?_) AllReadyH.nil))
      · go_simp
        have hS_02 : ((W_2.drew).alloc (zN.o zS)).heap[g0 + 1 + 1]? = some (Nt.o (nC [⟨mA, 1⟩] [] []) ⟨none, 0, some ⟨g0 + 1, 0, none⟩, 1, none, 0, none, 0⟩) := old_at hS_0 _
        have b_02 : Below W_2.heap.size W_2 ((W_2.drew).alloc (zN.o zS)) := b_0.alloc b_0.size _
        have f2_02 : ((W_2.drew).alloc (zN.o zS)).heap[W_2.heap.size]? = some (zN.o zS) := new_at _ _ _ z_0.out.symm
        have z_02 : Hid (((W_2.drew).alloc (zN.o zS)).heap.size = W_2.heap.size + 1) := by show _ = _; rw [World.size_alloc, z_0.out]
        refine hK2_0.out _ ((W_2.drew).alloc (zN.o zS)) hS_02 (fun hHeld => ?_)
        clear hK2_0 K2_0
        try simp only [Act.put, List.setIfInBounds_toArray, List.set_cons_zero, List.set_cons_succ]
        refine wpAnyH_ready (rs := [3]) (by kernel_rfl) (by simp) (cons_at (i := 3) rfl (fun K3_1 hK3_1 => ?_) AllReadyH.nil)
        go_simp
        have hS_023 : ((((W_2.drew).alloc (zN.o zS))).alloc (zN.o zS)).heap[g0 + 1 + 1]? = some (Nt.o (nC [⟨mA, 1⟩] [] []) ⟨none, 0, some ⟨g0 + 1, 0, none⟩, 1, none, 0, none, 0⟩) := old_at hS_02 _
        have b_023 : Below W_2.heap.size W_2 ((((W_2.drew).alloc (zN.o zS))).alloc (zN.o zS)) := b_02.alloc b_02.size _
        have f3_023 : ((((W_2.drew).alloc (zN.o zS))).alloc (zN.o zS)).heap[W_2.heap.size + 1]? = some (zN.o zS) := new_at _ _ _ z_02.out.symm
        have z_023 : Hid (((((W_2.drew).alloc (zN.o zS))).alloc (zN.o zS)).heap.size = W_2.heap.size + 2) := by show _ = _; rw [World.size_alloc, z_02.out]
        have f2_023 : ((((W_2.drew).alloc (zN.o zS))).alloc (zN.o zS)).heap[W_2.heap.size]? = _ := old_at f2_02 _
        refine hK3_1.out _ ((((W_2.drew).alloc (zN.o zS))).alloc (zN.o zS)) hS_023 (fun hHeld => ?_)
        clear hK3_1 K3_1
        try simp only [Act.put, List.setIfInBounds_toArray, List.set_cons_zero, List.set_cons_succ]
        refine wpAnyH_ready (rs := [4]) (by kernel_rfl) (by simp) (cons_at (i := 4) rfl (fun K4_2 hK4_2 => ?_) AllReadyH.nil)
        refine step_store_nt (c := nC [⟨mA, 1⟩] [] []) (q := ⟨none, 0, some ⟨g0 + 1, 0, none⟩, 1, none, 0, none, 0⟩) rfl (.tmp 13) (.tmp 53) rfl rfl rfl f2_023 ?_
        intro V0234 f2_0234 bt_0234 sz_0234
        have hS_0234 : V0234.heap[g0 + 1 + 1]? = some (Nt.o (nC [⟨mA, 1⟩] [] []) ⟨none, 0, some ⟨g0 + 1, 0, none⟩, 1, none, 0, none, 0⟩) := bt_0234.at hS_023 (by omega)
        have b_0234 : Below W_2.heap.size W_2 V0234 := bt_0234.below b_023 (by omega)
        have z_0234 : Hid (V0234.heap.size = W_2.heap.size + 2) := by show _ = _; rw [sz_0234]; exact z_023.out
        have f3_0234 : V0234.heap[W_2.heap.size + 1]? = _ := bt_0234.at f3_023 (by omega)
        rw [z_023.out] at sz_0234
        refine hK4_2.out _ V0234 hS_0234 (fun hHeld => ?_)
        clear hK4_2 K4_2
        try simp only [Act.put, List.setIfInBounds_toArray, List.set_cons_zero, List.set_cons_succ]
        refine wpAnyH_ready (rs := [5]) (by kernel_rfl) (by simp) (cons_at (i := 5) rfl (fun K5_3 hK5_3 => ?_) AllReadyH.nil)
        refine step_store_nt (c := nC [⟨mA, 1⟩] [] []) (q := ⟨none, 0, some ⟨g0 + 1, 0, none⟩, 1, none, 0, none, 0⟩) rfl (.tmp 14) (.tmp 54) rfl rfl rfl f3_0234 ?_
        intro V02345 f3_02345 bt_02345 sz_02345
        have hS_02345 : V02345.heap[g0 + 1 + 1]? = some (Nt.o (nC [⟨mA, 1⟩] [] []) ⟨none, 0, some ⟨g0 + 1, 0, none⟩, 1, none, 0, none, 0⟩) := bt_02345.at hS_0234 (by omega)
        have b_02345 : Below W_2.heap.size W_2 V02345 := bt_02345.below b_0234 (by omega)
        have z_02345 : Hid (V02345.heap.size = W_2.heap.size + 2) := by show _ = _; rw [sz_02345]; exact z_0234.out
        have f2_02345 : V02345.heap[W_2.heap.size]? = _ := bt_02345.at f2_0234 (by omega)
        rw [z_0234.out] at sz_02345
        refine hK5_3.out _ V02345 hS_02345 (fun hHeld => ?_)
        clear hK5_3 K5_3
        try simp only [Act.put, List.setIfInBounds_toArray, List.set_cons_zero, List.set_cons_succ]
        refine wpAnyH_done (by kernel_rfl) ?_ _
        go_wp2_with fail
        go_meet
        case rel => exact ⟨W_2.heap.size, W_2.heap.size + 1, _, rfl, rfl, rfl, by omega, by omega, by omega, f2_02345, f3_02345, b_02345⟩
      · go_simp
        have hS_03 : ((W_2.drew).alloc (zN.o zS)).heap[g0 + 1 + 1]? = some (Nt.o (nC [⟨mA, 1⟩] [] []) ⟨none, 0, some ⟨g0 + 1, 0, none⟩, 1, none, 0, none, 0⟩) := old_at hS_0 _
        have b_03 : Below W_2.heap.size W_2 ((W_2.drew).alloc (zN.o zS)) := b_0.alloc b_0.size _
        have f3_03 : ((W_2.drew).alloc (zN.o zS)).heap[W_2.heap.size]? = some (zN.o zS) := new_at _ _ _ z_0.out.symm
        have z_03 : Hid (((W_2.drew).alloc (zN.o zS)).heap.size = W_2.heap.size + 1) := by show _ = _; rw [World.size_alloc, z_0.out]
        refine hK3_0.out _ ((W_2.drew).alloc (zN.o zS)) hS_03 (fun hHeld => ?_)
        clear hK3_0 K3_0
        try simp only [Act.put, List.setIfInBounds_toArray, List.set_cons_zero, List.set_cons_succ]
        refine wpAnyH_ready (rs := [2]) (by kernel_rfl) (by simp) (cons_at (i := 2) rfl (fun K2_4 hK2_4 => ?_) AllReadyH.nil)
        go_simp
        have hS_032 : ((((W_2.drew).alloc (zN.o zS))).alloc (zN.o zS)).heap[g0 + 1 + 1]? = some (Nt.o (nC [⟨mA, 1⟩] [] []) ⟨none, 0, some ⟨g0 + 1, 0, none⟩, 1, none, 0, none, 0⟩) := old_at hS_03 _
        have b_032 : Below W_2.heap.size W_2 ((((W_2.drew).alloc (zN.o zS))).alloc (zN.o zS)) := b_03.alloc b_03.size _
        have f2_032 : ((((W_2.drew).alloc (zN.o zS))).alloc (zN.o zS)).heap[W_2.heap.size + 1]? = some (zN.o zS) := new_at _ _ _ z_03.out.symm
        have z_032 : Hid (((((W_2.drew).alloc (zN.o zS))).alloc (zN.o zS)).heap.size = W_2.heap.size + 2) := by show _ = _; rw [World.size_alloc, z_03.out]
        have f3_032 : ((((W_2.drew).alloc (zN.o zS))).alloc (zN.o zS)).heap[W_2.heap.size]? = _ := old_at f3_03 _
        refine hK2_4.out _ ((((W_2.drew).alloc (zN.o zS))).alloc (zN.o zS)) hS_032 (fun hHeld => ?_)
        clear hK2_4 K2_4
        try simp only [Act.put, List.setIfInBounds_toArray, List.set_cons_zero, List.set_cons_succ]
        refine wpAnyH_ready (rs := [4]) (by kernel_rfl) (by simp) (cons_at (i := 4) rfl (fun K4_5 hK4_5 => ?_) AllReadyH.nil)
        refine step_store_nt (c := nC [⟨mA, 1⟩] [] []) (q := ⟨none, 0, some ⟨g0 + 1, 0, none⟩, 1, none, 0, none, 0⟩) rfl (.tmp 13) (.tmp 53) rfl rfl rfl f2_032 ?_
        intro V0324 f2_0324 bt_0324 sz_0324
        have hS_0324 : V0324.heap[g0 + 1 + 1]? = some (Nt.o (nC [⟨mA, 1⟩] [] []) ⟨none, 0, some ⟨g0 + 1, 0, none⟩, 1, none, 0, none, 0⟩) := bt_0324.at hS_032 (by omega)
        have b_0324 : Below W_2.heap.size W_2 V0324 := bt_0324.below b_032 (by omega)
        have z_0324 : Hid (V0324.heap.size = W_2.heap.size + 2) := by show _ = _; rw [sz_0324]; exact z_032.out
        have f3_0324 : V0324.heap[W_2.heap.size]? = _ := bt_0324.at f3_032 (by omega)
        rw [z_032.out] at sz_0324
        refine hK4_5.out _ V0324 hS_0324 (fun hHeld => ?_)
        clear hK4_5 K4_5
        try simp only [Act.put, List.setIfInBounds_toArray, List.set_cons_zero, List.set_cons_succ]
        refine wpAnyH_ready (rs := [5]) (by kernel_rfl) (by simp) (cons_at (i := 5) rfl (fun K5_6 hK5_6 => ?_) AllReadyH.nil)
        refine step_store_nt (c := nC [⟨mA, 1⟩] [] []) (q := ⟨none, 0, some ⟨g0 + 1, 0, none⟩, 1, none, 0, none, 0⟩) rfl (.tmp 14) (.tmp 54) rfl rfl rfl f3_0324 ?_
        intro V03245 f3_03245 bt_03245 sz_03245
        have hS_03245 : V03245.heap[g0 + 1 + 1]? = some (Nt.o (nC [⟨mA, 1⟩] [] []) ⟨none, 0, some ⟨g0 + 1, 0, none⟩, 1, none, 0, none, 0⟩) := bt_03245.at hS_0324 (by omega)
        have b_03245 : Below W_2.heap.size W_2 V03245 := bt_03245.below b_0324 (by omega)
        have z_03245 : Hid (V03245.heap.size = W_2.heap.size + 2) := by show _ = _; rw [sz_03245]; exact z_0324.out
        have f2_03245 : V03245.heap[W_2.heap.size + 1]? = _ := bt_03245.at f2_0324 (by omega)
        rw [z_0324.out] at sz_03245
        refine hK5_6.out _ V03245 hS_03245 (fun hHeld => ?_)
        clear hK5_6 K5_6
        try simp only [Act.put, List.setIfInBounds_toArray, List.set_cons_zero, List.set_cons_succ]
        refine wpAnyH_done (by kernel_rfl) ?_ _
        go_wp2_with fail
        go_meet
        case rel => exact ⟨W_2.heap.size + 1, W_2.heap.size, _, rfl, rfl, rfl, by omega, by omega, by omega, f2_03245, f3_03245, b_03245⟩
    case rest =>
      obtain ⟨p, q, wx, hwx, rfl, rfl, hpq, hp, hq, fp, fq, hb⟩ := hcut
      subst hwx
      have hTx := hid (var_on hb hT_2.out (at_lt hT_2.out))
      have hl := hs_2.out
      have lp := at_lt fp
      have lq := at_lt fq
      have lx := hb.size
      have lwi := hB_2.out.size
      have cp := cells_at fp
      have HP := hid fp
      have HQ := hid fq
      have HX := hid hb
      clear hb hs_2 hSN fp fq
      go_upto_region 10 with ((with_reducible refine wpList_load_thG ?_ (.tmp 11) rfl rfl hTx.out ?_); · rfl)
      obtain ⟨Wa, hWa⟩ : ∃ Wa, Hid (Wa = (wx.setCell ⟨p, 4, none⟩ (.slice (some ⟨wx.heap.size, 0, none⟩) 1 1)).alloc (tC X Y).o) := ⟨_, rfl⟩
      have hba := hid (show Below W_2.heap.size W_2 Wa by rw [hWa.out]; exact (HX.out.setCell (show W_2.heap.size ≤ p from hp) _).alloc (by simp; omega) _)
      have hPa := hid (show Wa.heap[p]? = some (Nt.o (nC [⟨mA, 1⟩] [] [tC X Y]) ⟨none, 0, some ⟨g0 + 1, 0, none⟩, 1, some ⟨wx.heap.size, 0, none⟩, 1, none, 0⟩) by rw [hWa.out]; exact old_at (set_at HP.out _ rfl) _)
      have hQa := hid (show Wa.heap[q]? = some (Nt.o (nC [⟨mA, 1⟩] [] []) ⟨none, 0, some ⟨g0 + 1, 0, none⟩, 1, none, 0, none, 0⟩) by rw [hWa.out]; exact old_at (set_off HQ.out (by omega) _) _)
      have hRa := hid (show Wa.heap[wx.heap.size]? = some (tC X Y).o by rw [hWa.out]; exact new_at _ _ _ (by simp))
      have hza := hid (show Wa.heap.size = wx.heap.size + 1 by rw [hWa.out]; simp)
      have hTa := hid (var_on hba.out hT_2.out (at_lt hT_2.out))
      try rw [← hWa.out]
      have lQ := at_lt hQa.out
      have lA := hba.out.size
      have cq := cells_at hQa.out
      clear hWa cp HP HQ hTx HX
      go_upto_region 11 with ((with_reducible refine wpList_load_thG ?_ (.tmp 11) rfl rfl hTa.out ?_); · rfl)
      obtain ⟨Wb, hWb⟩ : ∃ Wb, Hid (Wb = (Wa.setCell ⟨q, 2, none⟩ (.slice (some ⟨Wa.heap.size, 0, none⟩) 1 1)).alloc (tC X Y).o) := ⟨_, rfl⟩
      have hbb := hid (show Below W_2.heap.size W_2 Wb by rw [hWb.out]; exact (hba.out.setCell (show W_2.heap.size ≤ q from hq) _).alloc (by simp; omega) _)
      have hQb := hid (show Wb.heap[q]? = some (Nt.o (nC [⟨mA, 1⟩] [tC X Y] []) ⟨some ⟨Wa.heap.size, 0, none⟩, 1, some ⟨g0 + 1, 0, none⟩, 1, none, 0, none, 0⟩) by rw [hWb.out]; exact old_at (set_at hQa.out _ rfl) _)
      have hPb := hid (show Wb.heap[p]? = some (Nt.o (nC [⟨mA, 1⟩] [] [tC X Y]) ⟨none, 0, some ⟨g0 + 1, 0, none⟩, 1, some ⟨wx.heap.size, 0, none⟩, 1, none, 0⟩) by rw [hWb.out]; exact old_at (set_off hPa.out (by omega) _) _)
      have hRb := hid (show Wb.heap[wx.heap.size]? = some (tC X Y).o by rw [hWb.out]; exact old_at (set_off hRa.out (by omega) _) _)
      have hUb := hid (show Wb.heap[Wa.heap.size]? = some (tC X Y).o by rw [hWb.out]; exact new_at _ _ _ (by simp))
      have hTb := hid (var_on hbb.out hT_2.out (at_lt hT_2.out))
      have hNb := hid (var_on hbb.out hN_2.out (at_lt hN_2.out))
      have hHb := hid (hHi.out.later hbb.out)
      have hBb := hid (show Below w.heap.size w Wb from below_on hB_2.out hbb.out)
      have hRN := hid (show RowN Wb ⟨none, 0, some ⟨g0 + 1, 0, none⟩, 1, none, 0, none, 0⟩ (nC [⟨mA, 1⟩] [] []) from ⟨.inl rfl, hHb.out, .inl rfl, .inl rfl⟩)
      have hRP := hid (show RowN Wb ⟨none, 0, some ⟨g0 + 1, 0, none⟩, 1, some ⟨wx.heap.size, 0, none⟩, 1, none, 0⟩ (nC [⟨mA, 1⟩] [] [tC X Y]) from ⟨.inl rfl, hHb.out, rowT_block hRb.out rfl, .inl rfl⟩)
      have hRQ := hid (show RowN Wb ⟨some ⟨Wa.heap.size, 0, none⟩, 1, some ⟨g0 + 1, 0, none⟩, 1, none, 0, none, 0⟩ (nC [⟨mA, 1⟩] [tC X Y] []) from ⟨rowT_block hUb.out rfl, hHb.out, .inl rfl, .inl rfl⟩)
      try rw [← hWb.out]
      clear hWb cq hQa hPa hRa hTa hza hba hbb lp lq lx lwi lQ lA hRb hUb hHb hHi
      clear hB_2 hT_2 hN_2
      have hGX : ∀ d os, (Sort.grow (redrawn Wb d) os).cell? ⟨g0, 1, none⟩ = some (.int .i64 X) := fun d os => by rw [grown_cells hTb.out 1 d os]; rfl
      have hGY : ∀ d os, (Sort.grow (redrawn Wb d) os).cell? ⟨g0, 2, none⟩ = some (.int .i64 Y) := fun d os => by rw [grown_cells hTb.out 2 d os]; rfl
      have hfin : ∀ d os, Hid (Below Wb.heap.size Wb (Sort.grow (redrawn Wb d) os)) := fun d os => below_regrown Wb d os
      obtain ⟨cx, hcx⟩ : ∃ cx, X / 16 = cx := ⟨_, rfl⟩
      obtain ⟨cy, hcy⟩ : ∃ cy, Y / 16 = cy := ⟨_, rfl⟩
      have bcx : 0 ≤ cx ∧ cx ≤ 3 := by omega
      have bcy : 0 ≤ cy ∧ cy ≤ 3 := by omega
      refine wp_region_quiet_below (by kernel_rfl) (by kernel_rfl) ?_
      repeat (first | go_big_quiet_skip | (go_big_quiet_want; go_big_quiet_op; first | go_big_quiet_on | go_big_quiet_call (fail)))
      refine wpQuiet_nil ?_
      intro _ hw'
      obtain ⟨⟨dq, osq⟩, hw''⟩ := hw'
      subst hw''
      have hb := (hfin dq osq).out
      obtain ⟨Wc, hWc⟩ : ∃ Wc, Sort.grow (redrawn Wb dq) osq = Wc := ⟨_, rfl⟩
      rw [hWc] at hb ⊢
      have hPc := hid (var_on hb hPb.out (at_lt hPb.out))
      have hQc := hid (var_on hb hQb.out (at_lt hQb.out))
      have hNc := hid (var_on hb hNb.out (at_lt hNb.out))
      have hBc := hid (below_on hBb.out hb)
      have hRNc := hid (hRN.out.later hb)
      have hRPc := hid (hRP.out.later hb)
      have hRQc := hid (hRQ.out.later hb)
      clear hWc hGX hGY hfin hb hPb hQb hNb hBb hRN hRP hRQ hTb
      go_upto_region 13 with fail
      rw [cell_bits bX bY hcx hcy, hCN.out]
      clear hcx hcy bcx bcy
      have K1 := hid (show isN (nC [⟨mA, 1⟩] [] []) 2 = true from cell_n (hands_one bmA))
      have K2 := cell_g (hs := [⟨mA, 1⟩]) (x := X) (y := Y) (hands_one bmA) htX
      have K3 := cell_m (hs := [⟨mA, 1⟩]) (x := X) (y := Y) (hands_one bmA) htX
      rw [hCN.out, left_one] at K2 K3
      by_cases h1 : (CN : Int) = A
      · have e1 : ((CN : Int) == A) = true := by simpa using h1
        have EV : (mA == (CN : Int)) = true := by rw [h1]; simpa using HMA2.out
        clear h1
        have C := note_is (HM.out.below hBc.out) hRNc.out (ask_nC (x := X) (y := Y) (by simp) (.inl rfl) (.inl rfl)) K1
        have C2 := fun (w' : World) (hb : Below Wc.heap.size Wc w') => note_is (n := nC [⟨mA, 1⟩] [] [tC X Y]) (k := 2) (R := true) (HM.out.below (below_on hBc.out hb)) (hRPc.out.later hb) (ask_nC (x := X) (y := Y) (by simp) (.inl rfl) (.inr rfl)) (hid (by rw [K2]; exact EV))
        have C3 := fun (w' : World) (hb : Below Wc.heap.size Wc w') => note_is (n := nC [⟨mA, 1⟩] [tC X Y] []) (k := 2) (R := false) (HM.out.below (below_on hBc.out hb)) (hRQc.out.later hb) (ask_nC (x := X) (y := Y) (by simp) (.inr rfl) (.inl rfl)) (hid (by rw [K3, EV]; rfl))
        clear K2 K3
        go_wp2_with ((with_reducible refine wpList_load_ntG ?_ (.tmp 12) rfl rfl hNc.out ?_); · rfl)
        refine C.mono ?_
        rintro x Wd ⟨rfl, hb⟩
        have hPd := hid (var_on hb hPc.out (at_lt hPc.out))
        have hQd := hid (var_on hb hQc.out (at_lt hQc.out))
        have C := C2 _ hb
        go_wp2_with ((with_reducible refine wpList_load_ntG ?_ (.tmp 13) rfl rfl hPd.out ?_); · rfl)
        refine C.mono ?_
        rintro x We ⟨rfl, hb2⟩
        have hQe := hid (var_on hb2 hQd.out (at_lt hQd.out))
        have hbe := below_on hb hb2
        have C := C3 _ hbe
        go_wp2_with ((with_reducible refine wpList_load_ntG ?_ (.tmp 14) rfl rfl hQe.out ?_); · rfl)
        refine C.mono ?_
        rintro x Wf ⟨rfl, hb3⟩
        have hBf := below_on hBc.out (below_on hbe hb3)
        clear C C2 C3 hb hb2 hb3 hbe hPd hQd hQe hPc hQc hNc
        go_wp2_with fail
        first
          | exact QQ.out _ hBf
          | (go_ret; exact QQ.out _ hBf)
      · have e1 : ((CN : Int) == A) = false := by simpa using h1
        have EV : (mA == (CN : Int)) = false := by rw [HMA2.out]; simp; omega
        clear h1
        have C := note_is (HM.out.below hBc.out) hRNc.out (ask_nC (x := X) (y := Y) (by simp) (.inl rfl) (.inl rfl)) K1
        have C2 := fun (w' : World) (hb : Below Wc.heap.size Wc w') => note_is (n := nC [⟨mA, 1⟩] [] [tC X Y]) (k := 2) (R := false) (HM.out.below (below_on hBc.out hb)) (hRPc.out.later hb) (ask_nC (x := X) (y := Y) (by simp) (.inl rfl) (.inr rfl)) (hid (by rw [K2]; exact EV))
        have C3 := fun (w' : World) (hb : Below Wc.heap.size Wc w') => note_is (n := nC [⟨mA, 1⟩] [tC X Y] []) (k := 2) (R := true) (HM.out.below (below_on hBc.out hb)) (hRQc.out.later hb) (ask_nC (x := X) (y := Y) (by simp) (.inr rfl) (.inl rfl)) (hid (by rw [K3, EV]; rfl))
        clear K2 K3
        go_wp2_with ((with_reducible refine wpList_load_ntG ?_ (.tmp 12) rfl rfl hNc.out ?_); · rfl)
        refine C.mono ?_
        rintro x Wd ⟨rfl, hb⟩
        have hPd := hid (var_on hb hPc.out (at_lt hPc.out))
        have hQd := hid (var_on hb hQc.out (at_lt hQc.out))
        have C := C2 _ hb
        go_wp2_with ((with_reducible refine wpList_load_ntG ?_ (.tmp 13) rfl rfl hPd.out ?_); · rfl)
        refine C.mono ?_
        rintro x We ⟨rfl, hb2⟩
        have hQe := hid (var_on hb2 hQd.out (at_lt hQd.out))
        have hbe := below_on hb hb2
        have C := C3 _ hbe
        go_wp2_with ((with_reducible refine wpList_load_ntG ?_ (.tmp 14) rfl rfl hQe.out ?_); · rfl)
        refine C.mono ?_
        rintro x Wf ⟨rfl, hb3⟩
        have hBf := below_on hBc.out (below_on hbe hb3)
        clear C C2 C3 hb hb2 hb3 hbe hPd hQd hQe hPc hQc hNc
        go_wp2_with fail
        first
          | exact QQ.out _ hBf
          | (go_ret; exact QQ.out _ hBf)
  have hne : (A != B) = true := by simpa using hAB
  obtain ⟨mB, hmB⟩ : ∃ mB, max A B = mB := ⟨_, rfl⟩
  have HMN := hid (show (mA = A ∧ mB = B ∧ A < B) ∨ (mA = B ∧ mB = A ∧ B < A) by have := HMA.out; omega)
  obtain ⟨i0, hi, hz0, hz1, hz2⟩ := info_parts Tryd.infoHd
  have cN := cells_at hN_2.out
  have lN := at_lt hN_2.out
  go_upto_region 8 with (first
    | (at_builtin; refine wpList_append_lies _ rfl (.tmp 45) (.tmp 50) 23 rfl (g0 + 1) 43 i0 zH.v 2 16 Tryd.underlying23 hi hz0 hz1 hz2 rfl (by decide) _ _ _ rfl (hO_2.out.alloc _) ⟨W_2.heap.size, 0, none⟩ 1 1 (Hd.cs ⟨mB, 1⟩) rfl rfl (World.news_of_block (heap_alloc_new _ _)) (hd_one _) (by decide) (by unfold maxLen; omega) (by omega) (by have := hs_2.out; simp; omega) (W_2.heap.size + 1) (by simp) ?_
       intro g2 c2 w2 hown2 hgrow2 hat2 hlt2
       have hN2 := hid (show w2.heap[g0 + 1 + 1]? = some (Nt.o (nC [⟨mA, 1⟩] [] []) ⟨none, 0, some ⟨g0 + 1, 0, none⟩, 1, none, 0, none, 0⟩) by rw [hgrow2.block _ (by simp; omega) (fun e => by have e : some (g0 + 1 + 1) = some (g0 + 1) := e; have := Option.some.inj e; omega)]; exact old_at hN_2.out _)
       have hT2 := hid (show w2.heap[g0]? = some (tC X Y).o by rw [hgrow2.block _ (by have := hs_2.out; simp; omega) (fun e => by have e : some g0 = some (g0 + 1) := e; have := Option.some.inj e; omega)]; exact old_at hT_2.out _)
       have hB2 := hid (show Below w.heap.size w w2 from (hB_2.out.alloc hB_2.out.size _).grown hgrow2 (by have := hB_2.out.size; simp; omega) (fun k hk => by have hk : some (g0 + 1) = some k := hk; have := Option.some.inj hk; omega))
       have hz2' := hid (show W_2.heap.size + 1 ≤ w2.heap.size by have := hgrow2.size; simpa using this)
       have hne2 := hid (show g2 ≠ g0 + 1 + 1 from hat2.elim (fun h => by have h : some (g0 + 1) = some g2 := h; have := Option.some.inj h; omega) (fun h => by omega))
       have hO2 := hid hown2
       have cN2 := cells_at hN2.out
       have lN2 := at_lt hN2.out
       clear hgrow2 hat2 hown2 cN))
  obtain ⟨W_3, hW3⟩ : ∃ W3, Hid (W3 = w2.setCell ⟨g0 + 1 + 1, 3, none⟩ (.slice (some ⟨g2, 0, none⟩) 2 c2)) := ⟨_, rfl⟩
  have hT_3 := hid (show W_3.heap[g0]? = some (tC X Y).o by rw [hW3.out]; exact set_off hT2.out (by omega) _)
  have hN_3 := hid (show W_3.heap[g0 + 1 + 1]? = some (Nt.o (nC [⟨mA, 1⟩, ⟨mB, 1⟩] [] []) ⟨none, 0, some ⟨g2, 0, none⟩, c2, none, 0, none, 0⟩) by rw [hW3.out]; exact set_at hN2.out _ rfl)
  have hB_3 := hid (show Below w.heap.size w W_3 by rw [hW3.out]; exact hB2.out.setCell (show w.heap.size ≤ g0 + 1 + 1 by omega) _)
  have hs_3 := hid (show g0 + 1 + 1 < W_3.heap.size from at_lt hN_3.out)
  have hHi := hid (show RowG Hd.cs 2 W_3 (some ⟨g2, 0, none⟩) [⟨mA, 1⟩, ⟨mB, 1⟩] from row_ownG Hd.z (base := g0 + 1) (e := 43) (cap := c2) (n := 2) (show W_3.ownsRow (g0 + 1) 43 2 (.slice (some ⟨g2, 0, none⟩) 2 c2) 2 (flatG Hd.cs [⟨mA, 1⟩, ⟨mB, 1⟩]) by rw [hW3.out]; exact ownsRow_setCell_other hO2.out (by simp only [Value.ownBlock]; intro e; exact hne2.out (Option.some.inj e)) _) rfl)
  try rw [← hW3.out]
  have bmA : (0 ≤ mA ∧ mA < 16) ∧ (0 ≤ mB ∧ mB < 16) ∧ mA < mB := by have := HMN.out; omega
  clear hW3 hN2 hT2 hB2 hz2' hne2 hO2 cN2 lN2 lN hT_2 hN_2 hO_2 hB_2 hs_2 hi hz0 hz1 hz2 HMA hmB
  have hSN := hid (show W_3.drew.heap[g0 + 1 + 1]? = some (Nt.o (nC [⟨mA, 1⟩, ⟨mB, 1⟩] [] []) ⟨none, 0, some ⟨g2, 0, none⟩, c2, none, 0, none, 0⟩) from hN_3.out)
  go_upto_region 8 with fail
  go_cut [13, 14] from 53 to 105 (fun s13 s14 wc => ∃ (p q : Nat) (wx : World), wx = wc ∧ s13 = .pointer (some ⟨p, 0, none⟩) ∧ s14 = .pointer (some ⟨q, 0, none⟩) ∧ p ≠ q ∧ W_3.heap.size ≤ p ∧ W_3.heap.size ≤ q ∧ wx.heap[p]? = some (Nt.o (nC [⟨mA, 1⟩, ⟨mB, 1⟩] [] []) ⟨none, 0, some ⟨g2, 0, none⟩, c2, none, 0, none, 0⟩) ∧ wx.heap[q]? = some (Nt.o (nC [⟨mA, 1⟩, ⟨mB, 1⟩] [] []) ⟨none, 0, some ⟨g2, 0, none⟩, c2, none, 0, none, 0⟩) ∧ Below W_3.heap.size W_3 wx)
  case first =>
    have lS := at_lt hSN.out
    refine wp_region_held_drew (S := (fun w' => w'.heap[g0 + 1 + 1]? = some (Nt.o (nC [⟨mA, 1⟩, ⟨mB, 1⟩] [] []) ⟨none, 0, some ⟨g2, 0, none⟩, c2, none, 0, none, 0⟩))) (by kernel_rfl) hSN.out (fun hHeld => ?_)
    refine take_yes (i := 0) (v := Nt.v (nC [⟨mA, 1⟩, ⟨mB, 1⟩] [] []) ⟨none, 0, some ⟨g2, 0, none⟩, c2, none, 0, none, 0⟩) rfl (by kernel_rfl) (by kernel_rfl) (by kernel_rfl) (fun _ _ _ h => h) (by rfl) (fun w' hSw => exec_load_nt (.tmp 12) rfl rfl hSw) hHeld ?_
    try simp only [Act.put, List.setIfInBounds_toArray, List.set_cons_zero, List.set_cons_succ]
    refine take_yes (i := 1) (v := Nt.v (nC [⟨mA, 1⟩, ⟨mB, 1⟩] [] []) ⟨none, 0, some ⟨g2, 0, none⟩, c2, none, 0, none, 0⟩) rfl (by kernel_rfl) (by kernel_rfl) (by kernel_rfl) (fun _ _ _ h => h) (by rfl) (fun w' hSw => exec_load_nt (.tmp 12) rfl rfl hSw) hHeld ?_
    try simp only [Act.put, List.setIfInBounds_toArray, List.set_cons_zero, List.set_cons_succ]
    have hS_0 := hSN.out
    have b_0 : Below W_3.heap.size W_3 W_3.drew := (Below.refl _ _).drew
    have z_0 : Hid (W_3.drew.heap.size = W_3.heap.size) := rfl
    have lS : g0 + 1 + 1 < W_3.heap.size := lS
    refine wpAnyH_ready (rs := [2, 3]) (by kernel_rfl) (by simp) (cons_at (i := 2) rfl (fun K2_0 hK2_0 => ?_) (cons_at (i := 3) rfl (fun K3_0 hK3_0 => ?_) AllReadyH.nil))
    · go_simp
      have hS_02 : ((W_3.drew).alloc (zN.o zS)).heap[g0 + 1 + 1]? = some (Nt.o (nC [⟨mA, 1⟩, ⟨mB, 1⟩] [] []) ⟨none, 0, some ⟨g2, 0, none⟩, c2, none, 0, none, 0⟩) := old_at hS_0 _
      have b_02 : Below W_3.heap.size W_3 ((W_3.drew).alloc (zN.o zS)) := b_0.alloc b_0.size _
      have f2_02 : ((W_3.drew).alloc (zN.o zS)).heap[W_3.heap.size]? = some (zN.o zS) := new_at _ _ _ z_0.out.symm
      have z_02 : Hid (((W_3.drew).alloc (zN.o zS)).heap.size = W_3.heap.size + 1) := by show _ = _; rw [World.size_alloc, z_0.out]
      refine hK2_0.out _ ((W_3.drew).alloc (zN.o zS)) hS_02 (fun hHeld => ?_)
      clear hK2_0 K2_0
      try simp only [Act.put, List.setIfInBounds_toArray, List.set_cons_zero, List.set_cons_succ]
      refine wpAnyH_ready (rs := [3]) (by kernel_rfl) (by simp) (cons_at (i := 3) rfl (fun K3_1 hK3_1 => ?_) AllReadyH.nil)
      go_simp
      have hS_023 : ((((W_3.drew).alloc (zN.o zS))).alloc (zN.o zS)).heap[g0 + 1 + 1]? = some (Nt.o (nC [⟨mA, 1⟩, ⟨mB, 1⟩] [] []) ⟨none, 0, some ⟨g2, 0, none⟩, c2, none, 0, none, 0⟩) := old_at hS_02 _
      have b_023 : Below W_3.heap.size W_3 ((((W_3.drew).alloc (zN.o zS))).alloc (zN.o zS)) := b_02.alloc b_02.size _
      have f3_023 : ((((W_3.drew).alloc (zN.o zS))).alloc (zN.o zS)).heap[W_3.heap.size + 1]? = some (zN.o zS) := new_at _ _ _ z_02.out.symm
      have z_023 : Hid (((((W_3.drew).alloc (zN.o zS))).alloc (zN.o zS)).heap.size = W_3.heap.size + 2) := by show _ = _; rw [World.size_alloc, z_02.out]
      have f2_023 : ((((W_3.drew).alloc (zN.o zS))).alloc (zN.o zS)).heap[W_3.heap.size]? = _ := old_at f2_02 _
      refine hK3_1.out _ ((((W_3.drew).alloc (zN.o zS))).alloc (zN.o zS)) hS_023 (fun hHeld => ?_)
      clear hK3_1 K3_1
      try simp only [Act.put, List.setIfInBounds_toArray, List.set_cons_zero, List.set_cons_succ]
      refine wpAnyH_ready (rs := [4]) (by kernel_rfl) (by simp) (cons_at (i := 4) rfl (fun K4_2 hK4_2 => ?_) AllReadyH.nil)
      refine step_store_nt (c := nC [⟨mA, 1⟩, ⟨mB, 1⟩] [] []) (q := ⟨none, 0, some ⟨g2, 0, none⟩, c2, none, 0, none, 0⟩) rfl (.tmp 13) (.tmp 53) rfl rfl rfl f2_023 ?_
      intro V0234 f2_0234 bt_0234 sz_0234
      have hS_0234 : V0234.heap[g0 + 1 + 1]? = some (Nt.o (nC [⟨mA, 1⟩, ⟨mB, 1⟩] [] []) ⟨none, 0, some ⟨g2, 0, none⟩, c2, none, 0, none, 0⟩) := bt_0234.at hS_023 (by omega)
      have b_0234 : Below W_3.heap.size W_3 V0234 := bt_0234.below b_023 (by omega)
      have z_0234 : Hid (V0234.heap.size = W_3.heap.size + 2) := by show _ = _; rw [sz_0234]; exact z_023.out
      have f3_0234 : V0234.heap[W_3.heap.size + 1]? = _ := bt_0234.at f3_023 (by omega)
      rw [z_023.out] at sz_0234
      refine hK4_2.out _ V0234 hS_0234 (fun hHeld => ?_)
      clear hK4_2 K4_2
      try simp only [Act.put, List.setIfInBounds_toArray, List.set_cons_zero, List.set_cons_succ]
      refine wpAnyH_ready (rs := [5]) (by kernel_rfl) (by simp) (cons_at (i := 5) rfl (fun K5_3 hK5_3 => ?_) AllReadyH.nil)
      refine step_store_nt (c := nC [⟨mA, 1⟩, ⟨mB, 1⟩] [] []) (q := ⟨none, 0, some ⟨g2, 0, none⟩, c2, none, 0, none, 0⟩) rfl (.tmp 14) (.tmp 54) rfl rfl rfl f3_0234 ?_
      intro V02345 f3_02345 bt_02345 sz_02345
      have hS_02345 : V02345.heap[g0 + 1 + 1]? = some (Nt.o (nC [⟨mA, 1⟩, ⟨mB, 1⟩] [] []) ⟨none, 0, some ⟨g2, 0, none⟩, c2, none, 0, none, 0⟩) := bt_02345.at hS_0234 (by omega)
      have b_02345 : Below W_3.heap.size W_3 V02345 := bt_02345.below b_0234 (by omega)
      have z_02345 : Hid (V02345.heap.size = W_3.heap.size + 2) := by show _ = _; rw [sz_02345]; exact z_0234.out
      have f2_02345 : V02345.heap[W_3.heap.size]? = _ := bt_02345.at f2_0234 (by omega)
      rw [z_0234.out] at sz_02345
      refine hK5_3.out _ V02345 hS_02345 (fun hHeld => ?_)
      clear hK5_3 K5_3
      try simp only [Act.put, List.setIfInBounds_toArray, List.set_cons_zero, List.set_cons_succ]
      refine wpAnyH_done (by kernel_rfl) ?_ _
      go_wp2_with fail
      go_meet
      case rel => exact ⟨W_3.heap.size, W_3.heap.size + 1, _, rfl, rfl, rfl, by omega, by omega, by omega, f2_02345, f3_02345, b_02345⟩
    · go_simp
      have hS_03 : ((W_3.drew).alloc (zN.o zS)).heap[g0 + 1 + 1]? = some (Nt.o (nC [⟨mA, 1⟩, ⟨mB, 1⟩] [] []) ⟨none, 0, some ⟨g2, 0, none⟩, c2, none, 0, none, 0⟩) := old_at hS_0 _
      have b_03 : Below W_3.heap.size W_3 ((W_3.drew).alloc (zN.o zS)) := b_0.alloc b_0.size _
      have f3_03 : ((W_3.drew).alloc (zN.o zS)).heap[W_3.heap.size]? = some (zN.o zS) := new_at _ _ _ z_0.out.symm
      have z_03 : Hid (((W_3.drew).alloc (zN.o zS)).heap.size = W_3.heap.size + 1) := by show _ = _; rw [World.size_alloc, z_0.out]
      refine hK3_0.out _ ((W_3.drew).alloc (zN.o zS)) hS_03 (fun hHeld => ?_)
      clear hK3_0 K3_0
      try simp only [Act.put, List.setIfInBounds_toArray, List.set_cons_zero, List.set_cons_succ]
      refine wpAnyH_ready (rs := [2]) (by kernel_rfl) (by simp) (cons_at (i := 2) rfl (fun K2_4 hK2_4 => ?_) AllReadyH.nil)
      go_simp
      have hS_032 : ((((W_3.drew).alloc (zN.o zS))).alloc (zN.o zS)).heap[g0 + 1 + 1]? = some (Nt.o (nC [⟨mA, 1⟩, ⟨mB, 1⟩] [] []) ⟨none, 0, some ⟨g2, 0, none⟩, c2, none, 0, none, 0⟩) := old_at hS_03 _
      have b_032 : Below W_3.heap.size W_3 ((((W_3.drew).alloc (zN.o zS))).alloc (zN.o zS)) := b_03.alloc b_03.size _
      have f2_032 : ((((W_3.drew).alloc (zN.o zS))).alloc (zN.o zS)).heap[W_3.heap.size + 1]? = some (zN.o zS) := new_at _ _ _ z_03.out.symm
      have z_032 : Hid (((((W_3.drew).alloc (zN.o zS))).alloc (zN.o zS)).heap.size = W_3.heap.size + 2) := by show _ = _; rw [World.size_alloc, z_03.out]
      have f3_032 : ((((W_3.drew).alloc (zN.o zS))).alloc (zN.o zS)).heap[W_3.heap.size]? = _ := old_at f3_03 _
      refine hK2_4.out _ ((((W_3.drew).alloc (zN.o zS))).alloc (zN.o zS)) hS_032 (fun hHeld => ?_)
      clear hK2_4 K2_4
      try simp only [Act.put, List.setIfInBounds_toArray, List.set_cons_zero, List.set_cons_succ]
      refine wpAnyH_ready (rs := [4]) (by kernel_rfl) (by simp) (cons_at (i := 4) rfl (fun K4_5 hK4_5 => ?_) AllReadyH.nil)
      refine step_store_nt (c := nC [⟨mA, 1⟩, ⟨mB, 1⟩] [] []) (q := ⟨none, 0, some ⟨g2, 0, none⟩, c2, none, 0, none, 0⟩) rfl (.tmp 13) (.tmp 53) rfl rfl rfl f2_032 ?_
      intro V0324 f2_0324 bt_0324 sz_0324
      have hS_0324 : V0324.heap[g0 + 1 + 1]? = some (Nt.o (nC [⟨mA, 1⟩, ⟨mB, 1⟩] [] []) ⟨none, 0, some ⟨g2, 0, none⟩, c2, none, 0, none, 0⟩) := bt_0324.at hS_032 (by omega)
      have b_0324 : Below W_3.heap.size W_3 V0324 := bt_0324.below b_032 (by omega)
      have z_0324 : Hid (V0324.heap.size = W_3.heap.size + 2) := by show _ = _; rw [sz_0324]; exact z_032.out
      have f3_0324 : V0324.heap[W_3.heap.size]? = _ := bt_0324.at f3_032 (by omega)
      rw [z_032.out] at sz_0324
      refine hK4_5.out _ V0324 hS_0324 (fun hHeld => ?_)
      clear hK4_5 K4_5
      try simp only [Act.put, List.setIfInBounds_toArray, List.set_cons_zero, List.set_cons_succ]
      refine wpAnyH_ready (rs := [5]) (by kernel_rfl) (by simp) (cons_at (i := 5) rfl (fun K5_6 hK5_6 => ?_) AllReadyH.nil)
      refine step_store_nt (c := nC [⟨mA, 1⟩, ⟨mB, 1⟩] [] []) (q := ⟨none, 0, some ⟨g2, 0, none⟩, c2, none, 0, none, 0⟩) rfl (.tmp 14) (.tmp 54) rfl rfl rfl f3_0324 ?_
      intro V03245 f3_03245 bt_03245 sz_03245
      have hS_03245 : V03245.heap[g0 + 1 + 1]? = some (Nt.o (nC [⟨mA, 1⟩, ⟨mB, 1⟩] [] []) ⟨none, 0, some ⟨g2, 0, none⟩, c2, none, 0, none, 0⟩) := bt_03245.at hS_0324 (by omega)
      have b_03245 : Below W_3.heap.size W_3 V03245 := bt_03245.below b_0324 (by omega)
      have z_03245 : Hid (V03245.heap.size = W_3.heap.size + 2) := by show _ = _; rw [sz_03245]; exact z_0324.out
      have f2_03245 : V03245.heap[W_3.heap.size + 1]? = _ := bt_03245.at f2_0324 (by omega)
      rw [z_0324.out] at sz_03245
      refine hK5_6.out _ V03245 hS_03245 (fun hHeld => ?_)
      clear hK5_6 K5_6
      try simp only [Act.put, List.setIfInBounds_toArray, List.set_cons_zero, List.set_cons_succ]
      refine wpAnyH_done (by kernel_rfl) ?_ _
      go_wp2_with fail
      go_meet
      case rel => exact ⟨W_3.heap.size + 1, W_3.heap.size, _, rfl, rfl, rfl, by omega, by omega, by omega, f2_03245, f3_03245, b_03245⟩
  case rest =>
    obtain ⟨p, q, wx, hwx, rfl, rfl, hpq, hp, hq, fp, fq, hb⟩ := hcut
    subst hwx
    have hTx := hid (var_on hb hT_3.out (at_lt hT_3.out))
    have hl := hs_3.out
    have lp := at_lt fp
    have lq := at_lt fq
    have lx := hb.size
    have lwi := hB_3.out.size
    have cp := cells_at fp
    have HP := hid fp
    have HQ := hid fq
    have HX := hid hb
    clear hb hs_3 hSN fp fq
    go_upto_region 10 with ((with_reducible refine wpList_load_thG ?_ (.tmp 11) rfl rfl hTx.out ?_); · rfl)
    obtain ⟨Wa, hWa⟩ : ∃ Wa, Hid (Wa = (wx.setCell ⟨p, 4, none⟩ (.slice (some ⟨wx.heap.size, 0, none⟩) 1 1)).alloc (tC X Y).o) := ⟨_, rfl⟩
    have hba := hid (show Below W_3.heap.size W_3 Wa by rw [hWa.out]; exact (HX.out.setCell (show W_3.heap.size ≤ p from hp) _).alloc (by simp; omega) _)
    have hPa := hid (show Wa.heap[p]? = some (Nt.o (nC [⟨mA, 1⟩, ⟨mB, 1⟩] [] [tC X Y]) ⟨none, 0, some ⟨g2, 0, none⟩, c2, some ⟨wx.heap.size, 0, none⟩, 1, none, 0⟩) by rw [hWa.out]; exact old_at (set_at HP.out _ rfl) _)
    have hQa := hid (show Wa.heap[q]? = some (Nt.o (nC [⟨mA, 1⟩, ⟨mB, 1⟩] [] []) ⟨none, 0, some ⟨g2, 0, none⟩, c2, none, 0, none, 0⟩) by rw [hWa.out]; exact old_at (set_off HQ.out (by omega) _) _)
    have hRa := hid (show Wa.heap[wx.heap.size]? = some (tC X Y).o by rw [hWa.out]; exact new_at _ _ _ (by simp))
    have hza := hid (show Wa.heap.size = wx.heap.size + 1 by rw [hWa.out]; simp)
    have hTa := hid (var_on hba.out hT_3.out (at_lt hT_3.out))
    try rw [← hWa.out]
    have lQ := at_lt hQa.out
    have lA := hba.out.size
    have cq := cells_at hQa.out
    clear hWa cp HP HQ hTx HX
    go_upto_region 11 with ((with_reducible refine wpList_load_thG ?_ (.tmp 11) rfl rfl hTa.out ?_); · rfl)
    obtain ⟨Wb, hWb⟩ : ∃ Wb, Hid (Wb = (Wa.setCell ⟨q, 2, none⟩ (.slice (some ⟨Wa.heap.size, 0, none⟩) 1 1)).alloc (tC X Y).o) := ⟨_, rfl⟩
    have hbb := hid (show Below W_3.heap.size W_3 Wb by rw [hWb.out]; exact (hba.out.setCell (show W_3.heap.size ≤ q from hq) _).alloc (by simp; omega) _)
    have hQb := hid (show Wb.heap[q]? = some (Nt.o (nC [⟨mA, 1⟩, ⟨mB, 1⟩] [tC X Y] []) ⟨some ⟨Wa.heap.size, 0, none⟩, 1, some ⟨g2, 0, none⟩, c2, none, 0, none, 0⟩) by rw [hWb.out]; exact old_at (set_at hQa.out _ rfl) _)
    have hPb := hid (show Wb.heap[p]? = some (Nt.o (nC [⟨mA, 1⟩, ⟨mB, 1⟩] [] [tC X Y]) ⟨none, 0, some ⟨g2, 0, none⟩, c2, some ⟨wx.heap.size, 0, none⟩, 1, none, 0⟩) by rw [hWb.out]; exact old_at (set_off hPa.out (by omega) _) _)
    have hRb := hid (show Wb.heap[wx.heap.size]? = some (tC X Y).o by rw [hWb.out]; exact old_at (set_off hRa.out (by omega) _) _)
    have hUb := hid (show Wb.heap[Wa.heap.size]? = some (tC X Y).o by rw [hWb.out]; exact new_at _ _ _ (by simp))
    have hTb := hid (var_on hbb.out hT_3.out (at_lt hT_3.out))
    have hNb := hid (var_on hbb.out hN_3.out (at_lt hN_3.out))
    have hHb := hid (hHi.out.later hbb.out)
    have hBb := hid (show Below w.heap.size w Wb from below_on hB_3.out hbb.out)
    have hRN := hid (show RowN Wb ⟨none, 0, some ⟨g2, 0, none⟩, c2, none, 0, none, 0⟩ (nC [⟨mA, 1⟩, ⟨mB, 1⟩] [] []) from ⟨.inl rfl, hHb.out, .inl rfl, .inl rfl⟩)
    have hRP := hid (show RowN Wb ⟨none, 0, some ⟨g2, 0, none⟩, c2, some ⟨wx.heap.size, 0, none⟩, 1, none, 0⟩ (nC [⟨mA, 1⟩, ⟨mB, 1⟩] [] [tC X Y]) from ⟨.inl rfl, hHb.out, rowT_block hRb.out rfl, .inl rfl⟩)
    have hRQ := hid (show RowN Wb ⟨some ⟨Wa.heap.size, 0, none⟩, 1, some ⟨g2, 0, none⟩, c2, none, 0, none, 0⟩ (nC [⟨mA, 1⟩, ⟨mB, 1⟩] [tC X Y] []) from ⟨rowT_block hUb.out rfl, hHb.out, .inl rfl, .inl rfl⟩)
    try rw [← hWb.out]
    clear hWb cq hQa hPa hRa hTa hza hba hbb lp lq lx lwi lQ lA hRb hUb hHb hHi
    clear hB_3 hT_3 hN_3
    have hGX : ∀ d os, (Sort.grow (redrawn Wb d) os).cell? ⟨g0, 1, none⟩ = some (.int .i64 X) := fun d os => by rw [grown_cells hTb.out 1 d os]; rfl
    have hGY : ∀ d os, (Sort.grow (redrawn Wb d) os).cell? ⟨g0, 2, none⟩ = some (.int .i64 Y) := fun d os => by rw [grown_cells hTb.out 2 d os]; rfl
    have hfin : ∀ d os, Hid (Below Wb.heap.size Wb (Sort.grow (redrawn Wb d) os)) := fun d os => below_regrown Wb d os
    obtain ⟨cx, hcx⟩ : ∃ cx, X / 16 = cx := ⟨_, rfl⟩
    obtain ⟨cy, hcy⟩ : ∃ cy, Y / 16 = cy := ⟨_, rfl⟩
    have bcx : 0 ≤ cx ∧ cx ≤ 3 := by omega
    have bcy : 0 ≤ cy ∧ cy ≤ 3 := by omega
    refine wp_region_quiet_below (by kernel_rfl) (by kernel_rfl) ?_
    repeat (first | go_big_quiet_skip | (go_big_quiet_want; go_big_quiet_op; first | go_big_quiet_on | go_big_quiet_call (fail)))
    refine wpQuiet_nil ?_
    intro _ hw'
    obtain ⟨⟨dq, osq⟩, hw''⟩ := hw'
    subst hw''
    have hb := (hfin dq osq).out
    obtain ⟨Wc, hWc⟩ : ∃ Wc, Sort.grow (redrawn Wb dq) osq = Wc := ⟨_, rfl⟩
    rw [hWc] at hb ⊢
    have hPc := hid (var_on hb hPb.out (at_lt hPb.out))
    have hQc := hid (var_on hb hQb.out (at_lt hQb.out))
    have hNc := hid (var_on hb hNb.out (at_lt hNb.out))
    have hBc := hid (below_on hBb.out hb)
    have hRNc := hid (hRN.out.later hb)
    have hRPc := hid (hRP.out.later hb)
    have hRQc := hid (hRQ.out.later hb)
    clear hWc hGX hGY hfin hb hPb hQb hNb hBb hRN hRP hRQ hTb
    go_upto_region 13 with fail
    rw [cell_bits bX bY hcx hcy, hCN.out]
    clear hcx hcy bcx bcy
    have K1 := hid (show isN (nC [⟨mA, 1⟩, ⟨mB, 1⟩] [] []) 2 = true from cell_n (hands_two bmA.1 bmA.2.1 bmA.2.2))
    have K2 := cell_g (hs := [⟨mA, 1⟩, ⟨mB, 1⟩]) (x := X) (y := Y) (hands_two bmA.1 bmA.2.1 bmA.2.2) htX
    have K3 := cell_m (hs := [⟨mA, 1⟩, ⟨mB, 1⟩]) (x := X) (y := Y) (hands_two bmA.1 bmA.2.1 bmA.2.2) htX
    rw [hCN.out, left_two] at K2 K3
    by_cases h1 : (CN : Int) = A
    · have e1 : ((CN : Int) == A) = true := by simpa using h1
      have EV : (mA == (CN : Int) || mB == (CN : Int)) = true := by have := HMN.out; simp; omega
      clear h1
      have C := note_is (HM.out.below hBc.out) hRNc.out (ask_nC (x := X) (y := Y) (by simp) (.inl rfl) (.inl rfl)) K1
      have C2 := fun (w' : World) (hb : Below Wc.heap.size Wc w') => note_is (n := nC [⟨mA, 1⟩, ⟨mB, 1⟩] [] [tC X Y]) (k := 2) (R := true) (HM.out.below (below_on hBc.out hb)) (hRPc.out.later hb) (ask_nC (x := X) (y := Y) (by simp) (.inl rfl) (.inr rfl)) (hid (by rw [K2]; exact EV))
      have C3 := fun (w' : World) (hb : Below Wc.heap.size Wc w') => note_is (n := nC [⟨mA, 1⟩, ⟨mB, 1⟩] [tC X Y] []) (k := 2) (R := false) (HM.out.below (below_on hBc.out hb)) (hRQc.out.later hb) (ask_nC (x := X) (y := Y) (by simp) (.inr rfl) (.inl rfl)) (hid (by rw [K3, EV]; rfl))
      clear K2 K3
      go_wp2_with ((with_reducible refine wpList_load_ntG ?_ (.tmp 12) rfl rfl hNc.out ?_); · rfl)
      refine C.mono ?_
      rintro x Wd ⟨rfl, hb⟩
      have hPd := hid (var_on hb hPc.out (at_lt hPc.out))
      have hQd := hid (var_on hb hQc.out (at_lt hQc.out))
      have C := C2 _ hb
      go_wp2_with ((with_reducible refine wpList_load_ntG ?_ (.tmp 13) rfl rfl hPd.out ?_); · rfl)
      refine C.mono ?_
      rintro x We ⟨rfl, hb2⟩
      have hQe := hid (var_on hb2 hQd.out (at_lt hQd.out))
      have hbe := below_on hb hb2
      have C := C3 _ hbe
      go_wp2_with ((with_reducible refine wpList_load_ntG ?_ (.tmp 14) rfl rfl hQe.out ?_); · rfl)
      refine C.mono ?_
      rintro x Wf ⟨rfl, hb3⟩
      have hBf := below_on hBc.out (below_on hbe hb3)
      clear C C2 C3 hb hb2 hb3 hbe hPd hQd hQe hPc hQc hNc
      go_wp2_with fail
      first
        | exact QQ.out _ hBf
        | (go_ret; exact QQ.out _ hBf)
    · have e1 : ((CN : Int) == A) = false := by simpa using h1
      by_cases h2 : (CN : Int) = B
      · have e2 : ((CN : Int) == B) = true := by simpa using h2
        have EV : (mA == (CN : Int) || mB == (CN : Int)) = true := by have := HMN.out; simp; omega
        clear h1 h2
        have C := note_is (HM.out.below hBc.out) hRNc.out (ask_nC (x := X) (y := Y) (by simp) (.inl rfl) (.inl rfl)) K1
        have C2 := fun (w' : World) (hb : Below Wc.heap.size Wc w') => note_is (n := nC [⟨mA, 1⟩, ⟨mB, 1⟩] [] [tC X Y]) (k := 2) (R := true) (HM.out.below (below_on hBc.out hb)) (hRPc.out.later hb) (ask_nC (x := X) (y := Y) (by simp) (.inl rfl) (.inr rfl)) (hid (by rw [K2]; exact EV))
        have C3 := fun (w' : World) (hb : Below Wc.heap.size Wc w') => note_is (n := nC [⟨mA, 1⟩, ⟨mB, 1⟩] [tC X Y] []) (k := 2) (R := false) (HM.out.below (below_on hBc.out hb)) (hRQc.out.later hb) (ask_nC (x := X) (y := Y) (by simp) (.inr rfl) (.inl rfl)) (hid (by rw [K3, EV]; rfl))
        clear K2 K3
        go_wp2_with ((with_reducible refine wpList_load_ntG ?_ (.tmp 12) rfl rfl hNc.out ?_); · rfl)
        refine C.mono ?_
        rintro x Wd ⟨rfl, hb⟩
        have hPd := hid (var_on hb hPc.out (at_lt hPc.out))
        have hQd := hid (var_on hb hQc.out (at_lt hQc.out))
        have C := C2 _ hb
        go_wp2_with ((with_reducible refine wpList_load_ntG ?_ (.tmp 13) rfl rfl hPd.out ?_); · rfl)
        refine C.mono ?_
        rintro x We ⟨rfl, hb2⟩
        have hQe := hid (var_on hb2 hQd.out (at_lt hQd.out))
        have hbe := below_on hb hb2
        have C := C3 _ hbe
        go_wp2_with ((with_reducible refine wpList_load_ntG ?_ (.tmp 14) rfl rfl hQe.out ?_); · rfl)
        refine C.mono ?_
        rintro x Wf ⟨rfl, hb3⟩
        have hBf := below_on hBc.out (below_on hbe hb3)
        clear C C2 C3 hb hb2 hb3 hbe hPd hQd hQe hPc hQc hNc
        go_wp2_with fail
        first
          | exact QQ.out _ hBf
          | (go_ret; exact QQ.out _ hBf)
      · have e2 : ((CN : Int) == B) = false := by simpa using h2
        have EV : (mA == (CN : Int) || mB == (CN : Int)) = false := by have := HMN.out; simp; omega
        clear h1 h2
        have C := note_is (HM.out.below hBc.out) hRNc.out (ask_nC (x := X) (y := Y) (by simp) (.inl rfl) (.inl rfl)) K1
        have C2 := fun (w' : World) (hb : Below Wc.heap.size Wc w') => note_is (n := nC [⟨mA, 1⟩, ⟨mB, 1⟩] [] [tC X Y]) (k := 2) (R := false) (HM.out.below (below_on hBc.out hb)) (hRPc.out.later hb) (ask_nC (x := X) (y := Y) (by simp) (.inl rfl) (.inr rfl)) (hid (by rw [K2]; exact EV))
        have C3 := fun (w' : World) (hb : Below Wc.heap.size Wc w') => note_is (n := nC [⟨mA, 1⟩, ⟨mB, 1⟩] [tC X Y] []) (k := 2) (R := true) (HM.out.below (below_on hBc.out hb)) (hRQc.out.later hb) (ask_nC (x := X) (y := Y) (by simp) (.inr rfl) (.inl rfl)) (hid (by rw [K3, EV]; rfl))
        clear K2 K3
        go_wp2_with ((with_reducible refine wpList_load_ntG ?_ (.tmp 12) rfl rfl hNc.out ?_); · rfl)
        refine C.mono ?_
        rintro x Wd ⟨rfl, hb⟩
        have hPd := hid (var_on hb hPc.out (at_lt hPc.out))
        have hQd := hid (var_on hb hQc.out (at_lt hQc.out))
        have C := C2 _ hb
        go_wp2_with ((with_reducible refine wpList_load_ntG ?_ (.tmp 13) rfl rfl hPd.out ?_); · rfl)
        refine C.mono ?_
        rintro x We ⟨rfl, hb2⟩
        have hQe := hid (var_on hb2 hQd.out (at_lt hQd.out))
        have hbe := below_on hb hb2
        have C := C3 _ hbe
        go_wp2_with ((with_reducible refine wpList_load_ntG ?_ (.tmp 14) rfl rfl hQe.out ?_); · rfl)
        refine C.mono ?_
        rintro x Wf ⟨rfl, hb3⟩
        have hBf := below_on hBc.out (below_on hbe hb3)
        clear C C2 C3 hb hb2 hb3 hbe hPd hQd hQe hPc hQc hNc
        go_wp2_with fail
        first
          | exact QQ.out _ hBf
          | (go_ret; exact QQ.out _ hBf)


theorem noteCells_own : ownKnob Tryd.prog.godebug = none := by kernel_rfl
theorem noteCells_laidOut : laidOutB Tryd.prog = true := by kernel_rfl
set_option maxRecDepth 100000 in
theorem noteCells_lifted (os : Os) (started : os.Started) (H : Type) (enc : TypeId × Value → H) :
    ReturnsInHanded {} Tryd.checked os 5 .any (fun w args => (Rows.noteCellsSpec.pre enc Tryd.prog Tryd.f5 [] false w args ∧ laidMetH Tryd.prog laids w) ∧ sizedMet enc Tryd.prog Tryd.f5 (OpenSpec.ofChange Rows.noteCellsSpec) false w args) (Rows.noteCellsSpec.post enc Tryd.prog Tryd.f5 false true false false) := by
  refine returnsInHanded_of_change_and (C := Tryd.checked) (X := fun w _ => laidMetH Tryd.prog laids w) (fun _ _ _ hh h => h.of_heap hh) own_knob started (by kernel_rfl) Tryd.func5
    (ChangeSpec.witness_shaped (enc := enc) (C := Tryd.checked) (os := os) (X := fun w _ => laidMetH Tryd.prog laids w) false (World.laidAll Tryd.prog os laids) #[.int .u8 0, .int .u8 0, .int .u8 0, .int .u8 0] 8 rfl (World.shaped_of_ZipB (by kernel_rfl) (by kernel_rfl)) (by kernel_rfl) (by kernel_rfl) (by kernel_rfl) (door_met os _)) ?_
  intro W base args ds gs before hval0 hW _ _ hL _
  have hval : ∀ (j : Nat) t v, Tryd.f5.params[j]? = some t → args[j]? = some v → Value.okWide Tryd.prog W .any base t v := hval0
  have hW' := hW
  obtain ⟨p, q, hA0, hV, rfl, hfz, hnd⟩ := hW
  have hA : DataW.TrodAll enc Tryd.prog W 0 (fun _ => true) true Tryd.f5.params.toList args.toList ds p := hA0
  rw [Tryd.params5] at hA hval
  obtain ⟨v0, vs0, d0, ds0, p0, q0, hargs, rfl, rfl, h0, r0⟩ := trodAll_cons hA
  obtain ⟨v1, vs1, d1, ds1, p1, q1, rfl, rfl, rfl, h1, r1⟩ := trodAll_cons r0
  obtain ⟨v2, vs2, d2, ds2, p2, q2, rfl, rfl, rfl, h2, r2⟩ := trodAll_cons r1
  obtain ⟨v3, vs3, d3, ds3, p3, q3, rfl, rfl, rfl, h3, r3⟩ := trodAll_cons r2
  obtain ⟨rfl, rfl, rfl⟩ := trodAll_nil r3
  obtain rfl : args = #[v0, v1, v2, v3] := by cases args; simp_all
  obtain ⟨rfl, rfl⟩ := trodVars_none hV
  have k0 := h0
  have lt0 : ∀ x ∈ p0, x.block < W.heap.size := by obtain ⟨m, hm⟩ := k0; exact DataW.trod_lt m _ _ _ hm
  have k1 := h1
  have lt1 : ∀ x ∈ p1, x.block < W.heap.size := by obtain ⟨m, hm⟩ := k1; exact DataW.trod_lt m _ _ _ hm
  have k2 := h2
  have lt2 : ∀ x ∈ p2, x.block < W.heap.size := by obtain ⟨m, hm⟩ := k2; exact DataW.trod_lt m _ _ _ hm
  have k3 := h3
  have lt3 : ∀ x ∈ p3, x.block < W.heap.size := by obtain ⟨m, hm⟩ := k3; exact DataW.trod_lt m _ _ _ hm
  obtain ⟨a0, rfl, rfl, rfl, w0⟩ := open_int Tryd.underlying5 (hval 0 5 v0 rfl rfl) h0
  obtain ⟨a1, rfl, rfl, rfl, w1⟩ := open_int Tryd.underlying5 (hval 1 5 v1 rfl rfl) h1
  obtain ⟨a2, rfl, rfl, rfl, w2⟩ := open_int Tryd.underlying5 (hval 2 5 v2 rfl rfl) h2
  obtain ⟨a3, rfl, rfl, rfl, w3⟩ := open_int Tryd.underlying5 (hval 3 5 v3 rfl rfl) h3
  clear hA0 hval0
  refine (noteCells_walk W (of_laid hL) a0 w0 a1 w1 a2 w2 a3 w3).mono fun e W' ⟨he, bel⟩ => ?_
  subst he
  exact ⟨_, rfl, _, _, _, [], _, [], hW', trodAll_mk1 (shut_bool Tryd.underlying4 _), (trodAll_cons_mk (Below.trod noteCells_laidOut (by kernel_rfl) (of_decide_eq_true (by kernel_rfl)) k0 bel lt0) (trodAll_cons_mk (Below.trod noteCells_laidOut (by kernel_rfl) (of_decide_eq_true (by kernel_rfl)) k1 bel lt1) (trodAll_cons_mk (Below.trod noteCells_laidOut (by kernel_rfl) (of_decide_eq_true (by kernel_rfl)) k2 bel lt2) (trodAll_cons_mk (Below.trod noteCells_laidOut (by kernel_rfl) (of_decide_eq_true (by kernel_rfl)) k3 bel lt3) trodAll_mk0)))), rfl, bel.frame _, fun h => by cases h⟩

theorem noteCells_over : Rows.noteCellsRow.holds Tryd.pinned (OpenSpec.ofChange Rows.noteCellsSpec) :=
  OpenClaim.holds_of_wide 5 Tryd.f5 rfl rfl rfl rfl rfl rfl rfl ⟨rfl, rfl, rfl, rfl, rfl⟩ rfl rfl rfl rfl rfl (by kernel_rfl) Tryd.func5 (by kernel_rfl)
    (of_decide_eq_true (by kernel_rfl)) (by unfold Func.isWrapper; first | (rw [if_pos (by decide +kernel)]; kernel_rfl) | (rw [if_neg (by decide +kernel)]; exact ⟨rfl, rfl⟩))
    (fun os started H enc _ => noteCells_lifted os started H enc)

theorem noteCells_holds : Rows.NoteCellsCardSaid :=
  Claim7.holds_tied_plain_at .later [] [.data] true (true, "3c6d20aca5cfe6d49a28b3149d252bfc9cda9008a1911849aadb7b82cd662cd3") false
    noteCells_over (fun _ h => by cases h) (by kernel_rfl) (fun _ h => by cases h) noteCells_row_tie rfl ⟨rfl, rfl⟩ (by kernel_rfl) rfl
    (fun f fn hf hfn => by
      obtain rfl : f = 5 := Option.some.inj ((show Tryd.prog.funcNamed "vedette/vedettelaw17.NoteCells" = some 5 by kernel_rfl).symm.trans hf) |>.symm
      obtain rfl : fn = Tryd.f5 := (Option.some.inj (Tryd.func5.symm.trans hfn)).symm
      exact ⟨by kernel_rfl, fun j t ht => by
        rw [Tryd.params5] at ht
        have hm : t ∈ [5, 5, 5, 5] := by simpa using Array.mem_of_getElem? ht
        have hall : ([5, 5, 5, 5].all fun u => !Tryd.prog.wantsStandIn u) = true := by kernel_rfl
        exact (show Tryd.prog.wantsStandIn t = false by simpa using List.all_eq_true.1 hall t hm)⟩)
    (by kernel_rfl)
#print axioms noteCells_holds
end Go.Proofs.YtpedngbjpbeanaaDoor
