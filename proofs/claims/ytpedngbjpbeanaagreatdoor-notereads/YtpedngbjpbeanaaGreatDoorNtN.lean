/- Contract of take of a row of commands. -/
import Derived.Test.YtpedngbjpbeanaaGreatDoorNtK
namespace Go.Proofs.YtpedngbjpbeanaaGreatDoor
open Go.RowKit
set_option linter.unusedVariables false
set_option linter.unusedSimpArgs false
set_option maxRecDepth 100000
set_option maxHeartbeats 8000000 in
theorem cm_take {w : World} {g k : Nat} {cs : Array Value} {T : TypeId} (h : w.heap[g]? = some (.cells cs T (0, 0))) (hk : cs[k]? = some (.slice none 0 0)) {s : ByteArray} {L : List Cm} {z e : Nat} (HR : Hid (rdL readC s.data.toList = (L, z, e))) (hs : s.size ≤ 1000000) :
    Calls Tryz.prog 121 #[cmV g k, .string s] w (TakeP (flatM) 57 22 w g k cs T L z e) := by
  obtain ⟨Q, hQ⟩ : ∃ Q, Hid (TakeP (flatM) 57 22 w g k cs T L z e = Q) := ⟨_, rfl⟩
  rw [hQ.out]
  obtain ⟨i0, hi, hz0, hz1, hz2⟩ := info_parts Tryz.infoCm
  have hg : g < w.heap.size := at_lt h
  have hks : k < cs.size := (Array.getElem?_eq_some_iff.1 hk).1
  obtain ⟨W0, hW0⟩ : ∃ W0, W0 = w.alloc (cmO g k) := ⟨_, rfl⟩
  have hb0 : Below w.heap.size w W0 := by rw [hW0]; exact below1 _ _
  have hA := hid (show W0.heap[w.heap.size]? = some (cmO g k) by rw [hW0]; exact new_at _ _ _ rfl)
  have hG := hid (show W0.heap[g]? = some (.cells cs T (0, 0)) by rw [hW0]; exact old_at h _)
  have lA := at_lt hA.out
  have hbut0 := hid (But.of_below hb0 g)
  rcases hget : get s.data.toList with ⟨n, i, y⟩
  obtain ⟨h1, h2, h3, h4, h5⟩ := get_ok hget
  have h2 : i ≤ s.size := h2
  have HG := hid hget
  obtain ⟨S, hS⟩ : ∃ S, Hid (s.data.toList = S) := ⟨_, rfl⟩
  have eS : S.length = s.size := by rw [← hS.out]; rfl
  have HK := hid hk
  clear h hk hget hb0 h3 h4 h5
  go_enter Tryz.func121, Tryz.ntmps121
  go_upto_region 1 with fail
  rw [← hW0]
  clear hW0
  go_wp2_with fail
  refine (get_eq HG (by unfold maxLen; omega) _).mono ?_
  rintro y2 w2 ⟨rfl, rfl⟩
  by_cases hy : y = 0
  · subst hy
    have hrun := hid (rdL_go HR.out HG.out)
    rw [hS.out] at hrun
    have hE : ((0 : Int) != 0) = false := rfl
    obtain ⟨B0, hB0⟩ : ∃ B0, Hid (w2.heap.size = B0) := ⟨_, rfl⟩
    have lB : w.heap.size < B0 := by rw [← hB0.out]; exact lA
    have hs0 : B0 ≤ w2.heap.size := Nat.le_of_eq hB0.out.symm
    clear HR HG lA
    go_wp2_with fail
    go_loopw [7, 22] (fun sz c wr => ∃ (j zN : Nat) (A : List Cm) (p : Option Addr) (cap : Nat), j ≤ n ∧ c = .int .u64 j ∧ sz = .int .i64 zN ∧ Hid (A.length = j) ∧ j ≤ zN ∧ zN ≤ s.size ∧ Hid (rdF readC S (n - j) zN A = (L, z, e)) ∧ Hid (wr.heap[g]? = some (.cells (cs.setIfInBounds k (.slice p j cap)) T (0, 0))) ∧ Hid (wr.heap[w.heap.size]? = some (cmO g k)) ∧ wr.ownsRow B0 57 22 (.slice p j cap) j (flatM A) ∧ B0 ≤ wr.heap.size ∧ But g w wr) (fun _ c _ => n - (intOf c).toNat)
    case atStart => exact ⟨0, i, [], none, 0, by omega, rfl, rfl, rfl, by omega, h2, hrun, by rw [set_same HK.out]; exact hG, hA, World.ownsRow_nil _ _ _ _, hs0, hbut0.out⟩
    case round =>
      obtain ⟨j, zN, A, p, cap, hj, rfl, rfl, hAj, hjz, hzs, hrun1, hG1, hA1, ho, hsz, hbut⟩ := hrel
      clear hrun hG hA hbut0 hs0
      by_cases hlt : j < n
      · have hlt' : (j : Int) < (n : Int) := by omega
        rcases hx : readC (S.drop zN) with ⟨x, i2, e2⟩
        have hle := readC_rd.le (S.drop zN)
        rw [hx, List.length_drop] at hle
        have hle : i2 ≤ S.length - zN := hle
        have hpos := readC_rd.pos (S.drop zN)
        rw [hx] at hpos
        have hpos : e2 = 0 → 1 ≤ i2 := fun q => (hpos q).1
        have hcut : readC (s.extract zN s.size).data.toList = (x, i2, e2) := by rw [cut_data, hS.out]; exact hx
        have hcs : (s.extract zN s.size).size ≤ 1000000 := by rw [ByteArray.size_extract]; omega
        have CD : ∀ w', Calls Tryz.prog 47 #[.string (s.extract zN s.size)] w' fun r w'' => r = .returned (.tuple #[x.v, .int .i64 i2, .int .i64 e2]) ∧ Below w'.heap.size w' w'' := fun _ => cmd_read (hid hcut) hcs _
        have hrun2 : rdF readC S (n - (j + 1) + 1) zN A = (L, z, e) := by have := hrun1.out; rwa [show n - j = n - (j + 1) + 1 by omega] at this
        have HX := hid hx
        have HRUN := hid hrun2
        have cA := (cells_at hA1.out).1
        have lA1 := at_lt hA1.out
        have SB : ∀ wx : World, Below wr.heap.size wr wx → (Below wr.heap.size wr wx ∧ wx.cell? ⟨w.heap.size, 2, none⟩ = some (.func (.func 47) #[] #[])) := fun wx hx => ⟨hx, cell_below hx (by rw [cA]; rfl)⟩
        have jz1 : (0 : Int) ≤ (zN : Int) := by omega
        have jz2 : (zN : Int) ≤ (s.size : Int) := by omega
        clear hx hcut hcs hrun1 hrun2 cA
        go_upto_region 6 with fail
        go_cut [9, 10, 11] from 23 to 50 (fun s9 s10 s11 wc => ∃ (gd : Nat) (wx : World), wx = wc ∧ s9 = .pointer (some ⟨gd, 0, none⟩) ∧ s10 = .int .i64 i2 ∧ s11 = .int .i64 e2 ∧ wx.heap[gd]? = some x.o ∧ wr.heap.size ≤ gd ∧ Below wr.heap.size wr wx)
        case first =>
          refine wp_region_held_drew (S := fun w' => Below wr.heap.size wr w' ∧ w'.cell? ⟨w.heap.size, 2, none⟩ = some (.func (.func 47) #[] #[])) (by kernel_rfl) (SB _ (Below.refl _ _).drew) (fun hHeld => ?_)
          refine take_yes (i := 0) (v := ?v0a) rfl (by kernel_rfl) (by kernel_rfl) (by kernel_rfl) (fun _ _ _ h => h) (by rfl) ?hy0a hHeld ?rest0a
          case hy0a =>
            intro w' hSw
            obtain ⟨-, s0⟩ := hSw
            go_simp <;> with_reducible rfl
          try simp only [Act.put, List.setIfInBounds_toArray, List.set_cons_zero, List.set_cons_succ]
          refine take_yes (i := 1) (v := ?v1a) rfl (by kernel_rfl) (by kernel_rfl) (by kernel_rfl) (fun _ _ _ h => h) (by rfl) ?hy1a hHeld ?rest1a
          case hy1a =>
            intro w' hSw
            obtain ⟨-, s0⟩ := hSw
            go_simp <;> with_reducible rfl
          try simp only [Act.put, List.setIfInBounds_toArray, List.set_cons_zero, List.set_cons_succ]
          refine take_yes (i := 2) (v := ?v2a) rfl (by kernel_rfl) (by kernel_rfl) (by kernel_rfl) (fun _ _ _ h => h) (by rfl) ?hy2a hHeld ?rest2a
          case hy2a =>
            intro w' hSw
            obtain ⟨-, s0⟩ := hSw
            go_simp <;> with_reducible rfl
          try simp only [Act.put, List.setIfInBounds_toArray, List.set_cons_zero, List.set_cons_succ]
          refine take_yes (i := 3) (v := ?v3a) rfl (by kernel_rfl) (by kernel_rfl) (by kernel_rfl) (fun _ _ _ h => h) (by rfl) ?hy3a hHeld ?rest3a
          case hy3a =>
            intro w' hSw
            obtain ⟨-, s0⟩ := hSw
            go_simp <;> with_reducible rfl
          try simp only [Act.put, List.setIfInBounds_toArray, List.set_cons_zero, List.set_cons_succ]
          refine take_yes (i := 4) (v := ?v4a) rfl (by kernel_rfl) (by kernel_rfl) (by kernel_rfl) (fun _ _ _ h => h) (by rfl) ?hy4a hHeld ?rest4a
          case hy4a =>
            intro w' hSw
            obtain ⟨-, s0⟩ := hSw
            go_simp <;> with_reducible rfl
          try simp only [Act.put, List.setIfInBounds_toArray, List.set_cons_zero, List.set_cons_succ]
          refine wpAnyH_ready (rs := [5, 10]) (by kernel_rfl) (by simp) (cons_at (i := 5) rfl (fun K5c hK5c => ?_) (cons_at (i := 10) rfl (fun K10d hK10d => ?_) AllReadyH.nil))
          · go_simp
            go_at_call 47
            with_reducible refine (CD _).mono ?_
            rintro y W4 ⟨rfl, hb4⟩
            have hb4' : Below wr.heap.size wr W4 := below_on (Below.refl _ _).drew hb4
            go_wp2_with fail
            refine hK5c.out _ _ (SB _ hb4') (fun hHeld => ?_)
            clear hK5c K5c
            try simp only [Act.put, List.setIfInBounds_toArray, List.set_cons_zero, List.set_cons_succ]
            refine take_yes (i := 6) (v := ?v6e) rfl (by kernel_rfl) (by kernel_rfl) (by kernel_rfl) (fun _ _ _ h => h) (by rfl) ?hy6e hHeld ?rest6e
            case hy6e =>
              intro w' hSw
              obtain ⟨-, s0⟩ := hSw
              go_simp <;> with_reducible rfl
            try simp only [Act.put, List.setIfInBounds_toArray, List.set_cons_zero, List.set_cons_succ]
            refine take_yes (i := 7) (v := ?v7e) rfl (by kernel_rfl) (by kernel_rfl) (by kernel_rfl) (fun _ _ _ h => h) (by rfl) ?hy7e hHeld ?rest7e
            case hy7e =>
              intro w' hSw
              obtain ⟨-, s0⟩ := hSw
              go_simp <;> with_reducible rfl
            try simp only [Act.put, List.setIfInBounds_toArray, List.set_cons_zero, List.set_cons_succ]
            refine take_yes (i := 8) (v := ?v8e) rfl (by kernel_rfl) (by kernel_rfl) (by kernel_rfl) (fun _ _ _ h => h) (by rfl) ?hy8e hHeld ?rest8e
            case hy8e =>
              intro w' hSw
              obtain ⟨-, s0⟩ := hSw
              go_simp <;> with_reducible rfl
            try simp only [Act.put, List.setIfInBounds_toArray, List.set_cons_zero, List.set_cons_succ]
            refine take_yes (i := 9) (v := ?v9e) rfl (by kernel_rfl) (by kernel_rfl) (by kernel_rfl) (fun _ _ _ h => h) (by rfl) ?hy9e hHeld ?rest9e
            case hy9e =>
              intro w' hSw
              obtain ⟨-, s0⟩ := hSw
              go_simp <;> with_reducible rfl
            try simp only [Act.put, List.setIfInBounds_toArray, List.set_cons_zero, List.set_cons_succ]
            refine wpAnyH_ready (rs := [10]) (by kernel_rfl) (by simp) (cons_at (i := 10) rfl (fun K10e hK10e => ?_) AllReadyH.nil)
            go_simp
            refine hK10e.out _ _ (SB _ (hb4'.alloc hb4'.size _)) (fun hHeld => ?_)
            clear hK10e K10e
            try simp only [Act.put, List.setIfInBounds_toArray, List.set_cons_zero, List.set_cons_succ]
            refine wpAnyH_ready (rs := [11]) (by kernel_rfl) (by simp) (cons_at (i := 11) rfl (fun K11e hK11e => ?_) AllReadyH.nil)
            refine step_store_cm rfl (.tmp 9) (.tmp 31) rfl rfl rfl (new_at W4 zC.o _ rfl) ?_
            intro W6 KD6 b6 s6
            refine hK11e.out _ _ (SB _ (b6.below (hb4'.alloc hb4'.size _) hb4'.size)) (fun hHeld => ?_)
            clear hK11e K11e
            try simp only [Act.put, List.setIfInBounds_toArray, List.set_cons_zero, List.set_cons_succ]
            refine take_yes (i := 12) (v := ?v12e) rfl (by kernel_rfl) (by kernel_rfl) (by kernel_rfl) (fun _ _ _ h => h) (by rfl) ?hy12e hHeld ?rest12e
            case hy12e =>
              intro w' hSw
              obtain ⟨-, s0⟩ := hSw
              go_simp <;> with_reducible rfl
            try simp only [Act.put, List.setIfInBounds_toArray, List.set_cons_zero, List.set_cons_succ]
            refine take_yes (i := 13) (v := ?v13e) rfl (by kernel_rfl) (by kernel_rfl) (by kernel_rfl) (fun _ _ _ h => h) (by rfl) ?hy13e hHeld ?rest13e
            case hy13e =>
              intro w' hSw
              obtain ⟨-, s0⟩ := hSw
              go_simp <;> with_reducible rfl
            try simp only [Act.put, List.setIfInBounds_toArray, List.set_cons_zero, List.set_cons_succ]
            refine wpAnyH_done (by kernel_rfl) ?_ _
            go_wp2_with fail
            go_meet
            case rel => exact ⟨W4.heap.size, _, rfl, rfl, rfl, rfl, KD6, hb4'.size, (b6.below (hb4'.alloc hb4'.size _) hb4'.size)⟩
          · go_simp
            have hba : Below wr.heap.size wr ((wr.alloc zC.o).drew) := (below1 _ _).drew
            refine hK10d.out _ _ (SB _ hba) (fun hHeld => ?_)
            clear hK10d K10d
            try simp only [Act.put, List.setIfInBounds_toArray, List.set_cons_zero, List.set_cons_succ]
            refine wpAnyH_ready (rs := [5]) (by kernel_rfl) (by simp) (cons_at (i := 5) rfl (fun K5f hK5f => ?_) AllReadyH.nil)
            go_simp
            go_at_call 47
            with_reducible refine (CD _).mono ?_
            rintro y W4 ⟨rfl, hb4⟩
            have hb4' : Below wr.heap.size wr W4 := below_on hba hb4
            have KD4 : W4.heap[wr.heap.size]? = some zC.o := var_on hb4 (new_at wr zC.o _ rfl) (by simp)
            go_wp2_with fail
            refine hK5f.out _ _ (SB _ hb4') (fun hHeld => ?_)
            clear hK5f K5f
            try simp only [Act.put, List.setIfInBounds_toArray, List.set_cons_zero, List.set_cons_succ]
            refine take_yes (i := 6) (v := ?v6f) rfl (by kernel_rfl) (by kernel_rfl) (by kernel_rfl) (fun _ _ _ h => h) (by rfl) ?hy6f hHeld ?rest6f
            case hy6f =>
              intro w' hSw
              obtain ⟨-, s0⟩ := hSw
              go_simp <;> with_reducible rfl
            try simp only [Act.put, List.setIfInBounds_toArray, List.set_cons_zero, List.set_cons_succ]
            refine take_yes (i := 7) (v := ?v7f) rfl (by kernel_rfl) (by kernel_rfl) (by kernel_rfl) (fun _ _ _ h => h) (by rfl) ?hy7f hHeld ?rest7f
            case hy7f =>
              intro w' hSw
              obtain ⟨-, s0⟩ := hSw
              go_simp <;> with_reducible rfl
            try simp only [Act.put, List.setIfInBounds_toArray, List.set_cons_zero, List.set_cons_succ]
            refine take_yes (i := 8) (v := ?v8f) rfl (by kernel_rfl) (by kernel_rfl) (by kernel_rfl) (fun _ _ _ h => h) (by rfl) ?hy8f hHeld ?rest8f
            case hy8f =>
              intro w' hSw
              obtain ⟨-, s0⟩ := hSw
              go_simp <;> with_reducible rfl
            try simp only [Act.put, List.setIfInBounds_toArray, List.set_cons_zero, List.set_cons_succ]
            refine take_yes (i := 9) (v := ?v9f) rfl (by kernel_rfl) (by kernel_rfl) (by kernel_rfl) (fun _ _ _ h => h) (by rfl) ?hy9f hHeld ?rest9f
            case hy9f =>
              intro w' hSw
              obtain ⟨-, s0⟩ := hSw
              go_simp <;> with_reducible rfl
            try simp only [Act.put, List.setIfInBounds_toArray, List.set_cons_zero, List.set_cons_succ]
            refine wpAnyH_ready (rs := [11]) (by kernel_rfl) (by simp) (cons_at (i := 11) rfl (fun K11f hK11f => ?_) AllReadyH.nil)
            refine step_store_cm rfl (.tmp 9) (.tmp 31) rfl rfl rfl KD4 ?_
            intro W6 KD6 b6 s6
            refine hK11f.out _ _ (SB _ (b6.below hb4' (Nat.le_refl _))) (fun hHeld => ?_)
            clear hK11f K11f
            try simp only [Act.put, List.setIfInBounds_toArray, List.set_cons_zero, List.set_cons_succ]
            refine take_yes (i := 12) (v := ?v12f) rfl (by kernel_rfl) (by kernel_rfl) (by kernel_rfl) (fun _ _ _ h => h) (by rfl) ?hy12f hHeld ?rest12f
            case hy12f =>
              intro w' hSw
              obtain ⟨-, s0⟩ := hSw
              go_simp <;> with_reducible rfl
            try simp only [Act.put, List.setIfInBounds_toArray, List.set_cons_zero, List.set_cons_succ]
            refine take_yes (i := 13) (v := ?v13f) rfl (by kernel_rfl) (by kernel_rfl) (by kernel_rfl) (fun _ _ _ h => h) (by rfl) ?hy13f hHeld ?rest13f
            case hy13f =>
              intro w' hSw
              obtain ⟨-, s0⟩ := hSw
              go_simp <;> with_reducible rfl
            try simp only [Act.put, List.setIfInBounds_toArray, List.set_cons_zero, List.set_cons_succ]
            refine wpAnyH_done (by kernel_rfl) ?_ _
            go_wp2_with fail
            go_meet
            case rel => exact ⟨wr.heap.size, _, rfl, rfl, rfl, rfl, KD6, (Nat.le_refl _), (b6.below hb4' (Nat.le_refl _))⟩
        case rest =>
          obtain ⟨gd, wx, hwx, rfl, rfl, rfl, KD, hgd, hbc⟩ := hcut
          subst hwx
          have hrow : ∀ r, (Value.slice p j cap).ownBlock = some r → r < gd := fun r hr => Nat.lt_of_lt_of_le (ho.lt r hr).2 hgd
          have ho1 := owns_on ho hbc
          have hsz3 : B0 ≤ wx.heap.size := Nat.le_trans hsz hbc.size
          have lgB : g < B0 := by omega
          have hG2 := hid (var_on hbc hG1.out (at_lt hG1.out))
          have hA2 := hid (var_on hbc hA1.out lA1)
          have hB2 := hid (hbut.trans (But.of_below hbc g))
          have hsz2 := hbc.size
          have lg2 := at_lt hG2.out
          have lKD := at_lt KD
          clear CD SB ho hbut hbc hG1 hA1 lA1 jz1 jz2
          by_cases he : e2 = 0
          · subst he
            have hi2 := hpos rfl
            have hnx := hid (rdF_next HRUN.out HX.out)
            have hE2 : ((0 : Int) != 0) = false := rfl
            go_upto_region 9 with fail
            have c5 : wx.cell? ⟨g, k, none⟩ = some (.slice p j cap) := by rw [(cells_at hG2.out).1]; exact set_get _ hks
            have cA2 := (cells_at hA2.out).1
            have SX : ∀ W' : World, Below wx.heap.size wx W' → (W'.cell? ⟨w.heap.size, 0, none⟩ = some (.pointer (some ⟨g, k, none⟩)) ∧ W'.heap[gd]? = some x.o) := fun W' hx => ⟨cell_below hx (by rw [cA2]; rfl), var_on hx KD lKD⟩
            clear cA2
            refine wp_region_held_drew (S := fun w' => w'.cell? ⟨w.heap.size, 0, none⟩ = some (.pointer (some ⟨g, k, none⟩)) ∧ w'.heap[gd]? = some x.o) (by kernel_rfl) (SX _ (Below.refl _ _).drew) (fun hHeld => ?_)
            refine take_yes (i := 0) (v := ?v0g) rfl (by kernel_rfl) (by kernel_rfl) (by kernel_rfl) (fun _ _ _ h => h) (by rfl) ?hy0g hHeld ?rest0g
            case hy0g =>
              intro w' hSw
              obtain ⟨s0, -⟩ := hSw
              go_simp <;> with_reducible rfl
            try simp only [Act.put, List.setIfInBounds_toArray, List.set_cons_zero, List.set_cons_succ]
            refine take_yes (i := 1) (v := ?v1g) rfl (by kernel_rfl) (by kernel_rfl) (by kernel_rfl) (fun _ _ _ h => h) (by rfl) ?hy1g hHeld ?rest1g
            case hy1g =>
              intro w' hSw
              obtain ⟨s0, -⟩ := hSw
              go_simp <;> with_reducible rfl
            try simp only [Act.put, List.setIfInBounds_toArray, List.set_cons_zero, List.set_cons_succ]
            refine take_yes (i := 2) (v := ?v2g) rfl (by kernel_rfl) (by kernel_rfl) (by kernel_rfl) (fun _ _ _ h => h) (by rfl) ?hy2g hHeld ?rest2g
            case hy2g =>
              intro w' hSw
              obtain ⟨s0, -⟩ := hSw
              go_simp <;> with_reducible rfl
            try simp only [Act.put, List.setIfInBounds_toArray, List.set_cons_zero, List.set_cons_succ]
            refine take_yes (i := 3) (v := ?v3g) rfl (by kernel_rfl) (by kernel_rfl) (by kernel_rfl) (fun _ _ _ h => h) (by rfl) ?hy3g hHeld ?rest3g
            case hy3g =>
              intro w' hSw
              obtain ⟨s0, -⟩ := hSw
              go_simp <;> with_reducible rfl
            try simp only [Act.put, List.setIfInBounds_toArray, List.set_cons_zero, List.set_cons_succ]
            refine take_yes (i := 4) (v := ?v4g) rfl (by kernel_rfl) (by kernel_rfl) (by kernel_rfl) (fun _ _ _ h => h) (by rfl) ?hy4g hHeld ?rest4g
            case hy4g =>
              intro w' hSw
              obtain ⟨s0, -⟩ := hSw
              go_simp <;> with_reducible rfl
            try simp only [Act.put, List.setIfInBounds_toArray, List.set_cons_zero, List.set_cons_succ]
            refine take_yes (i := 6) (v := _) rfl (by kernel_rfl) (by kernel_rfl) (by kernel_rfl) (fun _ _ _ h => h) (by rfl) (fun w' hSw => exec_load_cm (.tmp 9) rfl rfl hSw.2) hHeld ?rest6g
            try simp only [Act.put, List.setIfInBounds_toArray, List.set_cons_zero, List.set_cons_succ]
            refine wpAnyH_ready (rs := [5, 7]) (by kernel_rfl) (by simp) (cons_at (i := 5) rfl (fun K5h hK5h => ?_) (cons_at (i := 7) rfl (fun K7i hK7i => ?_) AllReadyH.nil))
            · go_simp
              refine hK5h.out _ _ (SX _ (Below.refl _ _).drew) (fun hHeld => ?_)
              clear hK5h K5h
              try simp only [Act.put, List.setIfInBounds_toArray, List.set_cons_zero, List.set_cons_succ]
              refine wpAnyH_ready (rs := [7]) (by kernel_rfl) (by simp) (cons_at (i := 7) rfl (fun K7j hK7j => ?_) AllReadyH.nil)
              go_simp
              refine hK7j.out _ _ (SX _ ((below1 _ _).drew)) (fun hHeld => ?_)
              clear hK7j K7j
              try simp only [Act.put, List.setIfInBounds_toArray, List.set_cons_zero, List.set_cons_succ]
              refine wpAnyH_ready (rs := [8]) (by kernel_rfl) (by simp) (cons_at (i := 8) rfl (fun K8k hK8k => ?_) AllReadyH.nil)
              refine step_append_lies _ rfl (.tmp 42) (.tmp 44) 24 rfl B0 57 i0 zC.v 22 216 Tryz.underlying24 hi hz0 hz1 hz2 rfl (by decide) _ _ _ rfl ((ho1.alloc _).drew) ⟨wx.heap.size, 0, none⟩ 1 1 x.cs rfl rfl (World.news_of_block (heap_alloc_new _ _)) (cm_one x) (by decide) (by unfold maxLen; omega) (by omega) (by simp; omega) (wx.heap.size + 1) (by simp) ?_
              intro g5 cap5 W5 hown5 hgrow5 hat5 hg5
              have hB5 : Below B0 wx W5 := (((Below.refl B0 wx).alloc hsz3 _).drew).grown hgrow5 (by simp; omega) (fun k hk => (ho1.lt k hk).1)
              have hG5 := hid (var_on hB5 hG2.out lgB)
              have hA5 := hid (var_on hB5 hA2.out lB)
              have f5 : W5.frozen? ⟨g, k, none⟩ = false := (cells_at hG5.out).2 k
              have l5 := at_lt hG5.out
              have d5 : W5.cell? ⟨g, k, none⟩ = some (.slice p j cap) := by rw [(cells_at hG5.out).1]; exact set_get _ hks
              have hbut5 := hid (But.grown (But.drew (But.alloc hB2.out _)) hgrow5 (fun k hk => Nat.le_of_lt (Nat.lt_of_lt_of_le lB (ho1.lt k hk).1)))
              refine hK8k.out _ _ ⟨by rw [hgrow5.cell_far _ (by show w.heap.size < _; simp; omega) (fun e => by have h9 := (ho1.lt _ e.symm).1; have h9 : B0 ≤ w.heap.size := h9; omega)]; exact (SX _ ((below1 _ _).drew)).1, by rw [hgrow5.block gd (by simp; omega) (fun e => by have := hrow gd e.symm; omega)]; exact (SX _ ((below1 _ _).drew)).2⟩ (fun hHeld => ?_)
              clear hK8k K8k
              try simp only [Act.put, List.setIfInBounds_toArray, List.set_cons_zero, List.set_cons_succ]
              refine take_yes (i := 9) (v := ?v9k) rfl (by kernel_rfl) (by kernel_rfl) (by kernel_rfl) (fun _ _ _ h => h) (by rfl) ?hy9k hHeld ?rest9k
              case hy9k =>
                intro w' hSw
                obtain ⟨s0, -⟩ := hSw
                go_simp <;> with_reducible rfl
              try simp only [Act.put, List.setIfInBounds_toArray, List.set_cons_zero, List.set_cons_succ]
              refine wpAnyH_ready (rs := [10]) (by kernel_rfl) (by simp) (cons_at (i := 10) rfl (fun K10k hK10k => ?_) AllReadyH.nil)
              go_simp
              refine hK10k.out _ _ ⟨(Go.World.cell?_setCell_far W5 ⟨g, k, none⟩ ⟨w.heap.size, 0, none⟩ (.slice (some ⟨g5, 0, none⟩) (j + 1) cap5) (Nat.ne_of_lt hg)).trans hHeld.1, set_off hHeld.2 (by omega) _⟩ (fun hHeld => ?_)
              clear hK10k K10k
              try simp only [Act.put, List.setIfInBounds_toArray, List.set_cons_zero, List.set_cons_succ]
              refine wpAnyH_done (by kernel_rfl) ?_ _
              clear hHeld
              have hG6 := hid (show (W5.setCell ⟨g, k, none⟩ (.slice (some ⟨g5, 0, none⟩) (j + 1) cap5)).heap[g]? = some (.cells (cs.setIfInBounds k (.slice (some ⟨g5, 0, none⟩) (j + 1) cap5)) T (0, 0)) from set_at hG5.out _ (set_set _ _ _ _))
              have hA6 := hid (show (W5.setCell ⟨g, k, none⟩ (.slice (some ⟨g5, 0, none⟩) (j + 1) cap5)).heap[w.heap.size]? = some (cmO g k) from set_off hA5.out (by omega) _)
              have ho6 := owns_but hown5 ((But.refl g W5).setCell k (.slice (some ⟨g5, 0, none⟩) (j + 1) cap5)) lgB
              have hs6 : B0 ≤ (W5.setCell ⟨g, k, none⟩ (.slice (some ⟨g5, 0, none⟩) (j + 1) cap5)).heap.size := by have := hB5.size; simp; omega
              have hb6 := hid (hbut5.out.setCell k (.slice (some ⟨g5, 0, none⟩) (j + 1) cap5))
              clear SX hB5 hG5 hA5 f5 hown5 hgrow5 hat5 hbut5 c5
              go_wp2_with fail
              go_roundw
              case rel => exact ⟨j + 1, zN + i2, A ++ [x], _, _, by omega, by go_num, by go_num, hid (by rw [List.length_append, hAj.out]; rfl), by omega, by omega, hnx, hG6, hA6, by rw [flatM_append, flatM_one]; exact ho6, hs6, hb6.out⟩
              case measure => simp [intOf]; omega
            · go_simp
              refine hK7i.out _ _ (SX _ ((below1 _ _).drew)) (fun hHeld => ?_)
              clear hK7i K7i
              try simp only [Act.put, List.setIfInBounds_toArray, List.set_cons_zero, List.set_cons_succ]
              refine wpAnyH_ready (rs := [5]) (by kernel_rfl) (by simp) (cons_at (i := 5) rfl (fun K5l hK5l => ?_) AllReadyH.nil)
              go_simp
              refine hK5l.out _ _ (SX _ ((below1 _ _).drew)) (fun hHeld => ?_)
              clear hK5l K5l
              try simp only [Act.put, List.setIfInBounds_toArray, List.set_cons_zero, List.set_cons_succ]
              refine wpAnyH_ready (rs := [8]) (by kernel_rfl) (by simp) (cons_at (i := 8) rfl (fun K8m hK8m => ?_) AllReadyH.nil)
              refine step_append_lies _ rfl (.tmp 42) (.tmp 44) 24 rfl B0 57 i0 zC.v 22 216 Tryz.underlying24 hi hz0 hz1 hz2 rfl (by decide) _ _ _ rfl ((ho1.alloc _).drew) ⟨wx.heap.size, 0, none⟩ 1 1 x.cs rfl rfl (World.news_of_block (heap_alloc_new _ _)) (cm_one x) (by decide) (by unfold maxLen; omega) (by omega) (by simp; omega) (wx.heap.size + 1) (by simp) ?_
              intro g5 cap5 W5 hown5 hgrow5 hat5 hg5
              have hB5 : Below B0 wx W5 := (((Below.refl B0 wx).alloc hsz3 _).drew).grown hgrow5 (by simp; omega) (fun k hk => (ho1.lt k hk).1)
              have hG5 := hid (var_on hB5 hG2.out lgB)
              have hA5 := hid (var_on hB5 hA2.out lB)
              have f5 : W5.frozen? ⟨g, k, none⟩ = false := (cells_at hG5.out).2 k
              have l5 := at_lt hG5.out
              have d5 : W5.cell? ⟨g, k, none⟩ = some (.slice p j cap) := by rw [(cells_at hG5.out).1]; exact set_get _ hks
              have hbut5 := hid (But.grown (But.drew (But.alloc hB2.out _)) hgrow5 (fun k hk => Nat.le_of_lt (Nat.lt_of_lt_of_le lB (ho1.lt k hk).1)))
              refine hK8m.out _ _ ⟨by rw [hgrow5.cell_far _ (by show w.heap.size < _; simp; omega) (fun e => by have h9 := (ho1.lt _ e.symm).1; have h9 : B0 ≤ w.heap.size := h9; omega)]; exact (SX _ ((below1 _ _).drew)).1, by rw [hgrow5.block gd (by simp; omega) (fun e => by have := hrow gd e.symm; omega)]; exact (SX _ ((below1 _ _).drew)).2⟩ (fun hHeld => ?_)
              clear hK8m K8m
              try simp only [Act.put, List.setIfInBounds_toArray, List.set_cons_zero, List.set_cons_succ]
              refine take_yes (i := 9) (v := ?v9m) rfl (by kernel_rfl) (by kernel_rfl) (by kernel_rfl) (fun _ _ _ h => h) (by rfl) ?hy9m hHeld ?rest9m
              case hy9m =>
                intro w' hSw
                obtain ⟨s0, -⟩ := hSw
                go_simp <;> with_reducible rfl
              try simp only [Act.put, List.setIfInBounds_toArray, List.set_cons_zero, List.set_cons_succ]
              refine wpAnyH_ready (rs := [10]) (by kernel_rfl) (by simp) (cons_at (i := 10) rfl (fun K10m hK10m => ?_) AllReadyH.nil)
              go_simp
              refine hK10m.out _ _ ⟨(Go.World.cell?_setCell_far W5 ⟨g, k, none⟩ ⟨w.heap.size, 0, none⟩ (.slice (some ⟨g5, 0, none⟩) (j + 1) cap5) (Nat.ne_of_lt hg)).trans hHeld.1, set_off hHeld.2 (by omega) _⟩ (fun hHeld => ?_)
              clear hK10m K10m
              try simp only [Act.put, List.setIfInBounds_toArray, List.set_cons_zero, List.set_cons_succ]
              refine wpAnyH_done (by kernel_rfl) ?_ _
              clear hHeld
              have hG6 := hid (show (W5.setCell ⟨g, k, none⟩ (.slice (some ⟨g5, 0, none⟩) (j + 1) cap5)).heap[g]? = some (.cells (cs.setIfInBounds k (.slice (some ⟨g5, 0, none⟩) (j + 1) cap5)) T (0, 0)) from set_at hG5.out _ (set_set _ _ _ _))
              have hA6 := hid (show (W5.setCell ⟨g, k, none⟩ (.slice (some ⟨g5, 0, none⟩) (j + 1) cap5)).heap[w.heap.size]? = some (cmO g k) from set_off hA5.out (by omega) _)
              have ho6 := owns_but hown5 ((But.refl g W5).setCell k (.slice (some ⟨g5, 0, none⟩) (j + 1) cap5)) lgB
              have hs6 : B0 ≤ (W5.setCell ⟨g, k, none⟩ (.slice (some ⟨g5, 0, none⟩) (j + 1) cap5)).heap.size := by have := hB5.size; simp; omega
              have hb6 := hid (hbut5.out.setCell k (.slice (some ⟨g5, 0, none⟩) (j + 1) cap5))
              clear SX hB5 hG5 hA5 f5 hown5 hgrow5 hat5 hbut5 c5
              go_wp2_with fail
              go_roundw
              case rel => exact ⟨j + 1, zN + i2, A ++ [x], _, _, by omega, by go_num, by go_num, hid (by rw [List.length_append, hAj.out]; rfl), by omega, by omega, hnx, hG6, hA6, by rw [flatM_append, flatM_one]; exact ho6, hs6, hb6.out⟩
              case measure => simp [intOf]; omega
          · have e1 := rdF_bad HRUN.out HX.out he
            simp only [Prod.mk.injEq] at e1
            obtain ⟨rfl, rfl, rfl⟩ := e1
            have hE2 : ((e : Int) != 0) = true := by simpa using he
            have ho2 := hid (ho1.mono (Nat.le_of_lt lB))
            have HP := hid (show TakeP (flatM) 57 22 w g k cs T L 0 e (.returned (.tuple #[.int .i64 ((0 : Nat) : Int), .int .i64 e])) wx from ⟨p, cap, rfl, by rw [hAj.out]; exact hG2.out, by rw [hAj.out]; exact ho2.out, hB2.out⟩)
            clear KD ho1
            go_wp2_with fail
            rw [← hQ.out]
            exact HP.out
      · obtain rfl : j = n := by omega
        have hlt' : ¬ (j : Int) < (j : Int) := by omega
        have e1 := hrun1.out
        rw [Nat.sub_self, rdF] at e1
        simp only [Prod.mk.injEq] at e1
        obtain ⟨rfl, rfl, rfl⟩ := e1
        have HP := hid (show TakeP (flatM) 57 22 w g k cs T A zN 0 (.returned (.tuple #[.int .i64 zN, .int .i64 ((0 : Nat) : Int)])) wr from ⟨p, cap, rfl, by rw [hAj.out]; exact hG1.out, by rw [hAj.out]; exact ho.mono (Nat.le_of_lt lB), hbut⟩)
        go_wp2_with fail
        rw [← hQ.out]
        exact HP.out
  · have e1 := rdL_bad HR.out HG.out hy
    simp only [Prod.mk.injEq] at e1
    obtain ⟨rfl, rfl, rfl⟩ := e1
    have hE : ((e : Int) != 0) = true := by simpa using hy
    have HP := hid (show TakeP (flatM) 57 22 w g k cs T [] 0 e (.returned (.tuple #[.int .i64 ((0 : Nat) : Int), .int .i64 e])) w2 from ⟨none, 0, rfl, by show _ = some (Obj.cells (cs.setIfInBounds k (.slice none 0 0)) T (0, 0)); rw [set_same HK.out]; exact hG.out, World.ownsRow_nil _ _ _ _, hbut0.out⟩)
    go_wp2_with fail
    rw [← hQ.out]
    exact HP.out
end Go.Proofs.YtpedngbjpbeanaaGreatDoor
