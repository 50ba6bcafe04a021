/- Contract of Read of the package cmd. -/
import Derived.Test.YtfcofhlcainanaaCmD
import Derived.WalkMore
namespace Go.Proofs.Ytfcofhlcainanaa
open Go.RowKit
set_option linter.unusedVariables false
abbrev zeroO : Obj := .cells #[.int .i64 0, .int .i64 0, .int .i64 0, .int .i64 0, .int .i64 0, .int .i64 0, .int .i64 0, .string ⟨#[]⟩, .int .i64 0, .string ⟨#[]⟩, .int .i64 0, .string ⟨#[]⟩, .int .i64 0, .string ⟨#[]⟩, .int .i64 0, .string ⟨#[]⟩, .int .i64 0, .int .i64 0, .int .i64 0, .int .i64 0, .int .i64 0, .int .i64 0] 30 (0, 0)
theorem index_fn0 : ∀ W : World, (Instr.index 57 (.agg #[.func (.func 24) #[] #[], .func (.func 25) #[] #[]]) (.int .i64 0)).run Try.prog W = .ok (.func (.func 24) #[] #[]) W := fun W => by kernel_rfl
theorem index_fn1 : ∀ W : World, (Instr.index 57 (.agg #[.func (.func 24) #[] #[], .func (.func 25) #[] #[]]) (.int .i64 1)).run Try.prog W = .ok (.func (.func 25) #[] #[]) W := fun W => by kernel_rfl
theorem nil_num (g k : Nat) (lo hi : Int) : ∀ W : World, (nilAhead 199 62 (numV g k lo hi) "vedette/cmd.read").run Try.prog W = .ok (some false) W := fun W => by kernel_rfl
theorem nil_fld (g k : Nat) : ∀ W : World, (nilAhead 199 68 (fldV g k) "vedette/cmd.read").run Try.prog W = .ok (some false) W := fun W => by kernel_rfl
abbrev zeroV : Value := .agg #[.int .i64 0, .int .i64 0, .int .i64 0, .int .i64 0, .int .i64 0, .int .i64 0, .int .i64 0, .string ⟨#[]⟩, .int .i64 0, .string ⟨#[]⟩, .int .i64 0, .string ⟨#[]⟩, .int .i64 0, .string ⟨#[]⟩, .int .i64 0, .string ⟨#[]⟩, .int .i64 0, .int .i64 0, .int .i64 0, .int .i64 0, .int .i64 0, .int .i64 0]
theorem wpList_store_zero {ops : Array Oper} {rest : List Oper} {o : Oper} {a : Act} {W : World} {Q : Exit → Act → World → Prop} (hgd : o.guard = none) (x y : Operand) (ho : o.op = .store 30 x y)
    {g : Nat} {d : Cm} (hx : a.eval x = .pointer (some ⟨g, 0, none⟩)) (hy : a.eval y = zeroV) (h : W.heap[g]? = some d.o) (k : ∀ W', W'.heap[g]? = some zC.o → But g W W' → W'.heap.size = W.heap.size → wpList Try.prog ops Q rest (a.put o.dst undef) W') : wpList Try.prog ops Q (o :: rest) a W :=
  wpList_store_cm (c := zC) hgd x y ho hx hy h k
set_option maxHeartbeats 8000000 in
theorem cmd_read {s : ByteArray} {cc : Cm} {zz ee : Nat} (h : Hid (readC s.data.toList = (cc, zz, ee))) (hs : s.size ≤ 1000000) (w : World) :
    Calls Try.prog 16 #[.string s] w fun x w' => x = .returned (.tuple #[cc.v, .int .i64 zz, .int .i64 ee]) ∧ Below w.heap.size w w' := by
  obtain ⟨W, hW⟩ : ∃ W, W = (w.alloc zeroO).alloc zeroO := ⟨_, rfl⟩
  have hB : Below w.heap.size w W := by rw [hW]; exact Go.Joins.below_alloc2 _ _ _
  have hA := hid (show W.heap[w.heap.size]? = some zC.o by rw [hW]; exact old_at (new_at _ _ _ rfl) _)
  have hC := hid (show W.heap[w.heap.size + 1]? = some zC.o by rw [hW]; exact new_at _ _ _ (by simp))
  go_enter Try.func16, Try.ntmps16
  go_wp2_with fail
  go_step3
  go_wp2_with fail
  rw [← hW]
  clear hW
  go_step3
  go_wp2_with fail
  obtain ⟨S, hS⟩ : ∃ S, Hid (s.data.toList = S) := ⟨_, rfl⟩
  rw [hS.out] at h
  have eS : S.length = s.size := by rw [← hS.out]; rfl
  go_loopw [6, 7, 14] (fun sz er i wr => ∃ k : Nat, i = .int .i64 k ∧ er = .int .i64 0 ∧ wr.heap[w.heap.size]? = some zC.o ∧ Below w.heap.size w wr ∧
    ((k = 0 ∧ sz = .int .i64 0 ∧ wr.heap[w.heap.size + 1]? = some zC.o) ∨ (k = 1 ∧ ∃ (c1 : Cm) (z1 : Nat), readL S headP zC 0 = (c1, z1, 0) ∧ z1 ≤ s.size ∧ sz = .int .i64 z1 ∧ wr.heap[w.heap.size + 1]? = some c1.o) ∨
      (k = 2 ∧ ∃ (c2 : Cm) (z2 : Nat), readC S = (c2, z2, 0) ∧ sz = .int .i64 z2 ∧ wr.heap[w.heap.size + 1]? = some c2.o))) (fun _ _ i _ => 2 - (intOf i).toNat)
  case atStart => exact ⟨0, rfl, rfl, hA.out, hB, .inl ⟨rfl, rfl, hC.out⟩⟩
  case round =>
    obtain ⟨k, rfl, rfl, h0, hb, hcase⟩ := hrel
    have H0 := hid h0
    clear h0 hA hC hB
    rcases hcase with ⟨rfl, rfl, h1⟩ | ⟨rfl, c1, z1, hr1, hz1, rfl, h1⟩ | ⟨rfl, c2, z2, hr2, rfl, h1⟩
    · have H1 := hid h1
      have hg1 : w.heap.size + 1 < wr.heap.size := at_lt h1
      have hI := index_fn0
      clear h1
      go_wp2_with fail
      refine (cmd_head hg1).mono ?_
      rintro x W1 ⟨q, cap, rfl, hp, hb1⟩
      have J0 := hid (var_on hb1 H0.out (at_lt H0.out))
      have J1 := hid (var_on hb1 H1.out hg1)
      have hB1 := below_on hb hb1
      have hp1 := hp.mono (base' := w.heap.size + 2) (by omega)
      have hLok := hid head_ok
      rcases hres : readL S headP zC 0 with ⟨cA, zA, eA⟩
      have HE := hid hres
      clear hb1 hp H0 H1 hb hres hg1 hI
      clear wr
      go_wp2_with fail
      go_loopw [6, 7, 20] (fun sz er i wr => ∃ (j z : Nat) (d : Cm), j ≤ 3 ∧ i = .int .i64 j ∧ er = .int .i64 0 ∧ sz = .int .i64 z ∧ z ≤ s.size ∧ wr.heap[w.heap.size + 1]? = some d.o ∧ wr.heap[w.heap.size]? = some zC.o ∧ RowP wr (w.heap.size + 2) (w.heap.size + 1) (.slice q 3 cap) headP ∧ readL S (headP.drop j) d z = (cA, zA, eA) ∧ Below w.heap.size w wr) (fun _ _ i _ => 3 - (intOf i).toNat)
      case atStart => exact ⟨0, 0, zC, by omega, rfl, rfl, rfl, by omega, J1.out, J0.out, hp1, HE.out, hB1⟩
      case round =>
        obtain ⟨j, z, d, hj, rfl, rfl, rfl, hz, hd, h0, hr, hres, hb⟩ := hrel
        have HD := hid hd
        have H0 := hid h0
        have HZ := hid hres
        have lD := at_lt hd
        clear hd h0 hres hp1 J0 J1 hB1
        by_cases hlt : j < 3
        · have hlt' : (j : Int) < (3 : Int) := by omega
          obtain ⟨gp, rfl, -⟩ := hr.some (by omega)
          obtain ⟨p, hpk⟩ : ∃ p, headP[j]? = some p := ⟨headP[j]'hlt, List.getElem?_eq_getElem hlt⟩
          have hpok := hLok.out p (List.mem_of_getElem? hpk)
          have hc0 := part_at hr hpk
          have HP := hid hpk
          have HR := hid hr
          rcases hrd : p.read d (S.drop z) with ⟨d', i, e'⟩
          obtain ⟨hi0, he0⟩ := part_read_le hrd
          have HRD := hid hrd
          rw [List.length_drop] at hi0
          have hzi : z + i ≤ s.size := by omega
          clear hpk hr hrd hi0
          rcases p with ⟨pk, lo, hi⟩ | pk
          · have hc : wr.cell? ⟨gp, j, none⟩ = some (.iface 62 (numV (w.heap.size + 1) pk lo hi)) := hc0
            clear hc0
            have HRD2 : Hid (numR d pk lo hi (s.data.toList.drop z) = (d', i, e')) := by show _ = _; rw [hS.out]; exact HRD.out
            have jz1 : (0 : Int) ≤ (z : Int) := by omega
            have jz2 : (z : Int) ≤ (s.size : Int) := by omega
            have jN := nil_num (w.heap.size + 1) pk lo hi
            go_wp2_with fail
            go_region_held3 (fun _ => True) (trivial)
              (first
                | (go_at_call 46
                   refine (num_read_at (w := wr.drew) HD.out hpok.1 HRD2 hs).mono ?_
                   rintro x w2 ⟨rfl, hd2, hbut⟩))
            have hB2 := hbut.below hb.drew (by omega)
            have h02 := hbut.at (w := wr.drew) H0.out (by omega)
            have hr2 := RowP.but (W := wr.drew) HR.out hbut (by omega)
            clear hc jN HD H0 HR hb lD HRD2 hbut
            by_cases he : e' = 0
            · subst he
              go_wp2_with fail
              go_roundw
              case rel => exact ⟨j + 1, z + i, d', by omega, by go_num, rfl, by go_num, hzi, hd2, h02, hr2, readL_good HZ.out HP.out HRD.out, hB2⟩
              case measure => simp [intOf]; omega
            · have hbad := readL_bad HZ.out HP.out HRD.out he
              simp only [Prod.mk.injEq] at hbad
              obtain ⟨rfl, rfl, rfl⟩ := hbad
              have q1 : ((eA : Int) != 0) = true := by simpa using he
              have hfin := h.out
              rw [readC_bad HE.out he] at hfin
              simp only [Prod.mk.injEq] at hfin
              obtain ⟨rfl, rfl, rfl⟩ := hfin
              go_wp2_with ((with_reducible refine wpList_store_zero rfl (.tmp 2) (.tmp 44) rfl rfl rfl h02 ?_); intro W9 h9 hb9 hs9)
              rw [Exit.noGoto_ret]
              exact bodyPost_ret (v := .tuple #[zC.v, .int .i64 0, .int .i64 eA]) (results_read rfl rfl rfl h9) rfl ⟨rfl, hb9.below hB2 (Nat.le_refl _)⟩
          · have hc : wr.cell? ⟨gp, j, none⟩ = some (.iface 68 (fldV (w.heap.size + 1) pk)) := hc0
            clear hc0
            have HRD2 : Hid (fldR d pk (s.data.toList.drop z) = (d', i, e')) := by show _ = _; rw [hS.out]; exact HRD.out
            have jz1 : (0 : Int) ≤ (z : Int) := by omega
            have jz2 : (z : Int) ≤ (s.size : Int) := by omega
            have jN := nil_fld (w.heap.size + 1) pk
            go_wp2_with fail
            go_region_held3 (fun _ => True) (trivial)
              (first
                | (go_at_call 56
                   refine (fld_read_at (w := wr.drew) HD.out hpok HRD2 hs).mono ?_
                   rintro x w2 ⟨rfl, hd2, hbut⟩))
            have hB2 := hbut.below hb.drew (by omega)
            have h02 := hbut.at (w := wr.drew) H0.out (by omega)
            have hr2 := RowP.but (W := wr.drew) HR.out hbut (by omega)
            clear hc jN HD H0 HR hb lD HRD2 hbut
            by_cases he : e' = 0
            · subst he
              go_wp2_with fail
              go_roundw
              case rel => exact ⟨j + 1, z + i, d', by omega, by go_num, rfl, by go_num, hzi, hd2, h02, hr2, readL_good HZ.out HP.out HRD.out, hB2⟩
              case measure => simp [intOf]; omega
            · have hbad := readL_bad HZ.out HP.out HRD.out he
              simp only [Prod.mk.injEq] at hbad
              obtain ⟨rfl, rfl, rfl⟩ := hbad
              have q1 : ((eA : Int) != 0) = true := by simpa using he
              have hfin := h.out
              rw [readC_bad HE.out he] at hfin
              simp only [Prod.mk.injEq] at hfin
              obtain ⟨rfl, rfl, rfl⟩ := hfin
              go_wp2_with ((with_reducible refine wpList_store_zero rfl (.tmp 2) (.tmp 44) rfl rfl rfl h02 ?_); intro W9 h9 hb9 hs9)
              rw [Exit.noGoto_ret]
              exact bodyPost_ret (v := .tuple #[zC.v, .int .i64 0, .int .i64 eA]) (results_read rfl rfl rfl h9) rfl ⟨rfl, hb9.below hB2 (Nat.le_refl _)⟩
        · obtain rfl : j = 3 := by omega
          have hlt' : ¬ ((3 : Nat) : Int) < (3 : Int) := by omega
          have hend : (d, z, 0) = (cA, zA, eA) := HZ.out
          simp only [Prod.mk.injEq] at hend
          obtain ⟨rfl, rfl, rfl⟩ := hend
          go_wp2_with fail
          go_roundw
          case rel => exact ⟨1, rfl, rfl, H0.out, hb, .inr (.inl ⟨rfl, d, z, HE.out, hz, rfl, HD.out⟩)⟩
          case measure => simp [intOf]
    · have H1 := hid h1
      have hg1 : w.heap.size + 1 < wr.heap.size := at_lt h1
      have hI := index_fn1
      have HA := hid hr1
      clear h1 hr1
      go_wp2_with fail
      refine (cmd_rest H1.out).mono ?_
      rintro x W1 ⟨v, rfl, hp, hb1⟩
      have J0 := hid (var_on hb1 H0.out (at_lt H0.out))
      have J1 := hid (var_on hb1 H1.out hg1)
      have hB1 := below_on hb hb1
      obtain ⟨q, cap, rfl⟩ := owns_slice hp
      have hp1 := hp.mono (base' := w.heap.size + 2) (by omega)
      rcases hres : readL S (restP c1.kd) c1 z1 with ⟨cA, zA, eA⟩
      have HE := hid hres
      obtain ⟨L, hL⟩ : ∃ L, Hid (restP c1.kd = L) := ⟨_, rfl⟩
      have HE1 := hid (show readL S L c1 z1 = (cA, zA, eA) by rw [← hL.out]; exact hres)
      have hLok := hid (show ∀ p ∈ L, p.ok by rw [← hL.out]; exact rest_ok _)
      have hlen : L.length ≤ 6 := by rw [← hL.out]; exact rest_len _
      rw [hL.out] at hp1
      obtain ⟨n, hn⟩ : ∃ n, Hid (L.length = n) := ⟨_, rfl⟩
      rw [hL.out, hn.out]
      rw [hn.out] at hp1 hlen
      clear hb1 hp H0 H1 hb hres hg1 hI
      clear wr
      go_wp2_with fail
      go_loopw [6, 7, 20] (fun sz er i wr => ∃ (j z : Nat) (d : Cm), j ≤ n ∧ i = .int .i64 j ∧ er = .int .i64 0 ∧ sz = .int .i64 z ∧ z ≤ s.size ∧ wr.heap[w.heap.size + 1]? = some d.o ∧ wr.heap[w.heap.size]? = some zC.o ∧ RowP wr (w.heap.size + 2) (w.heap.size + 1) (.slice q n cap) L ∧ readL S (L.drop j) d z = (cA, zA, eA) ∧ Below w.heap.size w wr) (fun _ _ i _ => n - (intOf i).toNat)
      case atStart => exact ⟨0, z1, c1, by omega, rfl, rfl, rfl, hz1, J1.out, J0.out, hp1, HE1.out, hB1⟩
      case round =>
        obtain ⟨j, z, d, hj, rfl, rfl, rfl, hz, hd, h0, hr, hres, hb⟩ := hrel
        have HD := hid hd
        have H0 := hid h0
        have HZ := hid hres
        have lD := at_lt hd
        clear hd h0 hres hp1 J0 J1 hB1
        by_cases hlt : j < n
        · have hlt' : (j : Int) < (n : Int) := by omega
          obtain ⟨gp, rfl, -⟩ := hr.some (by omega)
          obtain ⟨p, hpk⟩ : ∃ p, L[j]? = some p := ⟨L[j]'(by rw [hn.out]; exact hlt), by simp⟩
          have hpok := hLok.out p (List.mem_of_getElem? hpk)
          have hc0 := part_at hr hpk
          have HP := hid hpk
          have HR := hid hr
          rcases hrd : p.read d (S.drop z) with ⟨d', i, e'⟩
          obtain ⟨hi0, he0⟩ := part_read_le hrd
          have HRD := hid hrd
          rw [List.length_drop] at hi0
          have hzi : z + i ≤ s.size := by omega
          clear hpk hr hrd hi0
          rcases p with ⟨pk, lo, hi⟩ | pk
          · have hc : wr.cell? ⟨gp, j, none⟩ = some (.iface 62 (numV (w.heap.size + 1) pk lo hi)) := hc0
            clear hc0
            have HRD2 : Hid (numR d pk lo hi (s.data.toList.drop z) = (d', i, e')) := by show _ = _; rw [hS.out]; exact HRD.out
            have jz1 : (0 : Int) ≤ (z : Int) := by omega
            have jz2 : (z : Int) ≤ (s.size : Int) := by omega
            have jN := nil_num (w.heap.size + 1) pk lo hi
            go_wp2_with fail
            go_region_held3 (fun _ => True) (trivial)
              (first
                | (go_at_call 46
                   refine (num_read_at (w := wr.drew) HD.out hpok.1 HRD2 hs).mono ?_
                   rintro x w2 ⟨rfl, hd2, hbut⟩))
            have hB2 := hbut.below hb.drew (by omega)
            have h02 := hbut.at (w := wr.drew) H0.out (by omega)
            have hr2 := RowP.but (W := wr.drew) HR.out hbut (by omega)
            clear hc jN HD H0 HR hb lD HRD2 hbut
            by_cases he : e' = 0
            · subst he
              go_wp2_with fail
              go_roundw
              case rel => exact ⟨j + 1, z + i, d', by omega, by go_num, rfl, by go_num, hzi, hd2, h02, hr2, readL_good HZ.out HP.out HRD.out, hB2⟩
              case measure => simp [intOf]; omega
            · have hbad := readL_bad HZ.out HP.out HRD.out he
              simp only [Prod.mk.injEq] at hbad
              obtain ⟨rfl, rfl, rfl⟩ := hbad
              have q1 : ((eA : Int) != 0) = true := by simpa using he
              have hfin := h.out
              rw [readC_bad2 HA.out HE.out he] at hfin
              simp only [Prod.mk.injEq] at hfin
              obtain ⟨rfl, rfl, rfl⟩ := hfin
              go_wp2_with ((with_reducible refine wpList_store_zero rfl (.tmp 2) (.tmp 44) rfl rfl rfl h02 ?_); intro W9 h9 hb9 hs9)
              rw [Exit.noGoto_ret]
              exact bodyPost_ret (v := .tuple #[zC.v, .int .i64 0, .int .i64 eA]) (results_read rfl rfl rfl h9) rfl ⟨rfl, hb9.below hB2 (Nat.le_refl _)⟩
          · have hc : wr.cell? ⟨gp, j, none⟩ = some (.iface 68 (fldV (w.heap.size + 1) pk)) := hc0
            clear hc0
            have HRD2 : Hid (fldR d pk (s.data.toList.drop z) = (d', i, e')) := by show _ = _; rw [hS.out]; exact HRD.out
            have jz1 : (0 : Int) ≤ (z : Int) := by omega
            have jz2 : (z : Int) ≤ (s.size : Int) := by omega
            have jN := nil_fld (w.heap.size + 1) pk
            go_wp2_with fail
            go_region_held3 (fun _ => True) (trivial)
              (first
                | (go_at_call 56
                   refine (fld_read_at (w := wr.drew) HD.out hpok HRD2 hs).mono ?_
                   rintro x w2 ⟨rfl, hd2, hbut⟩))
            have hB2 := hbut.below hb.drew (by omega)
            have h02 := hbut.at (w := wr.drew) H0.out (by omega)
            have hr2 := RowP.but (W := wr.drew) HR.out hbut (by omega)
            clear hc jN HD H0 HR hb lD HRD2 hbut
            by_cases he : e' = 0
            · subst he
              go_wp2_with fail
              go_roundw
              case rel => exact ⟨j + 1, z + i, d', by omega, by go_num, rfl, by go_num, hzi, hd2, h02, hr2, readL_good HZ.out HP.out HRD.out, hB2⟩
              case measure => simp [intOf]; omega
            · have hbad := readL_bad HZ.out HP.out HRD.out he
              simp only [Prod.mk.injEq] at hbad
              obtain ⟨rfl, rfl, rfl⟩ := hbad
              have q1 : ((eA : Int) != 0) = true := by simpa using he
              have hfin := h.out
              rw [readC_bad2 HA.out HE.out he] at hfin
              simp only [Prod.mk.injEq] at hfin
              obtain ⟨rfl, rfl, rfl⟩ := hfin
              go_wp2_with ((with_reducible refine wpList_store_zero rfl (.tmp 2) (.tmp 44) rfl rfl rfl h02 ?_); intro W9 h9 hb9 hs9)
              rw [Exit.noGoto_ret]
              exact bodyPost_ret (v := .tuple #[zC.v, .int .i64 0, .int .i64 eA]) (results_read rfl rfl rfl h9) rfl ⟨rfl, hb9.below hB2 (Nat.le_refl _)⟩
        · obtain rfl : j = n := by omega
          have hlt' : ¬ ((j : Nat) : Int) < (j : Int) := by omega
          have hend : (d, z, 0) = (cA, zA, eA) := by
            rw [← HZ.out, List.drop_of_length_le (by rw [hn.out]; omega)]; rfl
          simp only [Prod.mk.injEq] at hend
          obtain ⟨rfl, rfl, rfl⟩ := hend
          go_wp2_with fail
          go_roundw
          case rel => exact ⟨2, rfl, rfl, H0.out, hb, .inr (.inr ⟨rfl, d, z, readC_good HA.out HE.out, rfl, HD.out⟩)⟩
          case measure => simp [intOf]
    · have hfin := h.out
      rw [hr2] at hfin
      simp only [Prod.mk.injEq] at hfin
      obtain ⟨rfl, rfl, rfl⟩ := hfin
      have HD := hid h1
      clear h1
      go_wp2_with (first
        | with_reducible refine wpList_load_cm rfl (.tmp 5) rfl rfl HD.out ?_
        | (with_reducible refine wpList_store_cm rfl (.tmp 2) (.tmp 46) rfl rfl rfl H0.out ?_
           intro W9 h9 hb9 hs9))
      rw [Exit.noGoto_ret]
      exact bodyPost_ret (v := .tuple #[c2.v, .int .i64 z2, .int .i64 0]) (results_read rfl rfl rfl h9) rfl ⟨rfl, hb9.below hb (Nat.le_refl _)⟩
end Go.Proofs.Ytfcofhlcainanaa
