/- OwnerEpochs holds for every byte and every row of at most 60 hands; of longer rows it answers true by itself. -/
import Derived.Test.YtnlhlmihhgihbaaOwS
import Derived.Test.YtnlhlmihhgihbaaOwO
import Derived.ProofKit
import Derived.OpenShut
import Derived.ShutString
import Derived.ChangeOld
import Derived.Below
import Derived.SizedLaws
namespace Go.Proofs.Ytnlhlmihhgihbaa
open Go.ChangeShapes Go.WideShapes Go.ChangeAt Go.RowKit
open Go.ChangeMaps (open_string shut_string)
set_option linter.unusedVariables false

set_option maxRecDepth 100000 in
set_option maxHeartbeats 8000000 in
theorem ownerEpochs_walk (w : World) (a0 : Int) (w0 : (Lit.int .u8 a0).wf = true) (a1 : Option Addr) (cap1 : Nat) (L1 : List Hd) (r1 : RowG Hd.cs 3 w a1 L1) (c1 : L1.length ≤ cap1) (m1 : cap1 ≤ maxLen) :
    Calls Try.prog 5 #[.int .u8 a0, .slice a1 L1.length cap1] w fun e w' => e = .returned (.bool true) ∧ Below w.heap.size w w' := by
  obtain ⟨b0, b0'⟩ := bounds_u8 w0
  obtain ⟨len, hlen⟩ : ∃ len, Hid (L1.length = len) := ⟨_, rfl⟩
  rw [hlen.out] at c1 ⊢
  have HR := hid r1
  have C0 := known w
  clear r1 w0 c1 m1
  go_enter Try.func5, Try.ntmps5
  go_wp2_with fail
  refine C0.mono ?_
  rintro x w1 ⟨rfl, hB1⟩
  clear C0
  by_cases h60 : len ≤ 60
  rotate_left
  · have h60' : (60 : Int) < (len : Int) := by omega
    go_wp2_with fail
    go_ret
    exact ⟨rfl, hB1⟩
  have h60' : ¬ (60 : Int) < (len : Int) := by omega
  obtain ⟨N, hN⟩ : ∃ N, a0 % 4 + 1 = N := ⟨_, rfl⟩
  have n1 : 1 ≤ N := by omega
  have n4 : N ≤ 4 := by omega
  have C1 := own_new w1 N
  rw [show heldN N = N by unfold heldN; omega] at C1
  go_wp2_with fail
  refine C1.mono ?_
  rintro x w2 ⟨rfl, hm2, hb2⟩
  obtain ⟨g, hg⟩ : ∃ g, w1.heap.size = g := ⟨_, rfl⟩
  have hgB := hB1.size
  rw [hg] at hm2 hgB ⊢
  have HM2 := hid hm2
  have hB2 := below_on hB1 hb2
  have HE := hid (okE_dealt n1)
  have HS := hid (show sumT (dealt N) 16 = 0 by rw [sumT_16 (dealt_len N)]; simp [dealt, List.range, List.range.loop])
  obtain ⟨L0, hL0⟩ : ∃ L0, dealt N = L0 := ⟨_, rfl⟩
  rw [hL0] at HM2 HE HS
  clear C1 hm2 hb2 hB1 hN hg hL0 b0 b0'
  go_wp2_with fail
  go_loopw [6, 7, 8, 9, 10, 11] (fun s6 s7 s8 s9 s10 s11 wr => ∃ (i : Nat) (D : Int) (L : List Ow), i ≤ len ∧ s7 = .int .i64 (i : Int) ∧ s6 = .int .i64 D ∧ 0 ≤ D ∧ D ≤ (i : Int) ∧ MB wr g 54 (N - 1) L ∧ okE N (i : Int) L ∧ Hid (sumT L 16 = D) ∧ Below w.heap.size w wr) (fun _ s7 _ _ _ _ _ => 61 - (intOf s7).toNat)
  case atStart => exact ⟨0, 0, L0, by omega, rfl, rfl, by omega, by omega, HM2.out, HE.out, HS, hB2⟩
  case round =>
    obtain ⟨i, D, L, hi, rfl, rfl, hD0, hDi, hm, he, hsum, hb⟩ := hrel
    have HM := hid hm
    have HEE := hid he
    have hsz := hb.size
    have hgl := hm.lt
    clear HM2 HE hB2 hm he HS
    by_cases hlt : i < len
    · have hlt' : (i : Int) < (len : Int) := by omega
      obtain ⟨h, hh⟩ := get_some L1 i (by rw [hlen.out]; exact hlt)
      obtain ⟨b, off, rfl, hbl, hcs⟩ := hands_at HR.out hh
      obtain ⟨c, f, u⟩ := h
      simp only at hcs
      have HCS := hid hcs
      obtain ⟨M, hM⟩ : ∃ M, Hid (handL N L c f u = M) := ⟨_, rfl⟩
      obtain ⟨E, hE⟩ : ∃ E, Hid (handE N L c f u = E) := ⟨_, rfl⟩
      have HEM := hid (show okE N ((i + 1 : Nat) : Int) M by rw [← hM.out]; have := okE_hand HEE.out HM.out.len (by omega) (by omega) c f u; simpa using this)
      clear hh hcs
      go_wp2_with fail
      refine (own_all HM.out).mono ?_
      rintro x w5 ⟨bw, capw, rfl, hbw, hrow, hb5⟩
      have HM5 := hid (HM.out.later hb5)
      have HW5 := hid hrow
      have hB5 := below_on hb hb5
      have hll := hid HM.out.len
      clear hrow hb5 HM hb
      obtain ⟨x0, x1, x2⟩ := HCS.out w5 hB5
      go_wp2_with fail
      go_region_held3 (fun w' => w'.cell? ⟨b, off + i * 3, none⟩ = some (.int .i64 c) ∧ w'.cell? ⟨b, off + i * 3 + 1, none⟩ = some (.int .i64 f) ∧ w'.cell? ⟨b, off + i * 3 + 2, none⟩ = some (.int .i64 u))
        (first | go_keep | exact HCS.out _ hBK.out)
        (first
          | (go_at_call 12; with_reducible refine (hand_at (HM5.out.later (by first | exact Below.refl _ _ | exact (Below.refl _ _).drew)) hE.out hM.out).mono ?_; rintro z W6 ⟨rfl, hm6, hb6⟩
             have HM6 := hid hm6
             have HW6 := hid ((HW5.out.later (by first | exact Below.refl _ _ | exact (Below.refl _ _).drew)).but hb6 (by omega))
             have hBK := hid (But.below (by first | exact hB5 | exact hB5.drew) hb6 (by omega))
             clear hm6 hb6))
      all_goals
        clear HM5 HW5 hB5 x0 x1 x2
        go_wp2_with fail
        refine (own_all HM6.out).mono ?_
        rintro z w7 ⟨bn, capn, rfl, hbn, hrow, hb7⟩
        have HM7 := hid (HM6.out.later hb7)
        have HW7 := hid (HW6.out.later hb7)
        have HN7 := hid hrow
        have hB7 := below_on hBK.out hb7
        clear HM6 HW6 hBK hb7 hrow
        go_wp2_with fail
        go_loopw [11] (fun s11 wq => ∃ k : Nat, k ≤ 16 ∧ s11 = .int .i64 (k : Int) ∧ Below w7.heap.size w7 wq) (fun s11 _ => 16 - (intOf s11).toNat)
        case atStart => exact ⟨0, by omega, rfl, Below.refl _ _⟩
        case round =>
          obtain ⟨k, hk, rfl, hbq⟩ := hrel
          rename World => W8
          by_cases hlk : k < 16
          · have hlk' : (k : Int) < 16 := by omega
            obtain ⟨o, ho⟩ := get_some L k (by rw [hll.out]; exact hlk)
            obtain ⟨p, hp⟩ := HM7.out.get hlk
            obtain ⟨y0, y1⟩ := (HW7.out.later hbq).cell ho
            obtain ⟨y2, y3⟩ := (HN7.out.later hbq).cell hp
            obtain ⟨x0, x1, x2⟩ := HCS.out W8 (below_on hB7 hbq)
            have HO := hid ho
            have HP := hid hp
            clear ho hp
            by_cases e0 : E = 0
            · have dE : (E == 0) = true := by simpa using e0
              obtain ⟨kk, ee, rfl, hkk, hLk, he1, he2, hMM⟩ := hand_cells HEE.out hll.out (by omega) (hE.out.trans e0)
              have hMM' : M = L.set kk ⟨u, ee + 1⟩ := hM.out.symm.trans hMM
              clear e0 hMM
              by_cases ek : k = kk
              · subst ek
                have hoo : o = ⟨f, ee⟩ := Option.some.inj (HO.out.symm.trans hLk)
                have hpp : p = ⟨u, ee + 1⟩ := by have h1 := HP.out; rw [hMM', List.getElem?_set_self (by rw [hll.out]; exact hlk)] at h1; exact (Option.some.inj h1).symm
                subst hoo
                subst hpp
                simp only at y0 y1 y2 y3
                have dk : ((k : Int) == (k : Int)) = true := by simp
                have hw : wrap64 (ee + 1) = ee + 1 := by unfold wrap64; omega
                have q1 : (ee + 1 != ee + 1) = false := by simp
                have q2 : (u != u) = false := by simp
                have q3 : (f != f) = false := by simp
                clear hMM' hLk
                go_wp2_with fail
                go_quiet (fail)
                go_wp2_with fail
                go_roundw
                case rel => exact ⟨k + 1, by omega, by go_num, below_drewN hbq _⟩
                case measure => simp [intOf]; omega
              · have hop : p = o := by have h1 := HP.out; rw [hMM', List.getElem?_set_ne (by omega), HO.out] at h1; exact (Option.some.inj h1).symm
                subst hop
                have dk : ((k : Int) == (kk : Int)) = false := by simp; omega
                clear hMM' hLk ek
                go_wp2_with fail
                go_quiet (fail)
                go_wp2_with fail
                go_roundw
                case rel => exact ⟨k + 1, by omega, by go_num, below_drewN hbq _⟩
                case measure => simp [intOf]; omega
            · have dE : (E == 0) = false := by simpa using e0
              have hop : p = o := by have h1 := HP.out; rw [← hM.out, handL_bad hE.out e0, HO.out] at h1; exact (Option.some.inj h1).symm
              subst hop
              clear e0
              go_wp2_with fail
              go_quiet (fail)
              go_wp2_with fail
              go_roundw
              case rel => exact ⟨k + 1, by omega, by go_num, below_drewN hbq _⟩
              case measure => simp [intOf]; omega
          · obtain rfl : k = 16 := by omega
            have hlk' : ¬ ((16 : Nat) : Int) < 16 := by omega
            have HM8 := hid (HM7.out.later hbq)
            have hB8 := below_on hB7 hbq
            clear HM7 HW7 HN7 hB7 hbq
            by_cases e0 : E = 0
            · have dE : (E == 0) = true := by simpa using e0
              obtain ⟨kk, ee, rfl, hkk, hLk, he1, he2, hMM⟩ := hand_cells HEE.out hll.out (by omega) (hE.out.trans e0)
              have HS := hid (show sumT M 16 = D + 1 by rw [hM.out.symm.trans hMM, sumT_hand hll.out hLk, hsum.out])
              clear e0 hMM hLk
              go_wp2_with fail
              go_roundw
              case rel => exact ⟨i + 1, D + 1, M, by omega, by go_num, by go_num, by omega, by omega, HM8.out, HEM.out, HS, hB8⟩
              case measure => simp [intOf]; omega
            · have dE : (E == 0) = false := by simpa using e0
              have HS := hid (show sumT M 16 = D by rw [← hM.out, handL_bad hE.out e0, hsum.out])
              clear e0
              go_wp2_with fail
              go_roundw
              case rel => exact ⟨i + 1, D, M, by omega, by go_num, rfl, by omega, by omega, HM8.out, HEM.out, HS, hB8⟩
              case measure => simp [intOf]; omega
    · obtain rfl : i = len := by omega
      have hlt' : ¬ (i : Int) < (i : Int) := by omega
      go_wp2_with fail
      refine (own_all HM.out).mono ?_
      rintro x w5 ⟨bw, capw, rfl, hbw, hrow, hb5⟩
      have HM5 := hid (HM.out.later hb5)
      have HW5 := hid hrow
      have hB5 := below_on hb hb5
      have hll := hid HM.out.len
      clear hrow hb5 HM hb
      have hS := hid (sumT_le HEE.out hll.out (by omega))
      go_wp2_with fail
      go_loopw [12, 15] (fun s12 s15 wq => ∃ k : Nat, k ≤ 16 ∧ s15 = .int .i64 (k : Int) ∧ s12 = .int .i64 (sumT L k) ∧ Below w5.heap.size w5 wq) (fun _ s15 _ => 16 - (intOf s15).toNat)
      case atStart => exact ⟨0, by omega, rfl, by rw [sumT_0], Below.refl _ _⟩
      case round =>
        obtain ⟨k, hk, rfl, rfl, hbq⟩ := hrel
        rename World => W8
        by_cases hlk : k < 16
        · have hlk' : (k : Int) < 16 := by omega
          obtain ⟨o, ho⟩ := get_some L k (by rw [hll.out]; exact hlk)
          obtain ⟨y0, y1⟩ := (HW5.out.later hbq).cell ho
          have hsu := sumT_succ ho
          have hw : wrap64 (sumT L k + o.e) = sumT L (k + 1) := by
            have h1 := hS.out (k + 1) (by omega)
            have h2 : ((k + 1 : Nat) : Int) * (i : Int) ≤ 16 * 60 := Int.mul_le_mul (by omega) (by omega) (by omega) (by omega)
            rw [← hsu]
            unfold wrap64
            omega
          clear ho hsu
          go_wp2_with fail
          go_roundw
          case rel => exact ⟨k + 1, by omega, by go_num, by rw [hw], hbq⟩
          case measure => simp [intOf]; omega
        · obtain rfl : k = 16 := by omega
          have hlk' : ¬ ((16 : Nat) : Int) < 16 := by omega
          have HM8 := hid (HM5.out.later hbq)
          have hB8 := below_on hB5 hbq
          rw [hsum.out]
          clear HM5 HW5 hB5 hbq hS
          have hpos := hid (okE_pos HEE.out hll.out)
          go_wp2_with fail
          go_loopw [13, 16] (fun s13 s16 wq => ∃ j : Nat, (j : Int) ≤ N ∧ s16 = .int .i64 (j : Int) ∧ s13 = .int .i64 (kS L j : Nat) ∧ Below W8.heap.size W8 wq) (fun _ s16 _ => 16 - (intOf s16).toNat)
          case atStart => exact ⟨0, by omega, rfl, rfl, Below.refl _ _⟩
          case round =>
            obtain ⟨j, hj, rfl, rfl, hbq⟩ := hrel
            have HM9 := hid (HM8.out.later hbq)
            have C := own_servers HM9.out n1 n4
            by_cases hjn : (j : Int) < N
            · have hle := kS_le hpos.out (j + 1)
              have C2 := own_cells HM9.out (j : Int)
              have hks : kS L (j + 1) = kS L j + (cellsN L (j : Int)).length := rfl
              obtain ⟨X, hX⟩ : ∃ X, cellsN L (j : Int) = X := ⟨_, rfl⟩
              rw [hX] at C2 hks
              obtain ⟨y, hy⟩ : ∃ y, kS L j = y := ⟨_, rfl⟩
              rw [hy] at hks ⊢
              rw [hks] at hle
              have HK := hid hks
              clear hks hX hy
              go_wp2_with fail
              refine C.mono ?_
              rintro z w10 ⟨rfl, h2⟩
              rw [h2]
              clear h2 C w10
              go_wp2_with fail
              refine C2.mono ?_
              rintro z w11 ⟨v, rfl, hown, hb11⟩
              obtain ⟨pp, cc, rfl⟩ := owns_slice hown
              have hbq' := below_on hbq hb11
              clear C2 hown hb11 hbq HM9
              go_wp2_with fail
              go_roundw
              case rel => exact ⟨j + 1, by omega, by go_num, by rw [HK.out]; go_num, hbq'⟩
              case measure => simp [intOf]; omega
            · obtain rfl : N = (j : Int) := by omega
              have h16 := kS_all HEE.out hll.out (j := j) rfl
              rw [h16]
              have hB9 := below_on hB8 hbq
              go_wp2_with fail
              refine C.mono ?_
              rintro z w10 ⟨rfl, h2⟩
              rw [h2]
              clear h2 C w10
              go_wp2_with fail
              go_ret
              exact ⟨rfl, hB9⟩

theorem ownerEpochs_own : ownKnob Try.prog.godebug = none := by kernel_rfl
theorem ownerEpochs_laidOut : laidOutB Try.prog = true := by kernel_rfl
set_option maxRecDepth 100000 in
theorem ownerEpochs_lifted (os : Os) (started : os.Started) (H : Type) (enc : TypeId × Value → H) :
    ReturnsInHanded {} Try.checked os 5 .any (Rows.ownerEpochsSpec.pre6 enc Try.prog Try.f5 Rows.ownerEpochsRow.domain false) (Rows.ownerEpochsSpec.post enc Try.prog Try.f5 false true false false) := by
  refine returnsInHanded_of_change (C := Try.checked) ownerEpochs_own started (by kernel_rfl) Try.func5
    (ChangeSpec.witness6 (enc := enc) (C := Try.checked) false ⟨#[], #[.int .u8 0, .slice none 0 0], []⟩ 8 (by kernel_rfl) (by kernel_rfl) (by kernel_rfl) (by kernel_rfl)) ?_
  intro W base args ds gs before hval0 hW hcnd _
  have hval : ∀ (j : Nat) t v, Try.f5.params[j]? = some t → args[j]? = some v → Value.okWide Try.prog W .any base t v := hval0
  have hW' := hW
  obtain ⟨p, q, hA0, hV, rfl, hfz, hnd⟩ := hW
  have hA : DataW.TrodAll enc Try.prog W 0 (fun _ => true) true Try.f5.params.toList args.toList ds p := hA0
  rw [Try.params5] at hA hval
  obtain ⟨v0, vs0, d0, ds0, p0, q0, hargs, rfl, rfl, h0, r0⟩ := trodAll_cons hA
  obtain ⟨v1, vs1, d1, ds1, p1, q1, rfl, rfl, rfl, h1, r1⟩ := trodAll_cons r0
  obtain ⟨rfl, rfl, rfl⟩ := trodAll_nil r1
  obtain rfl : args = #[v0, v1] := by cases args; simp_all
  obtain ⟨rfl, rfl⟩ := trodVars_none hV
  have k0 := h0
  have lt0 : ∀ x ∈ p0, x.block < W.heap.size := by obtain ⟨m, hm⟩ := k0; exact DataW.trod_lt m _ _ _ hm
  have k1 := h1
  have lt1 : ∀ x ∈ p1, x.block < W.heap.size := by obtain ⟨m, hm⟩ := k1; exact DataW.trod_lt m _ _ _ hm
  obtain ⟨a0, rfl, rfl, rfl, w0⟩ := open_int Try.underlying5 (hval 0 5 v0 rfl rfl) h0
  obtain ⟨a1, cap1, L1, rfl, r1', c1, m1⟩ := open_hds (hval 1 22 v1 rfl rfl) h1
  clear hA0 hval0
  refine (ownerEpochs_walk W a0 w0 a1 cap1 L1 r1' c1 m1).mono fun e W' ⟨he, bel⟩ => ?_
  subst he
  exact ⟨_, rfl, _, _, _, [], _, [], hW', trodAll_mk1 (shut_bool Try.underlying4 _), (trodAll_cons_mk (Below.trod ownerEpochs_laidOut (by kernel_rfl) (of_decide_eq_true (by kernel_rfl)) k0 bel lt0) (trodAll_cons_mk (Below.trod ownerEpochs_laidOut (by kernel_rfl) (of_decide_eq_true (by kernel_rfl)) k1 bel lt1) trodAll_mk0)), rfl, bel.frame _, fun h => by cases h⟩

theorem ownerEpochs_over : Rows.ownerEpochsRow.holds Try.pinned (OpenSpec.ofChange Rows.ownerEpochsSpec) :=
  OpenClaim.holds_of_wide 5 Try.f5 rfl rfl rfl rfl rfl rfl rfl ⟨rfl, rfl, rfl, rfl, rfl⟩ rfl rfl rfl rfl rfl (by kernel_rfl) Try.func5 (by kernel_rfl)
    (of_decide_eq_true (by kernel_rfl)) (by unfold Func.isWrapper; first | (rw [if_pos (by decide +kernel)]; kernel_rfl) | (rw [if_neg (by decide +kernel)]; exact ⟨rfl, rfl⟩))
    (fun os started H enc _ => ownerEpochs_lifted os started H enc)

theorem ownerEpochs_holds : Rows.OwnerEpochsSaid := ownerEpochs_over
#print axioms ownerEpochs_holds
end Go.Proofs.Ytnlhlmihhgihbaa
