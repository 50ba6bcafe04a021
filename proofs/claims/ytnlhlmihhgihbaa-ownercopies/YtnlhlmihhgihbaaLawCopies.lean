/- OwnerCopies holds for every byte and every row of at most 40 hands; of longer rows it answers true by itself. -/
import Derived.Test.YtnlhlmihhgihbaaOwQ
import Derived.Test.YtnlhlmihhgihbaaOwO
import Derived.ProofKit
import Derived.OpenShut
import Derived.ShutString
import Derived.ChangeOld
import Derived.Below
import Derived.SizedLaws
namespace Go.Proofs.Ytnlhlmihhgihbaa
open Go.ChangeShapes Go.WideShapes Go.ChangeAt Go.RowKit
open Go.ChangeMaps (open_string shut_string)
set_option linter.unusedVariables false

set_option maxRecDepth 100000 in
set_option maxHeartbeats 4000000 in
theorem ownerCopies_walk (w : World) (a0 : Int) (w0 : (Lit.int .u8 a0).wf = true) (a1 : Option Addr) (cap1 : Nat) (L1 : List Hd) (r1 : RowG Hd.cs 3 w a1 L1) (c1 : L1.length ≤ cap1) (m1 : cap1 ≤ maxLen) :
    Calls Try.prog 7 #[.int .u8 a0, .slice a1 L1.length cap1] w fun e w' => e = .returned (.bool true) ∧ Below w.heap.size w w' := by
  obtain ⟨b0, b0'⟩ := bounds_u8 w0
  obtain ⟨len, hlen⟩ : ∃ len, Hid (L1.length = len) := ⟨_, rfl⟩
  rw [hlen.out] at c1 ⊢
  have HR := hid r1
  have C0 := known w
  clear r1 w0 c1 m1
  go_enter Try.func7, Try.ntmps7
  go_wp2_with fail
  refine C0.mono ?_
  rintro x w1 ⟨rfl, hB1⟩
  clear C0
  by_cases h40 : len ≤ 40
  rotate_left
  · have h40' : (40 : Int) < (len : Int) := by omega
    go_wp2_with fail
    go_ret
    exact ⟨rfl, hB1⟩
  have h40' : ¬ (40 : Int) < (len : Int) := by omega
  obtain ⟨N, hN⟩ : ∃ N, a0 % 4 + 1 = N := ⟨_, rfl⟩
  have n1 : 1 ≤ N := by omega
  have n4 : N ≤ 4 := by omega
  have C1 := own_new w1 N
  rw [show heldN N = N by unfold heldN; omega] at C1
  go_wp2_with fail
  refine C1.mono ?_
  rintro x w2 ⟨rfl, hm2, hb2⟩
  obtain ⟨g, hg⟩ : ∃ g, w1.heap.size = g := ⟨_, rfl⟩
  have hgB := hB1.size
  rw [hg] at hm2 hgB ⊢
  have HM2 := hid hm2
  have hB2 := below_on hB1 hb2
  have HE := hid (okE_dealt n1)
  obtain ⟨L0, hL0⟩ : ∃ L0, dealt N = L0 := ⟨_, rfl⟩
  rw [hL0] at HM2 HE
  clear C1 hm2 hb2 hB1 hN hg hL0 b0 b0'
  go_wp2_with fail
  go_loopw [6, 7, 8, 9, 10, 11, 12, 13, 14, 15, 16] (fun s6 s7 s8 s9 s10 s11 s12 s13 s14 s15 s16 wr => ∃ (i : Nat) (L : List Ow), i ≤ len ∧ s6 = .int .i64 (i : Int) ∧ MB wr g 54 (N - 1) L ∧ okE N (i : Int) L ∧ Below w.heap.size w wr) (fun s6 _ _ _ _ _ _ _ _ _ _ _ => 61 - (intOf s6).toNat)
  case atStart => exact ⟨0, L0, by omega, rfl, HM2.out, HE.out, hB2⟩
  case round =>
    obtain ⟨i, L, hi, rfl, hm, he, hb⟩ := hrel
    have HM := hid hm
    have HEE := hid he
    have hgl := hm.lt
    have hsz := hb.size
    clear HM2 HE hB2 hm he
    by_cases hlt : i < len
    · have hlt' : (i : Int) < (len : Int) := by omega
      obtain ⟨h, hh⟩ := get_some L1 i (by rw [hlen.out]; exact hlt)
      obtain ⟨b, off, rfl, hbl, hcs⟩ := hands_at HR.out hh
      obtain ⟨c, f, u⟩ := h
      simp only at hcs
      have HCS := hid hcs
      obtain ⟨M, hM⟩ : ∃ M, Hid (handL N L c f u = M) := ⟨_, rfl⟩
      obtain ⟨E, hE⟩ : ∃ E, Hid (handE N L c f u = E) := ⟨_, rfl⟩
      have HEM := hid (show okE N ((i + 1 : Nat) : Int) M by rw [← hM.out]; have := okE_hand HEE.out HM.out.len (by omega) (by omega) c f u; simpa using this)
      clear hh hcs HEE
      -- a copy, what there was
      have C3 := own_copy HM.out
      go_wp2_with fail
      refine C3.mono ?_
      rintro x w4 ⟨rfl, hc4, hb4⟩
      obtain ⟨gc, hgc⟩ : ∃ gc, wr.heap.size = gc := ⟨_, rfl⟩
      rw [hgc] at hc4 hgl hsz ⊢
      have HM4 := hid (HM.out.later hb4)
      have HC4 := hid hc4
      have hB4 := below_on hb hb4
      have hl4 := hc4.lt
      clear C3 hc4 hb4 hb HM hgc
      go_wp2_with fail
      refine (own_all HM4.out).mono ?_
      rintro x w5 ⟨bw, capw, rfl, hbw, hrow, hb5⟩
      have HM5 := hid (HM4.out.later hb5)
      have HC5 := hid (HC4.out.later hb5)
      have HW5 := hid hrow
      have hB5 := below_on hB4 hb5
      have hlw := hrow.lt
      clear hrow hb5 HM4 HC4 hB4
      -- a hand of the copy
      obtain ⟨x0, x1, x2⟩ := HCS.out w5 hB5
      go_wp2_with fail
      go_region_held3 (fun w' => w'.cell? ⟨b, off + i * 3, none⟩ = some (.int .i64 c) ∧ w'.cell? ⟨b, off + i * 3 + 1, none⟩ = some (.int .i64 f) ∧ w'.cell? ⟨b, off + i * 3 + 2, none⟩ = some (.int .i64 u))
        (first | go_keep | exact HCS.out _ hBK.out)
        (first
          | (go_at_call 12; with_reducible refine (hand_at (HC5.out.later (by first | exact Below.refl _ _ | exact (Below.refl _ _).drew)) hE.out hM.out).mono ?_; rintro z W6 ⟨rfl, hm6, hb6⟩
             have HC6 := hid hm6
             have HM6 := hid ((HM5.out.later (by first | exact Below.refl _ _ | exact (Below.refl _ _).drew)).but hb6 (by omega))
             have HW6 := hid ((HW5.out.later (by first | exact Below.refl _ _ | exact (Below.refl _ _).drew)).but hb6 (by omega))
             have hBK := hid (But.below (by first | exact hB5 | exact hB5.drew) hb6 (by omega))
             clear hm6 hb6))
      all_goals
        clear HM5 HC5 HW5 hB5 x0 x1 x2
        go_wp2_with fail
        refine (own_all HM6.out).mono ?_
        rintro z w7 ⟨bn, capn, rfl, hbn, hrow, hb7⟩
        have HM7 := hid (HM6.out.later hb7)
        have HC7 := hid (HC6.out.later hb7)
        have HW7 := hid (HW6.out.later hb7)
        have HN7 := hid hrow
        have hB7 := below_on hBK.out hb7
        clear HM6 HC6 HW6 hBK hb7 hrow
        go_wp2_with fail
        go_loopw [10] (fun s10 wq => ∃ k : Nat, k ≤ 16 ∧ s10 = .int .i64 (k : Int) ∧ Below w7.heap.size w7 wq) (fun s10 _ => 16 - (intOf s10).toNat)
        case atStart => exact ⟨0, by omega, rfl, Below.refl _ _⟩
        case round =>
          obtain ⟨k, hk, rfl, hbq⟩ := hrel
          by_cases hlk : k < 16
          · have hlk' : (k : Int) < 16 := by omega
            obtain ⟨o, ho⟩ := HM7.out.get hlk
            obtain ⟨y0, y1⟩ := (HW7.out.later hbq).cell ho
            obtain ⟨y2, y3⟩ := (HN7.out.later hbq).cell ho
            clear ho
            go_wp2_with fail
            go_quiet (fail)
            go_wp2_with fail
            go_roundw
            case rel => exact ⟨k + 1, by omega, by go_num, below_drewN hbq _⟩
            case measure => simp [intOf]; omega
          · obtain rfl : k = 16 := by omega
            have hlk' : ¬ ((16 : Nat) : Int) < 16 := by omega
            have HM8 := hid (HM7.out.later hbq)
            have HC8 := hid (HC7.out.later hbq)
            have hB8 := below_on hB7 hbq
            clear HM7 HC7 HW7 HN7 hB7 hbq
            rename World => W8
            obtain ⟨x0, x1, x2⟩ := HCS.out W8 hB8
            go_wp2_with fail
            go_region_held3 (fun w' => w'.cell? ⟨b, off + i * 3, none⟩ = some (.int .i64 c) ∧ w'.cell? ⟨b, off + i * 3 + 1, none⟩ = some (.int .i64 f) ∧ w'.cell? ⟨b, off + i * 3 + 2, none⟩ = some (.int .i64 u))
              (first | go_keep | exact HCS.out _ hBK.out)
              (first
                | (go_at_call 12; with_reducible refine (hand_at (HM8.out.later (by first | exact Below.refl _ _ | exact (Below.refl _ _).drew)) hE.out hM.out).mono ?_; rintro z W9 ⟨rfl, hm9, hb9⟩
                   have HM9 := hid hm9
                   have HC9 := hid ((HC8.out.later (by first | exact Below.refl _ _ | exact (Below.refl _ _).drew)).but hb9 (by omega))
                   have hBK := hid (But.below (by first | exact hB8 | exact hB8.drew) hb9 (by omega))
                   clear hm9 hb9))
            all_goals
              clear HM8 HC8 hB8 x0 x1 x2
              go_wp2_with fail
              refine (own_all HC9.out).mono ?_
              rintro z w10 ⟨bx, capx, rfl, hbx, hrow, hb10⟩
              have HM10 := hid (HM9.out.later hb10)
              have HX10 := hid hrow
              have hB10 := below_on hBK.out hb10
              clear HM9 HC9 hBK hb10 hrow
              go_wp2_with fail
              refine (own_all HM10.out).mono ?_
              rintro z w11 ⟨by', capy, rfl, hby, hrow, hb11⟩
              have HM11 := hid (HM10.out.later hb11)
              have HX11 := hid (HX10.out.later hb11)
              have HY11 := hid hrow
              have hB11 := below_on hB10 hb11
              clear HM10 HX10 hB10 hb11 hrow
              have C := own_servers HM11.out n1 n4
              go_wp2_with fail
              refine C.mono ?_
              rintro z w12 ⟨rfl, h2⟩
              rw [h2]
              clear h2 C w12
              go_wp2_with fail
              refine (own_load HY11.out HM11.out.len n1 n4).mono ?_
              rintro z w13 (⟨-, gz, rfl, hmz, -, hb13⟩ | ⟨hno, -⟩)
              rotate_left
              · rw [okE_all HEM.out (by omega)] at hno; cases hno
              have HM13 := hid (HM11.out.later hb13)
              have HX13 := hid (HX11.out.later hb13)
              have HY13 := hid (HY11.out.later hb13)
              have HZ13 := hid hmz
              have hB13 := below_on hB11 hb13
              clear HM11 HX11 HY11 hB11 hb13 hmz
              go_wp2_with fail
              refine (own_all HZ13.out).mono ?_
              rintro z w14 ⟨ba, capa, rfl, hba, hrow, hb14⟩
              have HM14 := hid (HM13.out.later hb14)
              have HX14 := hid (HX13.out.later hb14)
              have HY14 := hid (HY13.out.later hb14)
              have HA14 := hid hrow
              have hB14 := below_on hB13 hb14
              clear HM13 HX13 HY13 HZ13 hB13 hb14 hrow
              go_wp2_with fail
              go_loopw [16] (fun s16 wq => ∃ k : Nat, k ≤ 16 ∧ s16 = .int .i64 (k : Int) ∧ Below w14.heap.size w14 wq) (fun s16 _ => 16 - (intOf s16).toNat)
              case atStart => exact ⟨0, by omega, rfl, Below.refl _ _⟩
              case round =>
                obtain ⟨k, hk, rfl, hbq⟩ := hrel
                by_cases hlk : k < 16
                · have hlk' : (k : Int) < 16 := by omega
                  obtain ⟨o, ho⟩ := HM14.out.get hlk
                  obtain ⟨y0, y1⟩ := (HX14.out.later hbq).cell ho
                  obtain ⟨y2, y3⟩ := (HY14.out.later hbq).cell ho
                  obtain ⟨y4, y5⟩ := (HA14.out.later hbq).cell ho
                  clear ho
                  go_wp2_with fail
                  go_quiet (fail)
                  go_wp2_with fail
                  go_roundw
                  case rel => exact ⟨k + 1, by omega, by go_num, below_drewN hbq _⟩
                  case measure => simp [intOf]; omega
                · obtain rfl : k = 16 := by omega
                  have hlk' : ¬ ((16 : Nat) : Int) < 16 := by omega
                  have HM15 := hid (HM14.out.later hbq)
                  have hB15 := below_on hB14 hbq
                  clear HM14 HX14 HY14 HA14 hB14 hbq
                  go_wp2_with fail
                  go_roundw
                  case rel => exact ⟨i + 1, M, by omega, by go_num, HM15.out, HEM.out, hB15⟩
                  case measure => simp [intOf]; omega
    · obtain rfl : i = len := by omega
      have hlt' : ¬ (i : Int) < (i : Int) := by omega
      go_wp2_with fail
      go_ret
      exact ⟨rfl, hb⟩

theorem ownerCopies_own : ownKnob Try.prog.godebug = none := by kernel_rfl
theorem ownerCopies_laidOut : laidOutB Try.prog = true := by kernel_rfl
set_option maxRecDepth 100000 in
theorem ownerCopies_lifted (os : Os) (started : os.Started) (H : Type) (enc : TypeId × Value → H) :
    ReturnsInHanded {} Try.checked os 7 .any (Rows.ownerCopiesSpec.pre6 enc Try.prog Try.f7 Rows.ownerCopiesRow.domain false) (Rows.ownerCopiesSpec.post enc Try.prog Try.f7 false true false false) := by
  refine returnsInHanded_of_change (C := Try.checked) ownerCopies_own started (by kernel_rfl) Try.func7
    (ChangeSpec.witness6 (enc := enc) (C := Try.checked) false ⟨#[], #[.int .u8 0, .slice none 0 0], []⟩ 8 (by kernel_rfl) (by kernel_rfl) (by kernel_rfl) (by kernel_rfl)) ?_
  intro W base args ds gs before hval0 hW hcnd _
  have hval : ∀ (j : Nat) t v, Try.f7.params[j]? = some t → args[j]? = some v → Value.okWide Try.prog W .any base t v := hval0
  have hW' := hW
  obtain ⟨p, q, hA0, hV, rfl, hfz, hnd⟩ := hW
  have hA : DataW.TrodAll enc Try.prog W 0 (fun _ => true) true Try.f7.params.toList args.toList ds p := hA0
  rw [Try.params7] at hA hval
  obtain ⟨v0, vs0, d0, ds0, p0, q0, hargs, rfl, rfl, h0, r0⟩ := trodAll_cons hA
  obtain ⟨v1, vs1, d1, ds1, p1, q1, rfl, rfl, rfl, h1, r1⟩ := trodAll_cons r0
  obtain ⟨rfl, rfl, rfl⟩ := trodAll_nil r1
  obtain rfl : args = #[v0, v1] := by cases args; simp_all
  obtain ⟨rfl, rfl⟩ := trodVars_none hV
  have k0 := h0
  have lt0 : ∀ x ∈ p0, x.block < W.heap.size := by obtain ⟨m, hm⟩ := k0; exact DataW.trod_lt m _ _ _ hm
  have k1 := h1
  have lt1 : ∀ x ∈ p1, x.block < W.heap.size := by obtain ⟨m, hm⟩ := k1; exact DataW.trod_lt m _ _ _ hm
  obtain ⟨a0, rfl, rfl, rfl, w0⟩ := open_int Try.underlying5 (hval 0 5 v0 rfl rfl) h0
  obtain ⟨a1, cap1, L1, rfl, r1', c1, m1⟩ := open_hds (hval 1 22 v1 rfl rfl) h1
  clear hA0 hval0
  refine (ownerCopies_walk W a0 w0 a1 cap1 L1 r1' c1 m1).mono fun e W' ⟨he, bel⟩ => ?_
  subst he
  exact ⟨_, rfl, _, _, _, [], _, [], hW', trodAll_mk1 (shut_bool Try.underlying4 _), (trodAll_cons_mk (Below.trod ownerCopies_laidOut (by kernel_rfl) (of_decide_eq_true (by kernel_rfl)) k0 bel lt0) (trodAll_cons_mk (Below.trod ownerCopies_laidOut (by kernel_rfl) (of_decide_eq_true (by kernel_rfl)) k1 bel lt1) trodAll_mk0)), rfl, bel.frame _, fun h => by cases h⟩

theorem ownerCopies_over : Rows.ownerCopiesRow.holds Try.pinned (OpenSpec.ofChange Rows.ownerCopiesSpec) :=
  OpenClaim.holds_of_wide 7 Try.f7 rfl rfl rfl rfl rfl rfl rfl ⟨rfl, rfl, rfl, rfl, rfl⟩ rfl rfl rfl rfl rfl (by kernel_rfl) Try.func7 (by kernel_rfl)
    (of_decide_eq_true (by kernel_rfl)) (by unfold Func.isWrapper; first | (rw [if_pos (by decide +kernel)]; kernel_rfl) | (rw [if_neg (by decide +kernel)]; exact ⟨rfl, rfl⟩))
    (fun os started H enc _ => ownerCopies_lifted os started H enc)

theorem ownerCopies_holds : Rows.OwnerCopiesSaid := ownerCopies_over
#print axioms ownerCopies_holds
end Go.Proofs.Ytnlhlmihhgihbaa
