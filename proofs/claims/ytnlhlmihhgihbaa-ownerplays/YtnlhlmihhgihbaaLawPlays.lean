/- OwnerPlays holds for every number, every row of at most 60 hands and every server; of longer rows it answers true by itself. -/
import Derived.Test.YtnlhlmihhgihbaaOwQ
import Derived.Test.YtnlhlmihhgihbaaOwO
import Derived.ProofKit
import Derived.OpenShut
import Derived.ShutString
import Derived.ChangeOld
import Derived.Below
import Derived.SizedLaws
namespace Go.Proofs.Ytnlhlmihhgihbaa
open Go.ChangeShapes Go.WideShapes Go.ChangeAt Go.RowKit
open Go.ChangeMaps (open_string shut_string)
set_option linter.unusedVariables false

set_option maxHeartbeats 4000000 in
theorem ownerPlays_walk (w : World) (a0 : Int) (w0 : (Lit.int .i64 a0).wf = true) (a1 : Option Addr) (cap1 : Nat) (L1 : List Hd) (r1 : RowG Hd.cs 3 w a1 L1) (c1 : L1.length ≤ cap1) (m1 : cap1 ≤ maxLen) (a2 : Int) (w2 : (Lit.int .i64 a2).wf = true) :
    Calls Try.prog 3 #[.int .i64 a0, .slice a1 L1.length cap1, .int .i64 a2] w fun e w' => e = .returned (.bool true) ∧ Below w.heap.size w w' := by
  obtain ⟨len, hlen⟩ : ∃ len, Hid (L1.length = len) := ⟨_, rfl⟩
  rw [hlen.out] at c1 ⊢
  have HR := hid r1
  have C0 := known w
  clear r1 w0 c1 m1 w2
  go_enter Try.func3, Try.ntmps3
  go_wp2_with fail
  refine C0.mono ?_
  rintro x w1 ⟨rfl, hB1⟩
  clear C0
  by_cases h60 : len ≤ 60
  rotate_left
  · have h60' : (60 : Int) < (len : Int) := by omega
    go_wp2_with fail
    go_ret
    exact ⟨rfl, hB1⟩
  have h60' : ¬ (60 : Int) < (len : Int) := by omega
  have C1 := own_new w1 a0
  obtain ⟨N, hN⟩ : ∃ N, heldN a0 = N := ⟨_, rfl⟩
  have hNb := held_le a0
  rw [hN] at C1 hNb
  obtain ⟨n1, n4⟩ := hNb
  go_wp2_with fail
  refine C1.mono ?_
  rintro x w2 ⟨rfl, hm2, hb2⟩
  have C2 := ref_new w2 a0
  rw [hN] at C2
  obtain ⟨g, hg⟩ : ∃ g, w1.heap.size = g := ⟨_, rfl⟩
  have hgB := hB1.size
  have hgl := hm2.lt
  rw [hg] at hm2 hgB hgl ⊢
  have HM2 := hid hm2
  have hB2 := below_on hB1 hb2
  clear C1 hm2 hb2 hB1 hN hg
  go_wp2_with fail
  refine C2.mono ?_
  rintro x w3 ⟨rfl, hr3, hb3⟩
  obtain ⟨r, hr⟩ : ∃ r, w2.heap.size = r := ⟨_, rfl⟩
  rw [hr] at hr3 hgl ⊢
  have HM3 := hid (HM2.out.later hb3)
  have HR3 := hid hr3
  have hB3 := below_on hB2 hb3
  have hat := dealt_len N
  clear C2 hr3 hb3 hB2 HM2 hr hat
  obtain ⟨L0, hL0⟩ : ∃ L0, dealt N = L0 := ⟨_, rfl⟩
  rw [hL0] at HM3 HR3
  clear hL0
  go_wp2_with fail
  go_loopw [9, 10] (fun s9 s10 wr => ∃ (i : Nat) (L : List Ow), i ≤ len ∧ s9 = .int .i64 (i : Int) ∧ MB wr g 54 (N - 1) L ∧ MB wr r 56 N L ∧ Below w.heap.size w wr) (fun s9 _ _ => 61 - (intOf s9).toNat)
  case atStart => exact ⟨0, L0, by omega, rfl, HM3.out, HR3.out, hB3⟩
  case round =>
    obtain ⟨i, L, hi, rfl, hm, hrr, hb⟩ := hrel
    have HM := hid hm
    have HRR := hid hrr
    have hrl := hrr.lt
    have hsz := hb.size
    clear HM3 HR3 hB3 hm hrr
    by_cases hlt : i < len
    · have hlt' : (i : Int) < (len : Int) := by omega
      obtain ⟨h, hh⟩ := get_some L1 i (by rw [hlen.out]; exact hlt)
      obtain ⟨b, off, rfl, hbl, hcs⟩ := hands_at HR.out hh
      obtain ⟨c, f, u⟩ := h
      simp only at hcs
      have HCS := hid hcs
      have C3 := own_copy HM.out
      clear hh hcs
      go_wp2_with fail
      refine C3.mono ?_
      rintro x w4 ⟨rfl, hc4, hb4⟩
      obtain ⟨gc, hgc⟩ : ∃ gc, wr.heap.size = gc := ⟨_, rfl⟩
      rw [hgc] at hc4 hrl hsz ⊢
      have HM4 := hid (HM.out.later hb4)
      have HR4 := hid (HRR.out.later hb4)
      have HC4 := hid hc4
      have hB4 := below_on hb hb4
      clear C3 hc4 hb4 hb HM HRR hgc
      obtain ⟨E, hE⟩ : ∃ E, Hid (handE N L c f u = E) := ⟨_, rfl⟩
      obtain ⟨M, hM⟩ : ∃ M, Hid (handL N L c f u = M) := ⟨_, rfl⟩
      obtain ⟨x0, x1, x2⟩ := HCS.out w4 hB4
      go_wp2_with fail
      go_region_held3 (fun w' => w'.cell? ⟨b, off + i * 3, none⟩ = some (.int .i64 c) ∧ w'.cell? ⟨b, off + i * 3 + 1, none⟩ = some (.int .i64 f) ∧ w'.cell? ⟨b, off + i * 3 + 2, none⟩ = some (.int .i64 u))
        (first | go_keep | exact HCS.out _ hBK.out)
        (first
          | (go_at_call 12; with_reducible refine (hand_at (HM4.out.later (by first | exact Below.refl _ _ | exact (Below.refl _ _).drew)) hE.out hM.out).mono ?_; rintro z W5 ⟨rfl, hm5, hb5⟩
             have HM5 := hid hm5
             have HR5 := hid ((HR4.out.later (by first | exact Below.refl _ _ | exact (Below.refl _ _).drew)).but hb5 (by omega))
             have HC5 := hid ((HC4.out.later (by first | exact Below.refl _ _ | exact (Below.refl _ _).drew)).but hb5 (by omega))
             have hBK := hid (But.below (by first | exact hB4 | exact hB4.drew) hb5 hgB)
             clear hm5 hb5)
          | (go_at_call 13; with_reducible refine (ref_hand_at HR5.out hE.out hM.out).mono ?_; rintro z W6 ⟨rfl, hr6, hb6⟩
             have HR6 := hid hr6
             have HM6 := hid (HM5.out.but hb6 (by omega))
             have HC6 := hid (HC5.out.but hb6 (by omega))
             have hBK := hid (But.below hBK.out hb6 (by omega))
             clear hr6 hb6))
      all_goals
        have hEE : (E != E) = false := by simp
        clear HM4 HR4 HC4 HM5 HR5 HC5 hB4 x0 x1 x2
        go_wp2_with fail
        refine (own_hand HC6.out 3 1 0).mono ?_
        rintro z W7 ⟨rfl, -, hb7⟩
        have HM7 := hid (HM6.out.but hb7 (by omega))
        have HR7 := hid (HR6.out.but hb7 (by omega))
        have hB7 := But.below hBK.out hb7 (by omega)
        clear HM6 HR6 HC6 hBK hb7 hEE
        go_wp2_with fail
        refine (alike_yes HM7.out HR7.out n1 n4).mono ?_
        rintro z W8 ⟨rfl, hb8⟩
        have HM8 := hid (HM7.out.later hb8)
        have HR8 := hid (HR7.out.later hb8)
        have hB8 := below_on hB7 hb8
        clear HM7 HR7 hB7 hb8
        go_wp2_with fail
        go_roundw
        case rel => exact ⟨i + 1, M, by omega, by go_num, HM8.out, HR8.out, hB8⟩
        case measure => simp [intOf]; omega
    · obtain rfl : i = len := by omega
      have hlt' : ¬ (i : Int) < (i : Int) := by omega
      go_wp2_with fail
      refine (own_cells HM.out a2).mono ?_
      rintro z W4 ⟨v4, rfl, ho4, hb4⟩
      obtain ⟨p4, q4, rfl⟩ := owns_slice ho4
      have HR4 := hid (HRR.out.later hb4)
      have HM4 := hid (HM.out.later hb4)
      have hB4 := below_on hb hb4
      have HO4 := hid ho4
      clear HRR HM hb hb4 ho4
      go_wp2_with fail
      refine (ref_cells HR4.out a2).mono ?_
      rintro z W5 ⟨v5, rfl, ho5, hb5⟩
      obtain ⟨p5, q5, rfl⟩ := owns_slice ho5
      have HR5 := hid (HR4.out.later hb5)
      have HM5 := hid (HM4.out.later hb5)
      have hB5 := below_on hB4 hb5
      have HA := hid (owns_on HO4.out hb5)
      have HB := hid ho5
      clear HR4 HM4 hB4 hb5 HO4 ho5
      obtain ⟨C, hC⟩ : ∃ C, cellsN L a2 = C := ⟨_, rfl⟩
      rw [hC] at HA HB ⊢
      obtain ⟨m, hm⟩ : ∃ m, Hid (C.length = m) := ⟨_, rfl⟩
      rw [hm.out] at HA HB ⊢
      have hm16 : m ≤ 16 := by rw [← hm.out, ← hC]; exact cellsF_le L a2 16
      have hmm : ((m : Int) != (m : Int)) = false := by simp
      clear hC
      go_wp2_with fail
      go_loopw [13] (fun s13 wq => ∃ k : Nat, k ≤ m ∧ s13 = .int .i64 (k : Int) ∧ Below W5.heap.size W5 wq) (fun s13 _ => m - (intOf s13).toNat)
      case atStart => exact ⟨0, by omega, rfl, Below.refl _ _⟩
      case round =>
        obtain ⟨k, hk, rfl, hbq⟩ := hrel
        by_cases hlt : k < m
        · have hlt' : (k : Int) < (m : Int) := by omega
          obtain ⟨ga, rfl⟩ := own_some HA.out (by omega)
          obtain ⟨gb, rfl⟩ := own_some HB.out (by omega)
          obtain ⟨ck, hck⟩ := get_some C k (by rw [hm.out]; exact hlt)
          have x0 := row_int (owns_on HA.out hbq) hck hm.out.symm
          have x1 := row_int (owns_on HB.out hbq) hck hm.out.symm
          clear hck hmm
          go_wp2_with fail
          go_quiet (fail)
          go_wp2_with fail
          go_roundw
          case rel => exact ⟨k + 1, by omega, by go_num, below_drewN hbq _⟩
          case measure => simp [intOf]; omega
        · obtain rfl : k = m := by omega
          have hlt' : ¬ (k : Int) < (k : Int) := by omega
          clear hmm
          go_wp2_with fail
          refine (alike_yes (HM5.out.later hbq) (HR5.out.later hbq) n1 n4).mono ?_
          rintro z W8 ⟨rfl, hb8⟩
          have hB8 := below_on (below_on hB5 hbq) hb8
          clear hbq hb8
          go_wp2_with fail
          go_ret
          exact ⟨rfl, hB8⟩

theorem ownerPlays_own : ownKnob Try.prog.godebug = none := by kernel_rfl
theorem ownerPlays_laidOut : laidOutB Try.prog = true := by kernel_rfl
set_option maxRecDepth 100000 in
theorem ownerPlays_lifted (os : Os) (started : os.Started) (H : Type) (enc : TypeId × Value → H) :
    ReturnsInHanded {} Try.checked os 3 .any (Rows.ownerPlaysSpec.pre6 enc Try.prog Try.f3 Rows.ownerPlaysRow.domain false) (Rows.ownerPlaysSpec.post enc Try.prog Try.f3 false true false false) := by
  refine returnsInHanded_of_change (C := Try.checked) ownerPlays_own started (by kernel_rfl) Try.func3
    (ChangeSpec.witness6 (enc := enc) (C := Try.checked) false ⟨#[], #[.int .i64 0, .slice none 0 0, .int .i64 0], []⟩ 8 (by kernel_rfl) (by kernel_rfl) (by kernel_rfl) (by kernel_rfl)) ?_
  intro W base args ds gs before hval0 hW hcnd _
  have hval : ∀ (j : Nat) t v, Try.f3.params[j]? = some t → args[j]? = some v → Value.okWide Try.prog W .any base t v := hval0
  have hW' := hW
  obtain ⟨p, q, hA0, hV, rfl, hfz, hnd⟩ := hW
  have hA : DataW.TrodAll enc Try.prog W 0 (fun _ => true) true Try.f3.params.toList args.toList ds p := hA0
  rw [Try.params3] at hA hval
  obtain ⟨v0, vs0, d0, ds0, p0, q0, hargs, rfl, rfl, h0, r0⟩ := trodAll_cons hA
  obtain ⟨v1, vs1, d1, ds1, p1, q1, rfl, rfl, rfl, h1, r1⟩ := trodAll_cons r0
  obtain ⟨v2, vs2, d2, ds2, p2, q2, rfl, rfl, rfl, h2, r2⟩ := trodAll_cons r1
  obtain ⟨rfl, rfl, rfl⟩ := trodAll_nil r2
  obtain rfl : args = #[v0, v1, v2] := by cases args; simp_all
  obtain ⟨rfl, rfl⟩ := trodVars_none hV
  have k0 := h0
  have lt0 : ∀ x ∈ p0, x.block < W.heap.size := by obtain ⟨m, hm⟩ := k0; exact DataW.trod_lt m _ _ _ hm
  have k1 := h1
  have lt1 : ∀ x ∈ p1, x.block < W.heap.size := by obtain ⟨m, hm⟩ := k1; exact DataW.trod_lt m _ _ _ hm
  have k2 := h2
  have lt2 : ∀ x ∈ p2, x.block < W.heap.size := by obtain ⟨m, hm⟩ := k2; exact DataW.trod_lt m _ _ _ hm
  obtain ⟨a0, rfl, rfl, rfl, w0⟩ := open_int Try.underlying3 (hval 0 3 v0 rfl rfl) h0
  obtain ⟨a1, cap1, L1, rfl, r1', c1, m1⟩ := open_hds (hval 1 22 v1 rfl rfl) h1
  obtain ⟨a2, rfl, rfl, rfl, w2⟩ := open_int Try.underlying3 (hval 2 3 v2 rfl rfl) h2
  clear hA0 hval0
  refine (ownerPlays_walk W a0 w0 a1 cap1 L1 r1' c1 m1 a2 w2).mono fun e W' ⟨he, bel⟩ => ?_
  subst he
  exact ⟨_, rfl, _, _, _, [], _, [], hW', trodAll_mk1 (shut_bool Try.underlying4 _), (trodAll_cons_mk (Below.trod ownerPlays_laidOut (by kernel_rfl) (of_decide_eq_true (by kernel_rfl)) k0 bel lt0) (trodAll_cons_mk (Below.trod ownerPlays_laidOut (by kernel_rfl) (of_decide_eq_true (by kernel_rfl)) k1 bel lt1) (trodAll_cons_mk (Below.trod ownerPlays_laidOut (by kernel_rfl) (of_decide_eq_true (by kernel_rfl)) k2 bel lt2) trodAll_mk0))), rfl, bel.frame _, fun h => by cases h⟩

theorem ownerPlays_over : Rows.ownerPlaysRow.holds Try.pinned (OpenSpec.ofChange Rows.ownerPlaysSpec) :=
  OpenClaim.holds_of_wide 3 Try.f3 rfl rfl rfl rfl rfl rfl rfl ⟨rfl, rfl, rfl, rfl, rfl⟩ rfl rfl rfl rfl rfl (by kernel_rfl) Try.func3 (by kernel_rfl)
    (of_decide_eq_true (by kernel_rfl)) (by unfold Func.isWrapper; first | (rw [if_pos (by decide +kernel)]; kernel_rfl) | (rw [if_neg (by decide +kernel)]; exact ⟨rfl, rfl⟩))
    (fun os started H enc _ => ownerPlays_lifted os started H enc)

theorem ownerPlays_holds : Rows.OwnerPlaysSaid := ownerPlays_over
#print axioms ownerPlays_holds
end Go.Proofs.Ytnlhlmihhgihbaa
