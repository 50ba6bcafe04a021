/- For every two bytes NumLong returns true, and each argument reads behind the call as before it: a number has ten bytes at most, the tenth at most 1, and with noughts behind it isn't what Put tells. No conditions. -/
import Derived.Test.YtkipjpffilinlaaKnown
import Derived.Test.YtkipjpffilinlaaRef
import Derived.ProofKit
import Derived.OpenShut
import Derived.ShutString
namespace Go.Proofs.Ytkipjpffilinlaa
open Go.ChangeShapes Go.WideShapes Go.ChangeAt Go.RowKit
open Go.ChangeMaps (open_string shut_string)
set_option linter.unusedVariables false

theorem numLong_own : ownKnob Try.prog.godebug = none := by kernel_rfl

theorem long_get : ∀ (k i acc q : Nat), q < 128 → i ≤ 9 →
    (9 < i + k ∨ (i + k = 9 ∧ 1 < q) ∨ (0 < i + k ∧ q = 0) → getF (List.replicate k 255 ++ [lastB q]) i acc = (0, 0, 11)) ∧
    (¬ (9 < i + k ∨ (i + k = 9 ∧ 1 < q) ∨ (0 < i + k ∧ q = 0)) → (getF (List.replicate k 255 ++ [lastB q]) i acc).2 = (i + k + 1, 0)) := by
  intro k
  induction k with
  | zero =>
    intro i acc q hq hi
    have hl := last_eq q hq
    simp only [List.replicate_zero, List.nil_append, getF, hl, Nat.add_zero]
    constructor
    · intro h
      by_cases h1 : i = 9 ∧ 1 < q
      · rw [if_pos h1]
      · rw [if_neg h1, if_pos (by omega)]
    · intro h
      rw [if_neg (by omega), if_neg (by omega), if_pos hq]
  | succ k ih =>
    intro i acc q hq hi
    have e : (255 : UInt8).toNat = 255 := rfl
    simp only [List.replicate_succ, List.cons_append, getF, e]
    by_cases h9 : i = 9
    · rw [if_pos (by omega)]
      exact ⟨fun _ => rfl, fun h => absurd (by omega) h⟩
    · rw [if_neg (by omega), if_neg (by omega), if_neg (by omega)]
      have := ih (i + 1) (acc + (255 - 128) * 128 ^ i) q hq (by omega)
      rw [show i + (k + 1) = i + 1 + k by omega]
      exact this
set_option maxRecDepth 100000 in
set_option maxHeartbeats 1000000 in
theorem numLong_walk (a0 : Int) (a1 : Int) (w0 : (Lit.int .u8 a0).wf = true) (w1 : (Lit.int .u8 a1).wf = true) (w : World) :
    Calls Try.prog 8 #[.int .u8 a0, .int .u8 a1] w fun e w' => e = .returned (.bool true) ∧ Below w.heap.size w w' := by
  obtain ⟨b0, b1⟩ := bounds_u8 w0
  obtain ⟨c0, c1⟩ := bounds_u8 w1
  obtain ⟨last, rfl⟩ := Int.eq_ofNat_of_zero_le b0
  obtain ⟨k, hk⟩ : ∃ k : Nat, a1 % 12 = (k : Int) := ⟨(a1 % 12).toNat, by omega⟩
  have hk11 : k ≤ 11 := by omega
  have hl := and127 last (by omega)
  have hq : last % 128 < 128 := by omega
  generalize last % 128 = q at hl hq
  clear w0 w1
  obtain ⟨i0, hi, hz0, hz1, hz2⟩ := info_parts Try.info5
  go_enter Try.func8, Try.ntmps8
  go_wp2_with fail
  refine (known9 _).mono ?_
  rintro x w1 ⟨rfl, hb1⟩
  have hs1 := hb1.size
  go_wp2_with (at_make; refine wpList_make_own _ rfl _ _ 50 rfl w.heap.size 5 i0 (.int .u8 0) 1 Try.underlying50 hi hz0 hz1 _ _ _ 16 rfl rfl rfl (by omega) (by decide) hs1 ?_)
  intro w2 hown hgrow
  have hb2 : Below w.heap.size w w2 := hb1.grown hgrow hs1 (by simp)
  go_wp2
  go_loopw [6, 7] (fun s i wr => ∃ (j : Nat), i = .int .i64 j ∧ j ≤ k ∧ s = .slice (some ⟨w1.heap.size, 0, none⟩) j 16 ∧ wr.ownsRow w.heap.size 5 1 (.slice (some ⟨w1.heap.size, 0, none⟩) j 16) j (u8s (List.replicate j 255)) ∧ Below w.heap.size w wr) (fun _ i _ => k - (intOf i).toNat)
  case atStart => exact ⟨0, rfl, by omega, rfl, hown, hb2⟩
  case round =>
    clear hown hgrow
    obtain ⟨j, rfl, hj, rfl, hown, hb⟩ := hrel
    have hsz := hb.size
    have hsz : w.heap.size ≤ wr.heap.size := hb.size
    by_cases hlt : j < k
    · go_wp2_with (at_builtin; refine wpList_append_fits _ rfl _ _ 50 rfl w.heap.size 5 i0 1 Try.underlying50 hi hz1 w1.heap.size j 16 (u8s (List.replicate j 255)) rfl (hown.alloc _) ⟨wr.heap.size, 0, none⟩ 1 1 (u8s [255]) rfl rfl ?c1 ?c2 (by omega) ?_)
      case c1 =>
        intro j u hj
        match j, hj with
        | 0, hj => simp [u8s] at hj; subst hj; simp [Addr.add]
      case c2 => intro u hu; simp [u8s] at hu; subst hu; rfl
      intro w3 hown3 hgrow3
      have hb3 : Below w.heap.size w w3 := (hb.alloc hsz _).grown hgrow3 (by simp; omega) (by simp; omega)
      clear hown hgrow3 hb
      rw [← u8s_append, ← List.replicate_succ'] at hown3
      go_wp2
      go_roundw
      case rel => exact ⟨j + 1, by go_num, by omega, rfl, hown3, hb3⟩
      case measure => simp [intOf]; omega
    · obtain rfl : j = k := by omega
      clear hlt
      have hL : Hid ((lastB q).toNat = q) := last_eq q hq
      go_wp2_with (at_builtin; refine wpList_append_fits _ rfl _ _ 50 rfl w.heap.size 5 i0 1 Try.underlying50 hi hz1 w1.heap.size j 16 (u8s (List.replicate j 255)) rfl (hown.alloc _) ⟨wr.heap.size, 0, none⟩ 1 1 (u8s [lastB q]) rfl rfl ?d1 ?d2 (by omega) ?_)
      case d1 =>
        intro j u hj
        match j, hj with
        | 0, hj => simp [u8s] at hj; subst hj; simp [Addr.add, hL.out]
      case d2 => intro u hu; simp [u8s] at hu; subst hu; rfl
      intro w3 hown3 hgrow3
      have hb3 : Below w.heap.size w w3 := (hb.alloc hsz _).grown hgrow3 (by simp; omega) (by simp; omega)
      clear hown hgrow3 hb
      rw [← u8s_append] at hown3
      have hcv := convert_own (P := Try.prog) (src := 50) (dst := 9) Try.underlying50 Try.underlying5 Try.underlying9 hown3 (by simp)
      have HG := long_get j 0 0 q hq (by omega)
      have hlen : (List.replicate j (255 : UInt8) ++ [lastB q]).length ≤ 12 := by simp; omega
      generalize List.replicate j (255 : UInt8) ++ [lastB q] = L at hcv HG hlen
      clear hown3
      simp only [Nat.zero_add] at HG
      by_cases hc : 9 < j ∨ (j = 9 ∧ 1 < q) ∨ (0 < j ∧ q = 0)
      · have HG1 : Hid (get (⟨L.toArray⟩ : ByteArray).data.toList = (0, 0, 11)) := HG.1 hc
        clear HG
        go_wp2_with fail
        refine (get_eq HG1 (by show L.length ≤ 2 ^ 63 - 1; omega) _).mono ?_
        rintro x w4 ⟨rfl, rfl⟩
        rcases hc with hc | ⟨rfl, hc⟩ | ⟨hc, rfl⟩
        · go_wp2
          go_ret
          exact ⟨rfl, hb3⟩
        · go_wp2
          go_ret
          exact ⟨rfl, hb3⟩
        · go_wp2
          all_goals
            go_ret
            exact ⟨rfl, hb3⟩
      · obtain ⟨n, hn⟩ : ∃ n, get (⟨L.toArray⟩ : ByteArray).data.toList = (n, j + 1, 0) := ⟨(getF L 0 0).1, by rw [← HG.2 hc]; rfl⟩
        have HG1 : Hid (get (⟨L.toArray⟩ : ByteArray).data.toList = (n, j + 1, 0)) := hn
        clear HG hn
        go_wp2_with fail
        refine (get_eq HG1 (by show L.length ≤ 2 ^ 63 - 1; omega) _).mono ?_
        rintro x w4 ⟨rfl, rfl⟩
        rcases Nat.eq_zero_or_pos j with rfl | hp
        · go_wp2
          go_ret
          exact ⟨rfl, hb3⟩
        · have hq1 : 1 ≤ q := by omega
          have hq0 : ((q : Int) == 0) = false := beq_eq_false_iff_ne.2 (by omega)
          go_wp2
          all_goals
            go_ret
            exact ⟨rfl, hb3⟩

set_option maxRecDepth 100000 in
theorem numLong_lifted (os : Os) (started : os.Started) (H : Type) (enc : TypeId × Value → H) :
    ReturnsInHanded {} Try.checked os 8 .any (Rows.numLongSpec.pre6 enc Try.prog Try.f8 Rows.numLongRow.domain false) (Rows.numLongSpec.post enc Try.prog Try.f8 false true false false) := by
  refine returnsInHanded_of_change (C := Try.checked) numLong_own started (by kernel_rfl) Try.func8
    (ChangeSpec.witness6 (enc := enc) (C := Try.checked) false ⟨#[], #[.int .u8 0, .int .u8 0], []⟩ 8 (by kernel_rfl) (by kernel_rfl) (by kernel_rfl) (by kernel_rfl)) ?_
  intro W base args ds gs before hval0 hW hcnd _
  have hval : ∀ (j : Nat) t v, Try.f8.params[j]? = some t → args[j]? = some v → Value.okWide Try.prog W .any base t v := hval0
  have hW' := hW
  obtain ⟨p, q, hA0, hV, rfl, hfz, hnd⟩ := hW
  have hA : DataW.TrodAll enc Try.prog W 0 (fun _ => true) true Try.f8.params.toList args.toList ds p := hA0
  rw [Try.params8] at hA hval
  obtain ⟨v0, vs0, d0, ds0, p0, q0, hargs, rfl, rfl, h0, r0⟩ := trodAll_cons hA
  obtain ⟨v1, vs1, d1, ds1, p1, q1, rfl, rfl, rfl, h1, r1⟩ := trodAll_cons r0
  obtain ⟨rfl, rfl, rfl⟩ := trodAll_nil r1
  obtain rfl : args = #[v0, v1] := by cases args; simp_all
  obtain ⟨rfl, rfl⟩ := trodVars_none hV
  obtain ⟨a0, rfl, rfl, rfl, w0⟩ := open_int Try.underlying5 (hval 0 5 v0 rfl rfl) h0
  obtain ⟨a1, rfl, rfl, rfl, w1⟩ := open_int Try.underlying5 (hval 1 5 v1 rfl rfl) h1
  clear hA0 hval0
  refine (numLong_walk a0 a1 w0 w1 W).mono fun e W' ⟨he, bel⟩ => ?_
  subst he
  exact ⟨_, rfl, _, _, _, [], _, [], hW', trodAll_mk1 (shut_bool Try.underlying4 _), (trodAll_cons_mk (shut_int Try.underlying5 w0) (trodAll_cons_mk (shut_int Try.underlying5 w1) trodAll_mk0)), rfl, bel.frame _, fun h => by cases h⟩

theorem numLong_over : Rows.numLongRow.holds Try.pinned (OpenSpec.ofChange Rows.numLongSpec) :=
  OpenClaim.holds_of_wide 8 Try.f8 rfl rfl rfl rfl rfl rfl rfl ⟨rfl, rfl, rfl, rfl, rfl⟩ rfl rfl rfl rfl rfl (by kernel_rfl) Try.func8 (by kernel_rfl)
    (of_decide_eq_true (by kernel_rfl)) (by unfold Func.isWrapper; first | (rw [if_pos (by decide +kernel)]; kernel_rfl) | (rw [if_neg (by decide +kernel)]; exact ⟨rfl, rfl⟩))
    (fun os started H enc _ => numLong_lifted os started H enc)

theorem numLong_holds : Rows.NumLongSaid := numLong_over
#print axioms numLong_holds
end Go.Proofs.Ytkipjpffilinlaa
