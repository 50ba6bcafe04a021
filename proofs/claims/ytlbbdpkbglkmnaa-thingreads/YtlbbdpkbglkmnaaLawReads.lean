/- ThingReads holds: of whatever bytes thing.Read and thing.Some tell what the reference tells, and the function returns true. -/
import Derived.Test.YtlbbdpkbglkmnaaKnown7
import Derived.Test.YtlbbdpkbglkmnaaThgQ
import Derived.Test.YtlbbdpkbglkmnaaThgO
import Derived.ProofKit
import Derived.OpenShut
import Derived.ShutString
import Derived.ChangeOld
import Derived.Below
import Derived.SizedLaws
namespace Go.Proofs.Ytlbbdpkbglkmnaa
open Go.ChangeShapes Go.WideShapes Go.ChangeAt Go.RowKit
open Go.ChangeMaps (open_string shut_string)
set_option linter.unusedVariables false

theorem runS_len (s : List UInt8) (z0 : Nat) : ∀ k, (runS s z0 k).1.length ≤ k
  | 0 => by simp [runS]
  | k + 1 => by
    rcases h : runS s z0 k with ⟨M, z, e⟩
    have ih := runS_len s z0 k
    rw [h] at ih
    rw [runS_succ h]
    unfold nextS
    split
    · exact Nat.le_succ_of_le ih
    · split
      · simp
      · split
        · simp
        · simp at ih ⊢; omega
theorem someL_len {s : List UInt8} {L : List Th} {z e : Nat} (h : someL s = (L, z, e)) : L.length ≤ 200 := by
  have : (someL s).1.length ≤ 200 := by
    unfold someL headS
    split
    · simp
    · split
      · simp
      · exact Nat.le_trans (runS_len _ _ _) (by omega)
  rw [h] at this
  exact this
set_option maxHeartbeats 2000000 in
set_option maxRecDepth 100000 in
theorem thingReads_walk (w : World) (a0 : ByteArray) (w0 : a0.size ≤ maxLen) : Calls Try.prog 4 #[.string a0] w fun e w' => e = .returned (.bool true) ∧ Below w.heap.size w w' := by
  by_cases hs : a0.size ≤ 800
  · have hs' : (a0.size : Int) ≤ 800 := by omega
    rcases hr : readT a0.data.toList with ⟨t, n, e⟩
    rcases hl : someL a0.data.toList with ⟨L, z, f⟩
    have hlen := someL_len hl
    have HR := hid hr
    have HL := hid hl
    have C1 := fun w => thing_read HR (by omega) w
    have C2 := fun w => ref_readThing HR (by omega) w
    have C3 := fun w => thing_some HL (by omega) w
    have C4 := fun w => ref_some HL (by omega) w
    clear hr hl HR HL
    have q1 := equal_th_at (eqT_self t)
    go_enter Try.func4, Try.ntmps4
    go_wp2_with fail
    refine (known_holds _).mono ?_
    rintro x w1 ⟨rfl, hE⟩
    go_wp2_with fail
    refine (C1 _).mono ?_
    rintro x w2 ⟨rfl, hb⟩
    replace hE := below_on hE hb
    clear hb
    go_wp2_with fail
    refine (C2 _).mono ?_
    rintro x w3 ⟨rfl, hb⟩
    have K1 := hid (var_on (o := t.o) (g := w2.heap.size) hb (new_at _ _ _ rfl) (by simp))
    replace hE := below_on (hE.alloc hE.size t.o) hb
    have l1 := at_lt K1.out
    clear hb
    go_wp2_with fail
    refine (C3 _).mono ?_
    rintro x w4 ⟨v1, rfl, ho1, hb⟩
    have K2 := hid (var_on (o := t.o) (g := w3.heap.size) hb (new_at _ _ _ rfl) (by simp))
    replace K1 := hid (var_on hb (old_at K1.out _) (by simp; omega))
    replace hE := below_on (hE.alloc hE.size t.o) hb
    replace l1 := at_lt K1.out
    have l2 := at_lt K2.out
    clear hb
    obtain ⟨p1, cap1, rfl⟩ := owns_slice ho1
    go_wp2_with fail
    refine (C4 _).mono ?_
    rintro x w5 ⟨v2, rfl, ho2, hb⟩
    replace ho1 := owns_on ho1 hb
    replace K1 := hid (var_on hb K1.out l1)
    replace K2 := hid (var_on hb K2.out l2)
    replace hE := below_on hE hb
    replace l1 := at_lt K1.out
    replace l2 := at_lt K2.out
    clear hb
    obtain ⟨p2, cap2, rfl⟩ := owns_slice ho2
    have c1 := cells_at K1.out
    have c2 := cells_at K2.out
    have r1 := hid (row_own ho1 rfl)
    have r2 := hid (row_own ho2 rfl)
    clear ho1 ho2
    go_wp2_with fail
    refine (ref_sameAll _ p1 p2 cap1 cap2 L L r1.out r2.out (by unfold maxLen; omega) (by unfold maxLen; omega)).mono ?_
    rw [sameL_self]
    rintro x w6 ⟨rfl, hb⟩
    replace hE := below_on hE hb
    clear hb c1 c2 K1 K2 r1 r2
    go_wp2_with fail
    go_ret
    exact ⟨by simp, hE⟩
  · have hs' : (800 : Int) < (a0.size : Int) := by omega
    go_enter Try.func4, Try.ntmps4
    go_wp2_with fail
    refine (known_holds _).mono ?_
    rintro x w1 ⟨rfl, hE⟩
    go_wp2_with fail
    go_ret
    exact ⟨rfl, hE⟩

theorem thingReads_own : ownKnob Try.prog.godebug = none := by kernel_rfl
theorem thingReads_laidOut : laidOutB Try.prog = true := by kernel_rfl
set_option maxRecDepth 100000 in
theorem thingReads_lifted (os : Os) (started : os.Started) (H : Type) (enc : TypeId × Value → H) :
    ReturnsInHanded {} Try.checked os 4 .any (Rows.thingReadsSpec.pre6 enc Try.prog Try.f4 Rows.thingReadsRow.domain false) (Rows.thingReadsSpec.post enc Try.prog Try.f4 false true false false) := by
  refine returnsInHanded_of_change (C := Try.checked) thingReads_own started (by kernel_rfl) Try.func4
    (ChangeSpec.witness6 (enc := enc) (C := Try.checked) false ⟨#[], #[.string ByteArray.empty], []⟩ 8 (by kernel_rfl) (by kernel_rfl) (by kernel_rfl) (by kernel_rfl)) ?_
  intro W base args ds gs before hval0 hW hcnd _
  have hval : ∀ (j : Nat) t v, Try.f4.params[j]? = some t → args[j]? = some v → Value.okWide Try.prog W .any base t v := hval0
  have hW' := hW
  obtain ⟨p, q, hA0, hV, rfl, hfz, hnd⟩ := hW
  have hA : DataW.TrodAll enc Try.prog W 0 (fun _ => true) true Try.f4.params.toList args.toList ds p := hA0
  rw [Try.params4] at hA hval
  obtain ⟨v0, vs0, d0, ds0, p0, q0, hargs, rfl, rfl, h0, r0⟩ := trodAll_cons hA
  obtain ⟨rfl, rfl, rfl⟩ := trodAll_nil r0
  obtain rfl : args = #[v0] := by cases args; simp_all
  obtain ⟨rfl, rfl⟩ := trodVars_none hV
  have k0 := h0
  have lt0 : ∀ x ∈ p0, x.block < W.heap.size := by obtain ⟨m, hm⟩ := k0; exact DataW.trod_lt m _ _ _ hm
  obtain ⟨a0, rfl, rfl, rfl, w0⟩ := open_string Try.underlying9 (hval 0 9 v0 rfl rfl) h0
  clear hA0 hval0
  refine (thingReads_walk W a0 w0).mono fun e W' ⟨he, bel⟩ => ?_
  subst he
  exact ⟨_, rfl, _, _, _, [], _, [], hW', trodAll_mk1 (shut_bool Try.underlying4 _), (trodAll_cons_mk (Below.trod thingReads_laidOut (by kernel_rfl) (of_decide_eq_true (by kernel_rfl)) k0 bel lt0) trodAll_mk0), rfl, bel.frame _, fun h => by cases h⟩

theorem thingReads_over : Rows.thingReadsRow.holds Try.pinned (OpenSpec.ofChange Rows.thingReadsSpec) :=
  OpenClaim.holds_of_wide 4 Try.f4 rfl rfl rfl rfl rfl rfl rfl ⟨rfl, rfl, rfl, rfl, rfl⟩ rfl rfl rfl rfl rfl (by kernel_rfl) Try.func4 (by kernel_rfl)
    (of_decide_eq_true (by kernel_rfl)) (by unfold Func.isWrapper; first | (rw [if_pos (by decide +kernel)]; kernel_rfl) | (rw [if_neg (by decide +kernel)]; exact ⟨rfl, rfl⟩))
    (fun os started H enc _ => thingReads_lifted os started H enc)

theorem thingReads_holds : Rows.ThingReadsSaid := thingReads_over
#print axioms thingReads_holds
end Go.Proofs.Ytlbbdpkbglkmnaa
