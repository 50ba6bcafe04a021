/- ThingRows holds: things one behind the other are read in their order, and the function returns true. -/
import Derived.Test.YtlbbdpkbglkmnaaKnown7
import Derived.Test.YtlbbdpkbglkmnaaThgM
import Derived.Test.YtlbbdpkbglkmnaaThgO
import Derived.ProofKit
import Derived.OpenShut
import Derived.ShutString
import Derived.ChangeOld
import Derived.Below
import Derived.SizedLaws
namespace Go.Proofs.Ytlbbdpkbglkmnaa
open Go.ChangeShapes Go.WideShapes Go.ChangeAt Go.RowKit
open Go.ChangeMaps (open_string shut_string)
set_option linter.unusedVariables false

theorem few_len {L : List Th} (h : fewL L = true) : L.length ≤ 30 := by
  unfold fewL at h
  rw [Bool.and_eq_true, decide_eq_true_eq] at h
  exact h.2
theorem filter_yes {L : List Th} {k : Nat} {t : Th} (h : L[k]? = some t) (ht : isT t = true) : (L.take (k + 1)).filter isT = (L.take k).filter isT ++ [t] := by
  rw [take_next h, List.filter_append]; simp [ht]
theorem filter_no {L : List Th} {k : Nat} {t : Th} (h : L[k]? = some t) (ht : isT t = false) : (L.take (k + 1)).filter isT = (L.take k).filter isT := by
  rw [take_next h, List.filter_append]; simp [ht]
theorem rows_at {M : List Th} {k : Nat} {t : Th} (h : M[k]? = some t) (ht : isT t = true) (hi : inT t) : readT ((M.flatMap thB).drop ((M.take k).flatMap thB).length) = (t, (thB t).length, 0) := by
  have hk : k < M.length := (List.getElem?_eq_some_iff.1 h).1
  have e := flat_drop thB M k hk []
  rw [(List.getElem?_eq_some_iff.1 h).2, List.append_nil] at e
  rw [e]
  exact readT_back ht hi _
set_option maxHeartbeats 4000000 in
set_option maxRecDepth 100000 in
theorem thingRows_walk (w : World) (a0 : Option Addr) (cap0 : Nat) (L : List Th) (i0 : ∀ t ∈ L, inT t) (r0 : RowT w a0 L) (c0 : L.length ≤ cap0) (m0 : cap0 ≤ maxLen) : Calls Try.prog 7 #[.slice a0 L.length cap0] w fun e w' => e = .returned (.bool true) ∧ Below w.heap.size w w' := by
  obtain ⟨j0, hi, hz0, hz1, hz2⟩ := info_parts Try.infoT
  have hm0 : cap0 ≤ 9223372036854775807 := by unfold maxLen at m0; omega
  have hml : L.length ≤ maxLen := by omega
  obtain ⟨n, hn⟩ : ∃ n, Hid (L.length = n) := ⟨_, rfl⟩
  obtain ⟨q, hq⟩ : ∃ q, Hid (fewL L = q) := ⟨_, rfl⟩
  have CF := fun (w' : World) (hb : Below w.heap.size w w') => few_things w' a0 cap0 L (r0.later hb) i0 hml
  rw [hq.out, hn.out] at CF
  have R0 := hid r0
  have hnn : n ≤ 9223372036854775807 := by have := hn.out; omega
  rw [hn.out]
  clear r0 hml
  go_enter Try.func7, Try.ntmps7
  go_wp2_with fail
  refine (known_holds _).mono ?_
  rintro x v1 ⟨rfl, hE⟩
  go_wp2_with fail
  refine (CF _ hE).mono ?_
  rintro x v2 ⟨rfl, hb⟩
  replace hE := below_on hE hb
  clear hb CF
  cases q
  · go_wp2_with fail
    go_ret
    exact ⟨rfl, hE⟩
  have hn30 : n ≤ 30 := by rw [← hn.out]; exact few_len hq.out
  go_wp2_with fail
  go_loopw [3, 4, 5] (fun s v i wr => ∃ (k : Nat) (M : List Th) (A : List UInt8), k ≤ n ∧ i = .int .i64 k ∧ s = .string ⟨A.toArray⟩ ∧ M = (L.take k).filter isT ∧ A = M.flatMap thB ∧ A.length ≤ 168 * k ∧ M.length ≤ k ∧ wr.ownsRow w.heap.size 28 11 v M.length (flatT M) ∧ Below w.heap.size w wr) (fun _ _ i _ => n - (intOf i).toNat)
  case atStart => exact ⟨0, [], [], by omega, rfl, rfl, by simp, by simp, by simp, by simp, World.ownsRow_nil _ _ _ _, hE⟩
  case round =>
    clear hE
    obtain ⟨k, M, A, hk, rfl, rfl, hM, hA, lA, lM, ho, hb⟩ := hrel
    have HM := hid hM
    have HA := hid hA
    clear hM hA
    obtain ⟨p, cap, rfl⟩ := owns_slice ho
    by_cases hlt : k < n
    · have hlt' : (k : Int) < (n : Int) := by omega
      obtain ⟨t, ht⟩ := get_th L k (by rw [hn.out]; exact hlt)
      obtain ⟨b, off, rfl, hc⟩ := (R0.out.later hb).at ht
      have HT := hid ht
      clear ht
      have hit := i0 t (List.mem_of_getElem? HT.out)
      obtain ⟨r, hr⟩ : ∃ q, Hid (isT t = q) := ⟨_, rfl⟩
      cases r
      · have CB := fun (w' : World) => thing_bytes (hid (bytesT_no hr.out)) hit w'
        go_wp2_with fail
        refine (CB _).mono ?_
        rintro x w2 ⟨rfl, hb2⟩
        have hc2 := cellsT_later hc hb2
        have ho2 := owns_on ho hb2
        have hB2 := below_on hb hb2
        clear hb2 hb ho hc
        go_wp2_with fail
        refine (isT_at hr _ hit).mono ?_
        rintro x w3 ⟨rfl, hb3⟩
        have ho3 := owns_on ho2 hb3
        have hB3 := below_on hB2 hb3
        clear hb3 ho2 hB2 hc2 CB
        go_wp2_with fail
        go_roundw
        case rel => exact ⟨k + 1, M, A, by omega, by go_num, rfl, by rw [filter_no HT.out hr.out]; exact HM.out, HA.out, by omega, by omega, ho3, hB3⟩
        case measure => simp [intOf]; omega
      · obtain ⟨B, hB'⟩ : ∃ B, Hid (thB t = B) := ⟨_, rfl⟩
        have lB : B.length ≤ 168 := by rw [← hB'.out]; exact thB_len hr.out
        have CB := fun (w' : World) => thing_bytes (B := B) (e := 0) (by show bytesT t = _; rw [bytesT_yes hr.out, hB'.out]) hit w'
        have lAs : (A ++ B).length ≤ 168 * (k + 1) := by rw [List.length_append]; omega
        go_wp2_with fail
        refine (CB _).mono ?_
        rintro x w2 ⟨rfl, hb2⟩
        have hc2 := cellsT_later hc hb2
        have ho2 := owns_on ho hb2
        have hB2 := below_on hb hb2
        clear hb2 hb ho hc
        go_wp2_with fail
        refine (isT_at hr _ hit).mono ?_
        rintro x w3 ⟨rfl, hb3⟩
        have hc3 := cellsT_later hc2 hb3
        have ho3 := owns_on ho2 hb3
        have hB3 := below_on hB2 hb3
        have hs3 := hB3.size
        clear hb3 ho2 hB2 hc2 CB
        go_wp2_with (at_builtin; refine wpList_append_lies _ rfl _ _ 29 rfl w.heap.size 28 j0 zT.v 11 120 Try.underlying29 hi hz0 hz1 hz2 rfl (by decide) _ _ _ rfl (ho3.alloc _) ⟨w3.heap.size, 0, none⟩ 1 1 t.cs rfl rfl (World.news_of_block (heap_alloc_new _ _)) (cs_one t) (by decide) (by unfold maxLen; omega) (by omega) (by simp; omega) (w3.heap.size + 1) (by simp) ?_)
        intro g cap' w5 hown hgrow hat hg5
        go_wp2_with fail
        go_roundw
        case rel =>
          refine ⟨k + 1, M ++ [t], A ++ B, by omega, by go_num, by simp [ByteArray.mk_append_mk], by rw [filter_yes HT.out hr.out, HM.out], by rw [HA.out, List.flatMap_append, ← hB'.out]; simp, lAs, by rw [List.length_append]; simp; omega, ?_, ?_⟩
          · rw [flatT_append, flatT_one, List.length_append]; exact hown
          · exact (hB3.alloc hs3 _).grown hgrow (by simp; omega) (fun k hk => (ho3.lt k hk).1)
        case measure => simp [intOf]; omega
    · rename World => W6
      obtain rfl : k = n := by omega
      have hin : ∀ t ∈ M, isT t = true ∧ inT t := fun t ht => by
        rw [HM.out] at ht
        exact ⟨(List.mem_filter.1 ht).2, i0 t (List.mem_of_mem_take (List.mem_filter.1 ht).1)⟩
      have HI := hid hin
      obtain ⟨m, hm⟩ : ∃ m, Hid (M.length = m) := ⟨_, rfl⟩
      rw [hm.out] at ho lM ⊢
      clear hin HM
      have OW := hid ho
      have Hb := hid hb
      clear ho hb
      go_wp2_with fail
      go_loopw [8, 9] (fun a i wq => ∃ (k z : Nat), k ≤ m ∧ i = .int .i64 k ∧ a = .int .i64 z ∧ z = ((M.take k).flatMap thB).length ∧ z ≤ A.length ∧ Below W6.heap.size W6 wq) (fun _ i _ => m - (intOf i).toNat)
      case atStart => exact ⟨0, 0, by omega, rfl, rfl, by simp, by omega, Below.refl _ _⟩
      case round =>
        obtain ⟨j, z, hj, rfl, rfl, hz, hzA, hbq⟩ := hrel
        have HZ := hid hz
        clear hz
        by_cases hlt2 : j < m
        · have hlt2' : (j : Int) < (m : Int) := by omega
          have hlt20 : (0 : Int) ≤ (j : Int) := by omega
          obtain ⟨t, ht⟩ := get_th M j (by rw [hm.out]; exact hlt2)
          obtain ⟨ht1, ht2⟩ := HI.out t (List.mem_of_getElem? ht)
          have hrd := rows_at ht ht1 ht2
          rw [← HZ.out, ← HA.out] at hrd
          have hsz : z + (thB t).length ≤ A.length := by
            have e := take_flat ht
            have := flat_take_le thB M (j + 1)
            rw [e, List.length_append, ← HZ.out, ← HA.out] at this
            exact this
          have hz2 : z + (thB t).length = ((M.take (j + 1)).flatMap thB).length := by rw [take_flat ht, List.length_append, ← HZ.out]
          obtain ⟨y, hy⟩ : ∃ y, (thB t).length = y := ⟨_, rfl⟩
          rw [hy] at hrd hsz hz2
          have HZ2 := hid hz2
          clear hy hz2 ht1 ht2
          have CR := fun (w' : World) => readcut_at (s := ⟨A.toArray⟩) (hid hrd) (by show A.length ≤ 1000000; omega) w'
          clear hrd
          have rM := hid (row_own (owns_on OW.out hbq) hm.out.symm)
          obtain ⟨b, off, rfl, _⟩ := rM.out.at ht
          have HT := hid ht
          clear ht
          go_wp2_with fail
          refine (CR _).mono ?_
          rintro x w2 ⟨rfl, hb2⟩
          have hbq2 := below_on hbq hb2
          have hs2 := hbq2.size
          have hbq3 := hbq2.alloc hs2 t.o
          have K : Hid ((w2.alloc t.o).heap[w2.heap.size]? = some t.o) := new_at _ _ _ rfl
          have rM3 := (rM.out.later hb2).later (below1 w2 t.o)
          have cT := rM3.grown HT.out
          have cK := grown_cells K.out
          have hfin : ∀ d os, Hid (Below W6.heap.size W6 (Sort.grow (redrawn (w2.alloc t.o) d) os)) := fun d os => below_on hbq3 (below_regrown _ d os)
          have hS : Hid (eqT t t = true) := eqT_self t
          clear hb2 hbq hbq2 hbq3 rM3 rM CR
          unfold Th.o at cT hfin
          go_wp2_with fail
          refine wp_region_quiet_below (by kernel_rfl) (by kernel_rfl) ?_
          repeat (first | go_big_quiet_skip | (go_big_quiet_want; go_big_quiet_op; first | go_big_quiet_on | go_big_quiet_call (exact Calls.regrown_of (calls_val (thing_same _ _ _) (by rw [hS.out])))))
          refine wpQuiet_nil ?_
          intro _ hw'
          obtain ⟨⟨dq, osq⟩, hw''⟩ := hw'
          subst hw''
          have hB := hfin dq osq
          obtain ⟨W8, hW8⟩ : ∃ W8, Sort.grow (redrawn (w2.alloc t.o) dq) osq = W8 := ⟨_, rfl⟩
          unfold Th.o at hW8
          rw [hW8] at hB ⊢
          clear hW8 cT cK hfin
          go_wp2_with fail
          go_roundw
          case rel => exact ⟨j + 1, z + y, by omega, by go_num, by go_num, HZ2.out, hsz, hB.out⟩
          case measure => simp [intOf]; omega
        · obtain rfl : j = m := by omega
          have e : z = A.length := by rw [HZ.out, HA.out, ← hm.out, List.take_length]
          subst e
          go_wp2_with fail
          go_ret
          exact ⟨by simp, below_on Hb.out hbq⟩

theorem thingRows_own : ownKnob Try.prog.godebug = none := by kernel_rfl
theorem thingRows_laidOut : laidOutB Try.prog = true := by kernel_rfl
set_option maxRecDepth 100000 in
theorem thingRows_lifted (os : Os) (started : os.Started) (H : Type) (enc : TypeId × Value → H) :
    ReturnsInHanded {} Try.checked os 7 .any (Rows.thingRowsSpec.pre6 enc Try.prog Try.f7 Rows.thingRowsRow.domain false) (Rows.thingRowsSpec.post enc Try.prog Try.f7 false true false false) := by
  refine returnsInHanded_of_change (C := Try.checked) thingRows_own started (by kernel_rfl) Try.func7
    (ChangeSpec.witness6 (enc := enc) (C := Try.checked) false ⟨#[], #[.slice none 0 0], []⟩ 8 (by kernel_rfl) (by kernel_rfl) (by kernel_rfl) (by kernel_rfl)) ?_
  intro W base args ds gs before hval0 hW hcnd _
  have hval : ∀ (j : Nat) t v, Try.f7.params[j]? = some t → args[j]? = some v → Value.okWide Try.prog W .any base t v := hval0
  have hW' := hW
  obtain ⟨p, q, hA0, hV, rfl, hfz, hnd⟩ := hW
  have hA : DataW.TrodAll enc Try.prog W 0 (fun _ => true) true Try.f7.params.toList args.toList ds p := hA0
  rw [Try.params7] at hA hval
  obtain ⟨v0, vs0, d0, ds0, p0, q0, hargs, rfl, rfl, h0, r0⟩ := trodAll_cons hA
  obtain ⟨rfl, rfl, rfl⟩ := trodAll_nil r0
  obtain rfl : args = #[v0] := by cases args; simp_all
  obtain ⟨rfl, rfl⟩ := trodVars_none hV
  have k0 := h0
  have lt0 : ∀ x ∈ p0, x.block < W.heap.size := by obtain ⟨m, hm⟩ := k0; exact DataW.trod_lt m _ _ _ hm
  obtain ⟨a0, cap0, L0, rfl, i0, r0', c0, m0⟩ := open_ths (hval 0 29 v0 rfl rfl) h0
  clear hA0 hval0
  refine (thingRows_walk W a0 cap0 L0 i0 r0' c0 m0).mono fun e W' ⟨he, bel⟩ => ?_
  subst he
  exact ⟨_, rfl, _, _, _, [], _, [], hW', trodAll_mk1 (shut_bool Try.underlying4 _), (trodAll_cons_mk (Below.trod thingRows_laidOut (by kernel_rfl) (of_decide_eq_true (by kernel_rfl)) k0 bel lt0) trodAll_mk0), rfl, bel.frame _, fun h => by cases h⟩

theorem thingRows_over : Rows.thingRowsRow.holds Try.pinned (OpenSpec.ofChange Rows.thingRowsSpec) :=
  OpenClaim.holds_of_wide 7 Try.f7 rfl rfl rfl rfl rfl rfl rfl ⟨rfl, rfl, rfl, rfl, rfl⟩ rfl rfl rfl rfl rfl (by kernel_rfl) Try.func7 (by kernel_rfl)
    (of_decide_eq_true (by kernel_rfl)) (by unfold Func.isWrapper; first | (rw [if_pos (by decide +kernel)]; kernel_rfl) | (rw [if_neg (by decide +kernel)]; exact ⟨rfl, rfl⟩))
    (fun os started H enc _ => thingRows_lifted os started H enc)

theorem thingRows_holds : Rows.ThingRowsSaid := thingRows_over
#print axioms thingRows_holds
end Go.Proofs.Ytlbbdpkbglkmnaa
