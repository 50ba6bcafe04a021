/- CmdRows: for every row of at most 20 commands whose texts are not above 40 bytes: the bytes of those that are commands, one behind the other, are read in their order, and no byte is left. No condition beyond the statement's own. -/
import Derived.Test.YtfcofhlcainanaaCmRw
import Derived.ProofKit
import Derived.OpenShut
import Derived.ShutString
import Derived.ChangeOld
import Derived.Below
import Derived.SizedLaws
namespace Go.Proofs.Ytfcofhlcainanaa
open Go.ChangeShapes Go.WideShapes Go.ChangeAt Go.RowKit
open Go.ChangeMaps (open_string shut_string)
set_option linter.unusedVariables false

def tellC (c : Cm) : List UInt8 := toldL (partsP c.kd) c
theorem Try.info30 : (Try.prog.info? 30).map (fun i => (i.zero, i.size, i.bytes)) = some (some zeroV, 22, 216) := by kernel_rfl
theorem cs_one (t : Cm) : ∀ u ∈ t.cs, u.oneCell' = true := by
  intro u hu
  simp [Cm.cs] at hu
  rcases hu with rfl | rfl | rfl | rfl | rfl | rfl | rfl | rfl | rfl | rfl | rfl | rfl | rfl | rfl | rfl | rfl | rfl | rfl | rfl | rfl | rfl | rfl <;> rfl
theorem tell_len {c : Cm} (h : isC c = true) : (tellC c).length ≤ 288 := by
  have := toldL_len c _ (isC_iff.1 h).1
  have := parts_len c.kd
  unfold tellC
  omega
theorem m_owns {W : World} {base : Nat} {v : Value} {n : Nat} {xs : List Value} (h : W.ownsRow base 30 22 v n xs) : ∃ p cap, v = .slice p n cap := owns_slice h
set_option maxRecDepth 100000 in
set_option maxHeartbeats 8000000 in
theorem cmdRows_walk (w : World) (a0 : Option Addr) (cap0 : Nat) (L0 : List Cm) (i0 : ∀ c ∈ L0, inC c) (r0 : RowM w a0 L0) (c0 : L0.length ≤ cap0) (m0 : cap0 ≤ maxLen) :
    Calls Try.prog 7 #[.slice a0 L0.length cap0] w fun e w' => e = .returned (.bool true) ∧ Below w.heap.size w w' := by
  obtain ⟨ti, hi, hz0, hz1, hz2⟩ := info_parts Try.info30
  obtain ⟨n, hn⟩ : ∃ n, Hid (L0.length = n) := ⟨_, rfl⟩
  have HR := hid r0
  have HI := hid i0
  rw [hn.out]
  clear r0 i0
  go_enter Try.func7, Try.ntmps7
  go_wp2_with fail
  refine (known_holds _).mono ?_
  rintro x W1 ⟨rfl, hb⟩
  have hE := hb
  clear hb
  by_cases h20 : 20 < n
  · have h20' : (20 : Int) < (n : Int) := by omega
    go_wp2_with fail
    go_ret
    exact ⟨rfl, hE⟩
  have h20' : ¬ (20 : Int) < (n : Int) := by omega
  go_wp2_with fail
  go_loopw [3, 4, 5] (fun s m i wr => ∃ (k : Nat) (M : List Cm) (A : List UInt8), k ≤ n ∧ i = .int .i64 k ∧ s = .string ⟨A.toArray⟩ ∧ wr.ownsRow w.heap.size 30 22 m M.length (flatM M) ∧ M.flatMap tellC = A ∧ (∀ c ∈ M, isC c = true ∧ fitC c) ∧ M.length ≤ k ∧ A.length ≤ 288 * k ∧ Below w.heap.size w wr) (fun _ _ i _ => n - (intOf i).toNat)
  case atStart => exact ⟨0, [], [], by omega, rfl, rfl, World.ownsRow_nil _ _ _ _, rfl, by simp, by simp, by simp, hE⟩
  case round =>
    obtain ⟨k, M, A, hk, rfl, rfl, ho, hA, hM, hMk, hAk, hb⟩ := hrel
    have HA := hid hA
    have HM := hid hM
    clear hA hM hE
    obtain ⟨mp, mc, rfl⟩ := m_owns ho
    by_cases hlt : k < n
    · have hlt' : (k : Int) < (n : Int) := by omega
      obtain ⟨a, ha⟩ : ∃ a, L0[k]? = some a := ⟨L0[k]'(by rw [hn.out]; exact hlt), by simp⟩
      obtain ⟨rb, ro, rfl, hrg⟩ := (HR.out.later hb).at ha
      have hfa := in_fit (HI.out a (List.mem_of_getElem? ha))
      have HG := hid hrg
      have HAt := hid ha
      obtain ⟨q, hq⟩ : ∃ q, Hid (fewC a = q) := ⟨_, rfl⟩
      have C1 := fun w => few_cmd w a (fit_sized hfa)
      rw [hq.out] at C1
      clear hrg ha
      have hsz := hb.size
      go_wp2_with (with_reducible refine wpList_load_mid_cm rfl (.tmp 26) rfl rfl HG.out ?_)
      refine (C1 _).mono ?_
      rintro x W2 ⟨rfl, hb2⟩
      replace HG := hid (range_on HG.out hb2)
      have ho2 := owns_on ho hb2
      have hB2 := below_on hb hb2
      have hs2 := hB2.size
      clear hb hb2 ho C1 hsz
      cases q
      · go_wp2_with fail
        go_ret
        exact ⟨rfl, hB2⟩
      cases his : isC a
      · have C2 := fun w => bytes_no w a (fit_sized hfa) his
        go_wp2_with (with_reducible refine wpList_load_mid_cm rfl (.tmp 33) rfl rfl HG.out ?_)
        refine (C2 _).mono ?_
        rintro x W3 ⟨rfl, hb3⟩
        have ho3 := owns_on ho2 hb3
        have hB3 := below_on hB2 hb3
        clear hb3 ho2 hB2 C2
        go_wp2_with fail
        go_roundw
        case rel => exact ⟨k + 1, M, A, by omega, by go_num, rfl, ho3, HA.out, HM.out, by omega, by omega, hB3⟩
        case measure => simp [intOf]; omega
      · obtain ⟨T, hT⟩ : ∃ T, Hid (tellC a = T) := ⟨_, rfl⟩
        have lT : T.length ≤ 288 := by rw [← hT.out]; exact tell_len his
        have C2 := fun w => bytes_yes w a hfa his
        rw [show toldL (partsP a.kd) a = T from hT.out] at C2
        go_wp2_with (with_reducible refine wpList_load_mid_cm rfl (.tmp 33) rfl rfl HG.out ?_)
        refine (C2 _).mono ?_
        rintro x W3 ⟨rfl, hb3⟩
        replace HG := hid (range_on HG.out hb3)
        have ho3 := owns_on ho2 hb3
        have hB3 := below_on hB2 hb3
        have hs3 := hB3.size
        clear hb3 ho2 hB2 C2
        go_wp2_with (first
          | with_reducible refine wpList_load_mid_cm rfl (.tmp 46) rfl rfl HG.out ?_
          | (at_builtin; refine wpList_append_lies _ rfl _ _ 44 rfl w.heap.size 30 ti zeroV 22 216 Try.underlying44 hi hz0 hz1 hz2 rfl (by decide) _ _ _ rfl (ho3.alloc _) ⟨W3.heap.size, 0, none⟩ 1 1 a.cs rfl rfl (World.news_of_block (heap_alloc_new _ _)) (cs_one a) (by decide) (by unfold maxLen; omega) (by omega) (by simp; omega) (W3.heap.size + 1) (by simp) ?_
             intro g3 cp3 W4 hown hgrow hat hg3))
        go_roundw
        case rel =>
          refine ⟨k + 1, M ++ [a], A ++ T, by omega, by go_num, by rw [ByteArray.mk_append_mk], ?_, ?_, ?_, ?_, ?_, ?_⟩
          · rw [flatM_append, flatM_one, List.length_append]; exact hown
          · rw [List.flatMap_append, HA.out, ← hT.out]; simp
          · intro c hc
            rcases List.mem_append.1 hc with h | h
            · exact HM.out c h
            · simp only [List.mem_singleton] at h
              subst h
              exact ⟨his, hfa⟩
          · rw [List.length_append]; simp; omega
          · rw [List.length_append]; omega
          · exact (hB3.alloc (by omega) _).grown hgrow (by simp; omega) (fun k hk => by have := (ho3.lt k hk).1; omega)
        case measure => simp [intOf]; omega
    · obtain rfl : k = n := by omega
      have hlt' : ¬ (k : Int) < (k : Int) := by omega
      have hrow := rowM_own ho rfl
      have lM : M.length ≤ 20 := by omega
      obtain ⟨S, hS⟩ : ∃ S : ByteArray, Hid ((⟨A.toArray⟩ : ByteArray) = S) := ⟨_, rfl⟩
      have sS : S.size = A.length := by rw [← hS.out]; rfl
      have dS : S.data.toList = A := by rw [← hS.out]
      obtain ⟨m, hm⟩ : ∃ m, Hid (M.length = m) := ⟨_, rfl⟩
      have HW := hid hrow
      rw [hS.out]
      rw [hm.out] at lM ⊢
      clear ho hrow
      go_wp2_with fail
      have hsz := hb.size
      obtain ⟨W5, hW5⟩ : ∃ W, wr = W := ⟨_, rfl⟩
      rw [hW5] at HW hb hsz ⊢
      clear hW5 wr
      go_loopw [8, 9] (fun at_ i wr => ∃ (j z : Nat), j ≤ m ∧ i = .int .i64 j ∧ at_ = .int .i64 z ∧ z = ((M.take j).flatMap tellC).length ∧ RowM wr mp M ∧ Below w.heap.size w wr) (fun _ i _ => m - (intOf i).toNat)
      case atStart => exact ⟨0, 0, by omega, rfl, rfl, rfl, HW.out, hb⟩
      case round =>
        obtain ⟨j, z, hj, rfl, rfl, hz, hr, hb⟩ := hrel
        have HZ := hid hz
        have HW := hid hr
        have hzA : z ≤ A.length := by rw [hz, ← HA.out]; exact flat_take_le tellC M j
        clear hr hz hsz
        by_cases hlt : j < m
        · have hlt' : (j : Int) < (m : Int) := by omega
          obtain ⟨a, ha⟩ : ∃ a, M[j]? = some a := ⟨M[j]'(by rw [hm.out]; exact hlt), by simp⟩
          obtain ⟨rb, ro, rfl, hrg⟩ := HW.out.at ha
          obtain ⟨his, hfa⟩ := HM.out a (List.mem_of_getElem? ha)
          have HG := hid hrg
          have HAt := hid ha
          have hcut : A.drop z = tellC a ++ ((M.drop (j + 1)).flatMap tellC) := by
            rw [HZ.out, ← HA.out]
            have := flat_drop tellC M j (by rw [hm.out]; exact hlt) []
            rw [List.append_nil, List.append_nil] at this
            have e9 : M[j]'(by rw [hm.out]; exact hlt) = a := (List.getElem?_eq_some_iff.1 ha).2
            rw [e9] at this
            exact this
          obtain ⟨T, hT⟩ : ∃ T, Hid (tellC a = T) := ⟨_, rfl⟩
          have hT1 : 0 < T.length := by rw [← hT.out]; exact told_pos a
          have hT2 : z + T.length ≤ A.length := by
            have := congrArg List.length hcut
            rw [List.length_drop, List.length_append, hT.out] at this
            omega
          have hnx : z + T.length = ((M.take (j + 1)).flatMap tellC).length := by
            rw [flat_succ tellC M j (by rw [hm.out]; exact hlt), List.length_append, ← HZ.out, (List.getElem?_eq_some_iff.1 ha).2, hT.out]
          have C1 := fun w => cmd_read (s := S.extract z S.size) (cc := a) (zz := T.length) (ee := 0) (by
            show readC _ = _
            rw [cut_data, dS, hcut, ← hT.out]
            exact read_back his (fit_nums hfa) _) (by rw [ByteArray.size_extract]; omega) w
          rw [sS] at C1
          have HNX := hid hnx
          have hQ := equal_cm_at (eqC_self a)
          have j1 : (z : Int) ≤ (A.length : Int) := by omega
          have j2 : (0 : Int) ≤ (z : Int) := by omega
          have j3 : (0 : Int) ≤ (j : Int) := by omega
          have j4 : decide ((T.length : Int) < 1) = false := by simp; omega
          clear hrg ha hcut hnx
          go_wp2_with fail
          refine (C1 _).mono ?_
          rintro x W6 ⟨rfl, hb6⟩
          have hB6 := below_on hb hb6
          have hs6 := hB6.size
          have HW6 := hid (HW.out.later hb6)
          have HG6 := hid (range_on HG.out hb6)
          clear hb6 hb HW HG C1
          go_upto_region 21 with ((with_reducible refine wpList_store_cm rfl (.tmp 10) (.tmp 61) rfl rfl rfl (new_zero _) ?_); intro W7 h7 b7 s7)
          have K7 := hid h7
          have hB7 := b7.below (hB6.alloc hs6 _) hs6
          have hbb : Below W6.heap.size W6 W7 := b7.below (below1 _ _) (Nat.le_refl _)
          have HW7 := hid (HW6.out.later hbb)
          have HG7 := hid (range_on HG6.out hbb)
          clear h7 b7 s7 hbb HW6 HG6 hB6
          have hG1 : ∀ W', (∃ p : Regrown, W' = Sort.grow (redrawn W7 p.d) p.os) → W'.heap[W6.heap.size]? = some a.o := fun W' ⟨p, e⟩ => by rw [e]; exact var_on (below_regrown W7 p.d p.os) K7.out (at_lt K7.out)
          have hG2 : ∀ W', (∃ p : Regrown, W' = Sort.grow (redrawn W7 p.d) p.os) → W'.rangeAt rb (ro + j * 22) a.cs := fun W' ⟨p, e⟩ => by rw [e]; exact range_on HG7.out (below_regrown W7 p.d p.os)
          refine wp_region_quiet_below (by kernel_rfl) (by kernel_rfl) ?_
          repeat (first | go_big_quiet_skip | ((with_reducible refine quiet_load_cm ?_ (.tmp 10) rfl rfl hG1 ?_); (· rfl); simp only [Act.put, List.setIfInBounds_toArray, List.set_cons_zero, List.set_cons_succ]) | ((with_reducible refine quiet_load_mid_cm ?_ (.tmp 70) rfl rfl hG2 ?_); (· rfl); simp only [Act.put, List.setIfInBounds_toArray, List.set_cons_zero, List.set_cons_succ]) | (go_big_quiet_want; go_big_quiet_op; go_big_quiet_on))
          refine wpQuiet_nil ?_
          intro _ hw'
          obtain ⟨⟨dq, osq⟩, hw''⟩ := hw'
          subst hw''
          have hb8 := below_regrown W7 dq osq
          have HW8 := hid (HW7.out.later hb8)
          have hB8 := below_on hB7 hb8
          clear hb8 hG1 hG2 K7
          go_wp2_with fail
          go_roundw
          case rel => exact ⟨j + 1, z + T.length, by omega, by go_num, by go_num, HNX.out, HW8.out, hB8⟩
          case measure => simp [intOf]; omega
        · obtain rfl : j = m := by omega
          have hlt' : ¬ (j : Int) < (j : Int) := by omega
          have hzz : z = A.length := by rw [HZ.out, ← HA.out, List.take_of_length_le (by rw [hm.out]; omega)]
          subst hzz
          go_wp2_with fail
          go_ret
          exact ⟨rfl, hb⟩

theorem cmdRows_own : ownKnob Try.prog.godebug = none := by kernel_rfl
theorem cmdRows_laidOut : laidOutB Try.prog = true := by kernel_rfl
set_option maxRecDepth 100000 in
theorem cmdRows_lifted (os : Os) (started : os.Started) (H : Type) (enc : TypeId × Value → H) :
    ReturnsInHanded {} Try.checked os 7 .any (Rows.cmdRowsSpec.pre6 enc Try.prog Try.f7 Rows.cmdRowsRow.domain false) (Rows.cmdRowsSpec.post enc Try.prog Try.f7 false true false false) := by
  refine returnsInHanded_of_change (C := Try.checked) cmdRows_own started (by kernel_rfl) Try.func7
    (ChangeSpec.witness6 (enc := enc) (C := Try.checked) false ⟨#[], #[.slice none 0 0], []⟩ 8 (by kernel_rfl) (by kernel_rfl) (by kernel_rfl) (by kernel_rfl)) ?_
  intro W base args ds gs before hval0 hW hcnd _
  have hval : ∀ (j : Nat) t v, Try.f7.params[j]? = some t → args[j]? = some v → Value.okWide Try.prog W .any base t v := hval0
  have hW' := hW
  obtain ⟨p, q, hA0, hV, rfl, hfz, hnd⟩ := hW
  have hA : DataW.TrodAll enc Try.prog W 0 (fun _ => true) true Try.f7.params.toList args.toList ds p := hA0
  rw [Try.params7] at hA hval
  obtain ⟨v0, vs0, d0, ds0, p0, q0, hargs, rfl, rfl, h0, r0⟩ := trodAll_cons hA
  obtain ⟨rfl, rfl, rfl⟩ := trodAll_nil r0
  obtain rfl : args = #[v0] := by cases args; simp_all
  obtain ⟨rfl, rfl⟩ := trodVars_none hV
  have k0 := h0
  have lt0 : ∀ x ∈ p0, x.block < W.heap.size := by obtain ⟨m, hm⟩ := k0; exact DataW.trod_lt m _ _ _ hm
  obtain ⟨a0, cap0, L0, rfl, i0, r0', c0, m0⟩ := open_cms (hval 0 44 v0 rfl rfl) h0
  clear hA0 hval0
  refine (cmdRows_walk W a0 cap0 L0 i0 r0' c0 m0).mono fun e W' ⟨he, bel⟩ => ?_
  subst he
  exact ⟨_, rfl, _, _, _, [], _, [], hW', trodAll_mk1 (shut_bool Try.underlying4 _), (trodAll_cons_mk (Below.trod cmdRows_laidOut (by kernel_rfl) (of_decide_eq_true (by kernel_rfl)) k0 bel lt0) trodAll_mk0), rfl, bel.frame _, fun h => by cases h⟩

theorem cmdRows_over : Rows.cmdRowsRow.holds Try.pinned (OpenSpec.ofChange Rows.cmdRowsSpec) :=
  OpenClaim.holds_of_wide 7 Try.f7 rfl rfl rfl rfl rfl rfl rfl ⟨rfl, rfl, rfl, rfl, rfl⟩ rfl rfl rfl rfl rfl (by kernel_rfl) Try.func7 (by kernel_rfl)
    (of_decide_eq_true (by kernel_rfl)) (by unfold Func.isWrapper; first | (rw [if_pos (by decide +kernel)]; kernel_rfl) | (rw [if_neg (by decide +kernel)]; exact ⟨rfl, rfl⟩))
    (fun os started H enc _ => cmdRows_lifted os started H enc)

theorem cmdRows_holds : Rows.CmdRowsSaid := cmdRows_over
#print axioms cmdRows_holds
end Go.Proofs.Ytfcofhlcainanaa
