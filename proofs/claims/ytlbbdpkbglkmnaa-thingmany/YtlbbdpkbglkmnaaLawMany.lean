/- ThingMany holds: as many things as there may be are written and read, one more is not, and two that do not rise are refused; the function returns true. -/
import Derived.Test.YtlbbdpkbglkmnaaKnown7
import Derived.Test.YtlbbdpkbglkmnaaThgM
import Derived.ProofKit
import Derived.OpenShut
import Derived.ShutString
import Derived.ChangeOld
import Derived.Below
import Derived.SizedLaws
namespace Go.Proofs.Ytlbbdpkbglkmnaa
open Go.ChangeShapes Go.WideShapes Go.ChangeAt Go.RowKit
open Go.ChangeMaps (open_string shut_string)
set_option linter.unusedVariables false

def mkT (j : Nat) : Th := ⟨2 * (j : Int), (j : Int) % 64, 0, zF, zF, zF, zF⟩
def manyL (k : Nat) : List Th := (List.range k).map mkT
theorem manyL_len (k : Nat) : (manyL k).length = k := by simp [manyL]
theorem manyL_succ (k : Nat) : manyL (k + 1) = manyL k ++ [mkT k] := by simp [manyL, List.range_succ]
theorem manyL_get {k j : Nat} (h : j < k) : (manyL k)[j]? = some (mkT j) := by simp [manyL, h]
theorem zF_in : inF zF := ⟨by decide, by decide, by decide⟩
theorem mkT_in (j : Nat) : inT (mkT j) := ⟨zF_in, zF_in, zF_in, zF_in⟩
theorem manyL_in (k : Nat) : ∀ t ∈ manyL k, inT t := fun t ht => by
  simp only [manyL, List.mem_map] at ht
  obtain ⟨j, _, rfl⟩ := ht
  exact mkT_in j
theorem mkT_is {j : Nat} (h : j ≤ 1000) : isT (mkT j) = true := by
  have h2 : isF zF = true := by decide
  refine isT_yes ⟨by show (0 : Int) ≤ 2 * (j : Int); omega, by show 2 * (j : Int) ≤ 1000000; omega⟩ (by show onB ((j : Int) % 64) 0 = true; simp [onB, inB]; omega) fun k _ => ?_
  match k with
  | 0 => exact h2
  | 1 => exact h2
  | 2 => exact h2
  | k + 3 => exact h2
theorem many_good {k : Nat} (h : k ≤ 200) : good (manyL k) = true := by
  refine good_yes fun j hj => ?_
  rw [manyL_len] at hj
  unfold okT
  rw [getD_of (manyL_get hj), mkT_is (by omega)]
  cases j with
  | zero => rfl
  | succ j =>
    rw [show j + 1 - 1 = j by omega, getD_of (manyL_get (by omega))]
    simp [mkT]
    omega
def swapL (k i : Nat) : List Th := ((manyL k).set i (mkT (i + 1))).set (i + 1) (mkT i)
theorem swapL_len (k i : Nat) : (swapL k i).length = k := by simp [swapL, manyL]
theorem swap_bad {k i : Nat} (hk : k ≤ 200) (hi : i + 1 < k) : allT (swapL k i) = ([], 11) := by
  refine allT_no (k := i + 1) (by rw [swapL_len]; exact hk) (by rw [swapL_len]; exact hi) ?_
  have e1 : (swapL k i)[i + 1]? = some (mkT i) := by
    unfold swapL
    rw [List.getElem?_set_self (by simp [manyL]; omega)]
  have e0 : (swapL k i)[i]? = some (mkT (i + 1)) := by
    unfold swapL
    rw [List.getElem?_set_ne (by omega), List.getElem?_set_self (by simp [manyL]; omega)]
  unfold okT
  rw [getD_of e1, show i + 1 - 1 = i by omega, getD_of e0]
  simp [mkT]
  omega
theorem swapL_in (k i : Nat) : ∀ t ∈ swapL k i, inT t := fun t ht => by
  unfold swapL at ht
  rcases List.mem_or_eq_of_mem_set ht with ht | rfl
  · rcases List.mem_or_eq_of_mem_set ht with ht | rfl
    · exact manyL_in k t ht
    · exact mkT_in _
  · exact mkT_in _
theorem all_len {L : List Th} (hg : good L = true) (hl : L.length ≤ 200) : (put L.length ++ L.flatMap thB).length ≤ 40000 := by
  have h1 := put_length L.length
  have h2 := flat_len thB 168 L (fun t ht => by
    obtain ⟨k, hk, rfl⟩ := List.getElem_of_mem ht
    exact thB_len (rises_take (k := k) (by simp [hk]) hg).1)
  rw [List.length_append]
  omega
def set11 (xs : List Value) (o : Nat) (t : Th) : List Value :=
  ((((((((((xs.set o (.int .i64 t.id)).set (o + 1) (.int .i64 t.x)).set (o + 2) (.int .i64 t.y)).set (o + 3) (.int .i64 t.f0.n)).set (o + 4) (.string t.f0.s)).set (o + 5) (.int .i64 t.f1.n)).set (o + 6) (.string t.f1.s)).set (o + 7) (.int .i64 t.f2.n)).set (o + 8) (.string t.f2.s)).set (o + 9) (.int .i64 t.f3.n)).set (o + 10) (.string t.f3.s)
def setT (W : World) (g o : Nat) (t : Th) : World :=
  ((((((((((W.setCell ⟨g, o, none⟩ (.int .i64 t.id)).setCell ⟨g, o + 1, none⟩ (.int .i64 t.x)).setCell ⟨g, o + 2, none⟩ (.int .i64 t.y)).setCell ⟨g, o + 3, none⟩ (.int .i64 t.f0.n)).setCell ⟨g, o + 4, none⟩ (.string t.f0.s)).setCell ⟨g, o + 5, none⟩ (.int .i64 t.f1.n)).setCell ⟨g, o + 6, none⟩ (.string t.f1.s)).setCell ⟨g, o + 7, none⟩ (.int .i64 t.f2.n)).setCell ⟨g, o + 8, none⟩ (.string t.f2.s)).setCell ⟨g, o + 9, none⟩ (.int .i64 t.f3.n)).setCell ⟨g, o + 10, none⟩ (.string t.f3.s)
theorem setT_owns {W : World} {base g n cap : Nat} {xs : List Value} (h : W.ownsRow base 28 11 (.slice (some ⟨g, 0, none⟩) n cap) n xs) (o : Nat) (t : Th) : (setT W g o t).ownsRow base 28 11 (.slice (some ⟨g, 0, none⟩) n cap) n (set11 xs o t) := by
  unfold setT set11
  exact ((((((((((((h.stored _ _).1.stored _ _).1.stored _ _).1.stored _ _).1.stored _ _).1.stored _ _).1.stored _ _).1.stored _ _).1.stored _ _).1.stored _ _).1.stored _ _).1)
theorem setT_below {B : Nat} {w W : World} {g : Nat} (h : Below B w W) (hg : B ≤ g) (o : Nat) (t : Th) : Below B w (setT W g o t) := by
  unfold setT
  exact (((((((((((h.setCell hg _).setCell hg _).setCell hg _).setCell hg _).setCell hg _).setCell hg _).setCell hg _).setCell hg _).setCell hg _).setCell hg _).setCell hg _)
theorem drew_below (W : World) : Below W.heap.size W W.drew := ⟨rfl, rfl, rfl, Nat.le_refl _, fun _ _ => rfl⟩
theorem set_right (a : Th) (l : List Value) (n : Nat) (v : Value) : (a.cs ++ l).set (11 + n) v = a.cs ++ l.set n v := by
  rw [List.set_append_right (h := by show 11 ≤ 11 + n; omega)]
  have : a.cs.length = 11 := rfl
  rw [this, show 11 + n - 11 = n by omega]
theorem flatT_set (L : List Th) (i : Nat) (t : Th) (h : i < L.length) : set11 (flatT L) (i * 11) t = flatT (L.set i t) := by
  induction L generalizing i with
  | nil => simp at h
  | cons a l ih =>
    cases i with
    | zero => rfl
    | succ i =>
      have := ih i (by simpa using h)
      have e : flatT (a :: l) = a.cs ++ flatT l := rfl
      have e2 : flatT ((a :: l).set (i + 1) t) = a.cs ++ flatT (l.set i t) := rfl
      rw [e, e2, ← this]
      unfold set11
      simp only [show (i + 1) * 11 = 11 + i * 11 by omega, Nat.add_assoc 11, set_right]
set_option maxHeartbeats 4000000 in
set_option maxRecDepth 100000 in
theorem thingMany_walk (w : World) (a0 : Int) (w0 : (Lit.int .u8 a0).wf = true) (a1 : Int) (w1 : (Lit.int .u8 a1).wf = true) : Calls Try.prog 8 #[.int .u8 a0, .int .u8 a1] w fun e w' => e = .returned (.bool true) ∧ Below w.heap.size w w' := by
  obtain ⟨j0, hi, hz0, hz1, hz2⟩ := info_parts Try.infoT
  have b0 := u8_bounds w0
  have b1 := u8_bounds w1
  clear w0 w1
  go_enter Try.func8, Try.ntmps8
  go_wp2_with fail
  refine (known_holds _).mono ?_
  rintro x v1 ⟨rfl, hE⟩
  obtain ⟨K, hK⟩ : ∃ K : Nat, 199 + a0 % 3 = (K : Int) := Int.eq_ofNat_of_zero_le (by omega)
  have k1 : 199 ≤ K := by omega
  have k2 : K ≤ 201 := by omega
  go_wp2_with fail
  go_loopw [6, 7] (fun v i wr => ∃ j : Nat, j ≤ K ∧ i = .int .i64 j ∧ wr.ownsRow w.heap.size 28 11 v j (flatT (manyL j)) ∧ Below w.heap.size w wr) (fun _ i _ => K - (intOf i).toNat)
  case atStart => exact ⟨0, by omega, rfl, World.ownsRow_nil _ _ _ _, hE⟩
  case round =>
    clear hE
    obtain ⟨j, hj, rfl, ho, hb⟩ := hrel
    obtain ⟨p, cap, rfl⟩ := owns_slice ho
    have hs := hb.size
    by_cases hlt : j < K
    · have hlt' : (j : Int) < (K : Int) := by omega
      go_wp2_with (at_builtin; refine wpList_append_lies _ rfl _ _ 29 rfl w.heap.size 28 j0 zT.v 11 120 Try.underlying29 hi hz0 hz1 hz2 rfl (by decide) _ _ _ rfl (ho.alloc _) ⟨wr.heap.size, 0, none⟩ 1 1 (mkT j).cs rfl rfl (World.news_of_block (heap_alloc_new _ _)) (cs_one _) (by decide) (by unfold maxLen; omega) (by omega) (by simp; omega) (wr.heap.size + 1) (by simp) ?_)
      intro g cap' w5 hown hgrow hat hg5
      go_wp2_with fail
      go_roundw
      case rel =>
        refine ⟨j + 1, by omega, by go_num, ?_, ?_⟩
        · rw [manyL_succ, flatT_append, flatT_one]; exact hown
        · exact (hb.alloc hs _).grown hgrow (by simp; omega) (fun k hk => (ho.lt k hk).1)
      case measure => simp [intOf]; omega
    · rename World => W6
      obtain rfl : j = K := by omega
      rcases ho.2 with ⟨_, h0⟩ | ⟨g, cap', cur, hv, hg, hblk, hc1, hc2, hsz, htk⟩
      · omega
      simp only [Value.slice.injEq, true_and] at hv
      obtain ⟨rfl, rfl⟩ := hv
      have hgw := hg
      clear hblk hsz htk hg
      have hc3 : cap ≤ 9223372036854775807 := by unfold maxLen at hc2; omega
      have HO := hid ho
      have row := hid (row_own ho (manyL_len j).symm)
      clear ho
      have lenJ := manyL_len j
      by_cases h201 : 200 < j
      · have h201' : (200 : Int) < (j : Int) := by omega
        have CA := thing_all (hid (allT_large (by rw [lenJ]; exact h201))) row.out (manyL_in j) (by rw [lenJ]; exact hc1) hc2
        rw [lenJ] at CA
        clear lenJ
        go_wp2_with fail
        refine CA.mono ?_
        rintro x v2 ⟨rfl, hb2⟩
        have hE := below_on hb hb2
        clear hb2 hb CA
        go_wp2_with fail
        go_ret
        exact ⟨by simp, hE⟩
      · have h201' : (j : Int) ≤ 200 := by omega
        have h200 : j ≤ 200 := by omega
        have hG := many_good h200
        have hA := allT_yes (L := manyL j) (by omega) (fun k hk => good_at hG hk)
        have hlen := all_len hG (by omega)
        have hB := some_back hG (manyL_in j) (by omega) []
        rw [List.append_nil] at hB
        obtain ⟨S, hS⟩ : ∃ S, put (manyL j).length ++ (manyL j).flatMap thB = S := ⟨_, rfl⟩
        rw [hS] at hA hlen hB
        clear hS hG
        have CA := thing_all (hid hA) row.out (manyL_in j) (by rw [lenJ]; exact hc1) hc2
        rw [lenJ] at CA
        have CS := fun (w' : World) => thing_some (s := ⟨S.toArray⟩) (L := manyL j) (z := S.length) (e := 0) hB (by show S.length ≤ 1000000; omega) w'
        clear hA hB
        obtain ⟨I, hI⟩ : ∃ I : Nat, a1 % ((j : Int) - 1) = (I : Int) := Int.eq_ofNat_of_zero_le (Int.emod_nonneg _ (by omega))
        have hI2 : I + 1 < j := by have := Int.emod_lt_of_pos a1 (show (0 : Int) < (j : Int) - 1 by omega); omega
        clear lenJ row
        go_wp2_with fail
        refine CA.mono ?_
        rintro x v2 ⟨rfl, hb2⟩
        have hE := below_on hb hb2
        have O2 := hid (owns_on HO.out hb2)
        clear hb2 hb CA HO
        go_wp2_with fail
        refine (CS _).mono ?_
        rintro x v3 ⟨v, rfl, ho3, hb3⟩
        replace hE := below_on hE hb3
        have O3 := hid (owns_on O2.out hb3)
        rw [manyL_len] at ho3
        obtain ⟨p3, cap3, rfl⟩ := owns_slice ho3
        clear hb3 CS O2 ho3
        have rw3 := row_own O3.out (manyL_len j).symm
        have d0 : cellsT v3 g (I * 11) (mkT I) := by have := rw3.cells (manyL_get (k := j) (j := I) (by omega)); rwa [Nat.zero_add] at this
        have d1 : cellsT v3 g ((I + 1) * 11) (mkT (I + 1)) := by have := rw3.cells (manyL_get (k := j) (j := I + 1) (by omega)); rwa [Nat.zero_add] at this
        have fz : ∀ i, v3.frozen? ⟨g, i, none⟩ = false := by
          rcases O3.out.2 with ⟨h', _⟩ | ⟨g', cap', cur, h', hb', hg', _⟩
          · simp at h'
          · simp only [Value.slice.injEq, Option.some.injEq, Addr.mk.injEq, and_true, true_and] at h'
            obtain ⟨rfl, rfl⟩ := h'
            exact Go.Joins.unfrozen_of_block hg'
        obtain ⟨T0, hT0⟩ : ∃ T, mkT I = T := ⟨_, rfl⟩
        obtain ⟨T1, hT1⟩ : ∃ T, mkT (I + 1) = T := ⟨_, rfl⟩
        rw [hT0] at d0
        rw [hT1] at d1
        have HT0 := hid hT0
        have HT1 := hid hT1
        clear rw3 hT0 hT1
        have i0 : (0 : Int) ≤ (I : Int) := by omega
        have i1 : (I : Int) < (j : Int) := by omega
        have i2 : (I : Int) + 1 < (j : Int) := by omega
        go_wp2_with fail
        rw [hI]
        go_region
        have e1 : set11 (set11 (flatT (manyL j)) (I * 11) T1) ((I + 1) * 11) T0 = flatT (swapL j I) := by
          rw [← HT0.out, ← HT1.out, flatT_set _ _ _ (by rw [manyL_len]; omega), flatT_set _ _ _ (by rw [List.length_set, manyL_len]; omega)]
          rfl
        have ho9 := owns_on (setT_owns (setT_owns O3.out (I * 11) T1) ((I + 1) * 11) T0) (drew_below _)
        rw [e1] at ho9
        have hE9 := below_on (setT_below (setT_below hE hgw (I * 11) T1) hgw ((I + 1) * 11) T0) (drew_below _)
        obtain ⟨W9, hW9⟩ : ∃ W9, (setT (setT v3 g (I * 11) T1) g ((I + 1) * 11) T0).drew = W9 := ⟨_, rfl⟩
        rw [hW9] at ho9 hE9
        unfold setT at hW9
        rw [hW9]
        clear hW9 e1 d0 d1 fz hE O3 HT0 HT1
        have CA2 := thing_all (hid (swap_bad h200 hI2)) (row_own ho9 (swapL_len j I).symm) (swapL_in j I) (by rw [swapL_len]; exact hc1) hc2
        rw [swapL_len] at CA2
        clear ho9
        go_wp2_with fail
        refine CA2.mono ?_
        rintro x v4 ⟨rfl, hb4⟩
        replace hE9 := below_on hE9 hb4
        clear hb4 CA2
        go_wp2_with fail
        go_ret
        exact ⟨by simp, hE9⟩

theorem thingMany_own : ownKnob Try.prog.godebug = none := by kernel_rfl
theorem thingMany_laidOut : laidOutB Try.prog = true := by kernel_rfl
set_option maxRecDepth 100000 in
theorem thingMany_lifted (os : Os) (started : os.Started) (H : Type) (enc : TypeId × Value → H) :
    ReturnsInHanded {} Try.checked os 8 .any (Rows.thingManySpec.pre6 enc Try.prog Try.f8 Rows.thingManyRow.domain false) (Rows.thingManySpec.post enc Try.prog Try.f8 false true false false) := by
  refine returnsInHanded_of_change (C := Try.checked) thingMany_own started (by kernel_rfl) Try.func8
    (ChangeSpec.witness6 (enc := enc) (C := Try.checked) false ⟨#[], #[.int .u8 0, .int .u8 0], []⟩ 8 (by kernel_rfl) (by kernel_rfl) (by kernel_rfl) (by kernel_rfl)) ?_
  intro W base args ds gs before hval0 hW hcnd _
  have hval : ∀ (j : Nat) t v, Try.f8.params[j]? = some t → args[j]? = some v → Value.okWide Try.prog W .any base t v := hval0
  have hW' := hW
  obtain ⟨p, q, hA0, hV, rfl, hfz, hnd⟩ := hW
  have hA : DataW.TrodAll enc Try.prog W 0 (fun _ => true) true Try.f8.params.toList args.toList ds p := hA0
  rw [Try.params8] at hA hval
  obtain ⟨v0, vs0, d0, ds0, p0, q0, hargs, rfl, rfl, h0, r0⟩ := trodAll_cons hA
  obtain ⟨v1, vs1, d1, ds1, p1, q1, rfl, rfl, rfl, h1, r1⟩ := trodAll_cons r0
  obtain ⟨rfl, rfl, rfl⟩ := trodAll_nil r1
  obtain rfl : args = #[v0, v1] := by cases args; simp_all
  obtain ⟨rfl, rfl⟩ := trodVars_none hV
  have k0 := h0
  have lt0 : ∀ x ∈ p0, x.block < W.heap.size := by obtain ⟨m, hm⟩ := k0; exact DataW.trod_lt m _ _ _ hm
  have k1 := h1
  have lt1 : ∀ x ∈ p1, x.block < W.heap.size := by obtain ⟨m, hm⟩ := k1; exact DataW.trod_lt m _ _ _ hm
  obtain ⟨a0, rfl, rfl, rfl, w0⟩ := open_int Try.underlying5 (hval 0 5 v0 rfl rfl) h0
  obtain ⟨a1, rfl, rfl, rfl, w1⟩ := open_int Try.underlying5 (hval 1 5 v1 rfl rfl) h1
  clear hA0 hval0
  refine (thingMany_walk W a0 w0 a1 w1).mono fun e W' ⟨he, bel⟩ => ?_
  subst he
  exact ⟨_, rfl, _, _, _, [], _, [], hW', trodAll_mk1 (shut_bool Try.underlying4 _), (trodAll_cons_mk (Below.trod thingMany_laidOut (by kernel_rfl) (of_decide_eq_true (by kernel_rfl)) k0 bel lt0) (trodAll_cons_mk (Below.trod thingMany_laidOut (by kernel_rfl) (of_decide_eq_true (by kernel_rfl)) k1 bel lt1) trodAll_mk0)), rfl, bel.frame _, fun h => by cases h⟩

theorem thingMany_over : Rows.thingManyRow.holds Try.pinned (OpenSpec.ofChange Rows.thingManySpec) :=
  OpenClaim.holds_of_wide 8 Try.f8 rfl rfl rfl rfl rfl rfl rfl ⟨rfl, rfl, rfl, rfl, rfl⟩ rfl rfl rfl rfl rfl (by kernel_rfl) Try.func8 (by kernel_rfl)
    (of_decide_eq_true (by kernel_rfl)) (by unfold Func.isWrapper; first | (rw [if_pos (by decide +kernel)]; kernel_rfl) | (rw [if_neg (by decide +kernel)]; exact ⟨rfl, rfl⟩))
    (fun os started H enc _ => thingMany_lifted os started H enc)

theorem thingMany_holds : Rows.ThingManySaid := thingMany_over
#print axioms thingMany_holds
end Go.Proofs.Ytlbbdpkbglkmnaa
