/- For every small number n: a table takes as many things as there may be and no more; behind a drop there is room again. No conditions. -/
import Derived.Test.YtildhbkcpehobaaDoorKnown9
import Derived.Test.YtildhbkcpehobaaDoorLaid
import Derived.Test.YtildhbkcpehobaaDoorCards
import Derived.Test.YtildhbkcpehobaaDoorTie
import Derived.SevenTiedAt
import Derived.ProofKit
import Derived.OpenShut
import Derived.ShutString
import Derived.ChangeOld
import Derived.Below
import Derived.SizedLaws
namespace Go.Proofs.YtildhbkcpehobaaDoor
open Go.ChangeShapes Go.WideShapes Go.ChangeAt Go.RowKit
open Go.ChangeMaps (open_string shut_string)
set_option linter.unusedVariables false

/-- the statement's row of things -/
def FT (k : Nat) : List Th := (List.range k).map fun (i : Nat) => thN (3 * (i : Int)) ((i % 64 : Nat) : Int) ((i / 64 : Nat) : Int)
theorem FT_mem {k : Nat} {a : Th} (h : a ∈ FT k) : ∃ i : Nat, i < k ∧ a.id = 3 * (i : Int) := by
  obtain ⟨i, hi, rfl⟩ := List.mem_map.1 h
  exact ⟨i, List.mem_range.1 hi, rfl⟩
theorem FT_len (k : Nat) : (FT k).length = k := by simp [FT]
theorem ins_end {t : Th} : ∀ {L : List Th}, (∀ a ∈ L, a.id < t.id) → insT t L = L ++ [t]
  | [], _ => rfl
  | a :: r, h => by
    have := h a List.mem_cons_self
    unfold insT
    rw [if_neg (by omega), ins_end (fun b hb => h b (List.mem_cons_of_mem _ hb))]
    rfl
theorem has_not {id : Int} {L : List Th} (h : ∀ a ∈ L, a.id ≠ id) : hasT id L = false := by
  cases e : hasT id L
  · rfl
  · obtain ⟨a, ha, hi⟩ := has_iff.1 e
    exact absurd hi (h a ha)
theorem isT_thN {id x y : Int} (h0 : 0 ≤ id) (h1 : id ≤ 1000000) (h2 : 0 ≤ x) (h3 : x < 64) (h4 : 0 ≤ y) (h5 : y < 64) : isT (thN id x y) = true := by
  have e : isF ⟨0, ⟨#[]⟩⟩ = true := by decide +kernel
  have o : onB x y = true := by rw [onB_iff]; exact ⟨h2, h3, h4, h5⟩
  rw [isT_eq]
  simp only [e, o, Bool.and_true, Bool.and_eq_true, decide_eq_true_eq]
  exact ⟨h0, h1⟩
theorem FT_put {k : Nat} (hk : k < 200) : tpE (thN (3 * (k : Int)) ((k % 64 : Nat) : Int) ((k / 64 : Nat) : Int)) (FT k) = 0 ∧ tpL (thN (3 * (k : Int)) ((k % 64 : Nat) : Int) ((k / 64 : Nat) : Int)) (FT k) = FT (k + 1) := by
  have hi : isT (thN (3 * (k : Int)) ((k % 64 : Nat) : Int) ((k / 64 : Nat) : Int)) = true := isT_thN (by omega) (by omega) (by omega) (by omega) (by omega) (by omega)
  have hh : hasT (thN (3 * (k : Int)) ((k % 64 : Nat) : Int) ((k / 64 : Nat) : Int)).id (FT k) = false := has_not (fun a ha => by obtain ⟨i, h1, h2⟩ := FT_mem ha; rw [h2]; show (3 * (i : Int)) ≠ 3 * (k : Int); omega)
  have e := tpE_ok hi hh (by rw [FT_len]; exact hk)
  refine ⟨e, ?_⟩
  unfold tpL
  rw [if_pos e]
  unfold witT
  rw [out_no hh, ins_end (fun a ha => by obtain ⟨i, h1, h2⟩ := FT_mem ha; rw [h2]; show (3 * (i : Int)) < 3 * (k : Int); omega)]
  unfold FT
  rw [List.range_succ, List.map_append]
  rfl
theorem FT_has {k j : Nat} (h : j < k) : hasT (3 * (j : Int)) (FT k) = true :=
  has_iff.2 ⟨_, List.mem_map.2 ⟨j, List.mem_range.2 h, rfl⟩, rfl⟩
/-- behind them: one more, one set, one dropped, one more -/
theorem full_all {L : List Th} (hG : Good L) (hl : L.length = 200) (h1 : ∀ a ∈ L, a.id ≠ 1) {j : Int} (hj : j ≠ 1) (hj0 : 0 ≤ j) (hj1 : j ≤ 1000) (hh : hasT j L = true) :
    (tpE (thN 1 0 0) L = 16 ∧ tpL (thN 1 0 0) L = L) ∧ ∃ M, tsE (thN j 63 63) L = 0 ∧ tsL (thN j 63 63) L = M ∧ ∃ N, tdE j M = 0 ∧ tdL j M = N ∧ ∃ O, tpE (thN 1 0 0) N = 0 ∧ tpL (thN 1 0 0) N = O ∧ O.length = 200 := by
  have i1 : isT (thN 1 0 0) = true := isT_thN (by decide) (by decide) (by decide) (by decide) (by decide) (by decide)
  have ij : isT (thN j 63 63) = true := isT_thN hj0 (by omega) (by decide) (by decide) (by decide) (by decide)
  have a1 : tpE (thN 1 0 0) L = 16 := tpE_full i1 (has_not h1) (by omega)
  refine ⟨⟨a1, by unfold tpL; rw [a1]; rfl⟩, ?_⟩
  have a2 : tsE (thN j 63 63) L = 0 := by unfold tsE; rw [if_neg (by rw [ij]; simp), if_neg (by rw [show (thN j 63 63).id = j from rfl, hh]; simp)]
  have a3 : tsL (thN j 63 63) L = witT (thN j 63 63) L := by unfold tsL; rw [a2]; rfl
  have g2 := hG.set ij (thN_in j 63 63) hh
  have l2 := wit_length1 (t := thN j 63 63) hG.rise hh
  refine ⟨_, a2, a3, ?_⟩
  have m2 : thN j 63 63 ∈ witT (thN j 63 63) L := wit_mem.2 (.inl rfl)
  have a4 : tdE j (witT (thN j 63 63) L) = 0 := by unfold tdE; rw [has_iff.2 ⟨_, m2, rfl⟩]; rfl
  refine ⟨_, a4, rfl, ?_⟩
  have l3 := out_length1 g2.rise m2
  have hn : hasT (thN 1 0 0).id (tdL j (witT (thN j 63 63) L)) = false := has_not (fun a ha => by
    rcases wit_mem.1 (out_mem.1 ha).1 with rfl | ⟨ha, _⟩
    · exact hj
    · exact h1 a ha)
  have l4 : (tdL j (witT (thN j 63 63) L)).length < 200 := by show (outT (thN j 63 63).id _).length < 200; omega
  have a5 := tpE_ok i1 hn l4
  have a6 : tpL (thN 1 0 0) (tdL j (witT (thN j 63 63) L)) = witT (thN 1 0 0) (tdL j (witT (thN j 63 63) L)) := by unfold tpL; rw [if_pos a5]
  refine ⟨_, a5, a6, ?_⟩
  rw [wit_length0 hn]
  show (outT (thN j 63 63).id _).length + 1 = 200
  omega
set_option maxRecDepth 100000 in
set_option maxHeartbeats 2000000 in
theorem tableFull_walk (w : World) (hL : Masks w) (a0 : Int) (w0 : (Lit.int .u8 a0).wf = true) :
    Calls Tryd.prog 5 #[.int .u8 a0] w fun e w' => e = .returned (.bool true) ∧ Below w.heap.size w w' := by
  obtain ⟨m, rfl, hm⟩ := nat_u8 w0
  clear w0
  have CK := known9 w hL
  have HM := hid hL
  clear hL
  go_enter Tryd.func5, Tryd.ntmps5
  go_wp2_with fail
  refine CK.mono ?_
  rintro z W0 ⟨rfl, hb0⟩
  have HM0 := hid (HM.out.below hb0)
  clear CK HM
  go_wp2_with fail
  with_reducible refine (tk_new HM0.out).mono ?_
  rintro z W1 ⟨tb, rfl, T1⟩
  clear HM0
  go_wp2_with fail
  go_loopw [4] (fun i wr => ∃ k : Nat, k ≤ 200 ∧ i = .int .i64 (k : Nat) ∧ TK W0 wr tb (FT k) []) (fun i _ => 200 - (intOf i).toNat)
  case atStart => exact ⟨0, by omega, rfl, T1⟩
  case round =>
    obtain ⟨k, hk, rfl, T⟩ := hrel
    clear T1
    by_cases hlt : k < 200
    · have hlt' : (k : Int) < 200 := by omega
      obtain ⟨f1, f2⟩ := FT_put hlt
      have C := tk_put T (thN_in _ _ _) (hid f1) (hid f2)
      clear f1 f2
      have e1 : (k : Int).tmod 64 = ((k % 64 : Nat) : Int) := by rw [Int.tmod_eq_emod_of_nonneg (by omega)]; omega
      have e2 : (k : Int).tdiv 64 = ((k / 64 : Nat) : Int) := by rw [Int.tdiv_eq_ediv_of_nonneg (by omega)]; omega
      obtain ⟨x, hx⟩ : ∃ x : Nat, k % 64 = x := ⟨_, rfl⟩
      have hyb : k / 64 < 4 := by omega
      obtain ⟨y, hy⟩ : ∃ y : Nat, k / 64 = y := ⟨_, rfl⟩
      rw [hx] at C e1
      rw [hy] at C e2 hyb
      clear hx hy
      go_wp2_with fail
      with_reducible refine C.mono ?_
      rintro z W2 ⟨rfl, T2, -⟩
      clear C T
      go_wp2_with fail
      go_roundw
      case rel => exact ⟨k + 1, by omega, by go_num, T2⟩
      case measure => simp [intOf]; omega
    · obtain rfl : k = 200 := by omega
      have hlt' : ¬ ((200 : Nat) : Int) < 200 := by omega
      have e1 : (m : Int).tmod 200 = ((m % 200 : Nat) : Int) := by rw [Int.tmod_eq_emod_of_nonneg (by omega)]; omega
      have hml : m % 200 < 200 := Nat.mod_lt _ (by decide)
      obtain ⟨j, hj⟩ : ∃ j : Nat, m % 200 = j := ⟨_, rfl⟩
      rw [hj] at e1 hml
      clear hj
      obtain ⟨⟨f1, f2⟩, M, f3, f4, N, f5, f6, O, f7, f8, f9⟩ := full_all T.good (FT_len 200) (fun a ha => by obtain ⟨i, _, h2⟩ := FT_mem ha; omega) (j := 3 * (j : Int)) (by omega) (by omega) (by omega) (FT_has hml)
      have C1 := tk_put T (thN_in 1 0 0) (hid f1) (hid f2)
      have F3 := hid f3
      have F4 := hid f4
      have F5 := hid f5
      have F6 := hid f6
      have F7 := hid f7
      have F8 := hid f8
      have F9 := hid f9
      clear f1 f2 f3 f4 f5 f6 f7 f8 f9
      go_wp2_with fail
      with_reducible refine C1.mono ?_
      rintro z W2 ⟨rfl, T2, -⟩
      clear C1 T
      go_wp2_with fail
      with_reducible refine (tk_set T2 (thN_in _ _ _) F3 F4).mono ?_
      rintro z W3 ⟨rfl, T3, -⟩
      clear T2
      go_wp2_with fail
      with_reducible refine (tk_drop T3 (inI_small (by omega) (by omega)) F5 F6).mono ?_
      rintro z W4 ⟨rfl, T4, -⟩
      clear T3
      go_wp2_with fail
      with_reducible refine (tk_put T4 (thN_in 1 0 0) F7 F8).mono ?_
      rintro z W5 ⟨rfl, T5, -⟩
      clear T4
      go_wp2_with fail
      with_reducible refine (tk_len T5 F9).mono ?_
      rintro z W6 ⟨rfl, hw⟩
      rw [hw]
      clear hw
      have hB := T5.below
      clear T5
      go_wp2
      go_ret
      exact ⟨rfl, below_on hb0 hB⟩

theorem tableFull_own : ownKnob Tryd.prog.godebug = none := by kernel_rfl
theorem tableFull_laidOut : laidOutB Tryd.prog = true := by kernel_rfl
set_option maxRecDepth 100000 in
theorem tableFull_lifted (os : Os) (started : os.Started) (H : Type) (enc : TypeId × Value → H) :
    ReturnsInHanded {} Tryd.checked os 5 .any (fun w args => (Rows.tableFullSpec.pre enc Tryd.prog Tryd.f5 [] false w args ∧ laidMetH Tryd.prog laids w) ∧ sizedMet enc Tryd.prog Tryd.f5 (OpenSpec.ofChange Rows.tableFullSpec) false w args) (Rows.tableFullSpec.post enc Tryd.prog Tryd.f5 false true false false) := by
  refine returnsInHanded_of_change_and (C := Tryd.checked) (X := fun w _ => laidMetH Tryd.prog laids w) (fun _ _ _ hh h => h.of_heap hh) own_knob started (by kernel_rfl) Tryd.func5
    (ChangeSpec.witness_shaped (enc := enc) (C := Tryd.checked) (os := os) (X := fun w _ => laidMetH Tryd.prog laids w) false (World.laidAll Tryd.prog os laids) #[.int .u8 0] 8 rfl (World.shaped_of_ZipB (by kernel_rfl) (by kernel_rfl)) (by kernel_rfl) (by kernel_rfl) (by kernel_rfl) (door_met os _)) ?_
  intro W base args ds gs before hval0 hW _ _ hL _
  have hval : ∀ (j : Nat) t v, Tryd.f5.params[j]? = some t → args[j]? = some v → Value.okWide Tryd.prog W .any base t v := hval0
  have hW' := hW
  obtain ⟨p, q, hA0, hV, rfl, hfz, hnd⟩ := hW
  have hA : DataW.TrodAll enc Tryd.prog W 0 (fun _ => true) true Tryd.f5.params.toList args.toList ds p := hA0
  rw [Tryd.params5] at hA hval
  obtain ⟨v0, vs0, d0, ds0, p0, q0, hargs, rfl, rfl, h0, r0⟩ := trodAll_cons hA
  obtain ⟨rfl, rfl, rfl⟩ := trodAll_nil r0
  obtain rfl : args = #[v0] := by cases args; simp_all
  obtain ⟨rfl, rfl⟩ := trodVars_none hV
  have k0 := h0
  have lt0 : ∀ x ∈ p0, x.block < W.heap.size := by obtain ⟨m, hm⟩ := k0; exact DataW.trod_lt m _ _ _ hm
  obtain ⟨a0, rfl, rfl, rfl, w0⟩ := open_int Tryd.underlying5 (hval 0 5 v0 rfl rfl) h0
  clear hA0 hval0
  refine (tableFull_walk W (of_laid hL) a0 w0).mono fun e W' ⟨he, bel⟩ => ?_
  subst he
  exact ⟨_, rfl, _, _, _, [], _, [], hW', trodAll_mk1 (shut_bool Tryd.underlying4 _), (trodAll_cons_mk (Below.trod tableFull_laidOut (by kernel_rfl) (of_decide_eq_true (by kernel_rfl)) k0 bel lt0) trodAll_mk0), rfl, bel.frame _, fun h => by cases h⟩

theorem tableFull_over : Rows.tableFullRow.holds Tryd.pinned (OpenSpec.ofChange Rows.tableFullSpec) :=
  OpenClaim.holds_of_wide 5 Tryd.f5 rfl rfl rfl rfl rfl rfl rfl ⟨rfl, rfl, rfl, rfl, rfl⟩ rfl rfl rfl rfl rfl (by kernel_rfl) Tryd.func5 (by kernel_rfl)
    (of_decide_eq_true (by kernel_rfl)) (by unfold Func.isWrapper; first | (rw [if_pos (by decide +kernel)]; kernel_rfl) | (rw [if_neg (by decide +kernel)]; exact ⟨rfl, rfl⟩))
    (fun os started H enc _ => tableFull_lifted os started H enc)

theorem tableFull_holds : Rows.TableFullCardSaid :=
  Claim7.holds_tied_plain_at .later [] [.data] true (true, "4d1cb17433c6e5fb01383cd22658f0a672d33ddc86b52a01092985a336b79d3d") true
    tableFull_over (fun _ h => by cases h) (by kernel_rfl) (fun _ h => by cases h) tableFull_row_tie rfl ⟨rfl, rfl⟩ (by kernel_rfl) rfl
    (fun f fn hf hfn => by
      obtain rfl : f = 5 := Option.some.inj ((show Tryd.prog.funcNamed "vedette/vedettelaw9.TableFull" = some 5 by kernel_rfl).symm.trans hf) |>.symm
      obtain rfl : fn = Tryd.f5 := (Option.some.inj (Tryd.func5.symm.trans hfn)).symm
      exact ⟨by kernel_rfl, fun j t ht => by
        rw [Tryd.params5] at ht
        have hm : t ∈ [5] := by simpa using Array.mem_of_getElem? ht
        have hall : ([5].all fun u => !Tryd.prog.wantsStandIn u) = true := by kernel_rfl
        exact (show Tryd.prog.wantsStandIn t = false by simpa using List.all_eq_true.1 hall t hm)⟩)
    (by kernel_rfl)
#print axioms tableFull_holds
end Go.Proofs.YtildhbkcpehobaaDoor
