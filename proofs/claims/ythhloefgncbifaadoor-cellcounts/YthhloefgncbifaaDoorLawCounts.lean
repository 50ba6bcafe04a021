/- CellCounts holds (tied card): a rectangle covers as many cells as its sides cross, rising; an empty one none; the package's table of masks starts as the program's text lays it. -/
import Derived.Test.YthhloefgncbifaaDoorKnown5
import Derived.Test.YthhloefgncbifaaDoorCellsQ
import Derived.Test.YthhloefgncbifaaDoorLaid
import Derived.Test.YthhloefgncbifaaDoorCards
import Derived.Test.YthhloefgncbifaaDoorTie
import Derived.SevenTiedAt
import Derived.ProofKit
import Derived.OpenShut
import Derived.ShutString
import Derived.ChangeOld
import Derived.Below
import Derived.SizedLaws
namespace Go.Proofs.YthhloefgncbifaaDoor
open Go.ChangeShapes Go.WideShapes Go.ChangeAt Go.RowKit
open Go.ChangeMaps (open_string shut_string)
set_option linter.unusedVariables false

set_option maxRecDepth 100000 in
set_option maxHeartbeats 2000000 in
theorem cellCounts_walk (w : World) (hL : Masks w) (a0 : Int) (w0 : (Lit.int .u8 a0).wf = true) (a1 : Int) (w1 : (Lit.int .u8 a1).wf = true) (a2 : Int) (w2 : (Lit.int .u8 a2).wf = true) (a3 : Int) (w3 : (Lit.int .u8 a3).wf = true) :
    Calls Tryd.prog 6 #[.int .u8 a0, .int .u8 a1, .int .u8 a2, .int .u8 a3] w fun e w' => e = .returned (.bool true) ∧ Below w.heap.size w w' := by
  obtain ⟨x, rfl, hx⟩ := nat_u8 w0
  obtain ⟨y, rfl, hy⟩ := nat_u8 w1
  obtain ⟨s, rfl, hs⟩ := nat_u8 w2
  obtain ⟨t, rfl, ht⟩ := nat_u8 w3
  clear w0 w1 w2 w3
  have HL : Hid (Masks w) := hL
  clear hL
  obtain ⟨a, ha⟩ : ∃ x' : Nat, Hid (x' = x % 64) := ⟨_, rfl⟩
  have ha64 : a < 64 := by have := ha.out; omega
  have ha0 : (x : Int) % 64 = a := by have := ha.out; omega
  obtain ⟨b, hb⟩ : ∃ x' : Nat, Hid (x' = y % 64) := ⟨_, rfl⟩
  have hb64 : b < 64 := by have := hb.out; omega
  have hb0 : (y : Int) % 64 = b := by have := hb.out; omega
  obtain ⟨c, hc⟩ : ∃ x' : Nat, Hid (x' = s % 64) := ⟨_, rfl⟩
  have hc64 : c < 64 := by have := hc.out; omega
  have hc0 : (s : Int) % 64 = c := by have := hc.out; omega
  obtain ⟨d, hd⟩ : ∃ x' : Nat, Hid (x' = t % 64) := ⟨_, rfl⟩
  have hd64 : d < 64 := by have := hd.out; omega
  have hd0 : (t : Int) % 64 = d := by have := hd.out; omega
  clear ha hb hc hd hx hy hs ht
  obtain ⟨u, hu⟩ : ∃ u : Int, min ((a : Int) + c + 1) 64 = u := ⟨_, rfl⟩
  obtain ⟨v, hv⟩ : ∃ v : Int, min ((b : Int) + d + 1) 64 = v := ⟨_, rfl⟩
  have hu1 : (a : Int) < u := by omega
  have hu2 : u ≤ 64 := by omega
  have hv1 : (b : Int) < v := by omega
  have hv2 : v ≤ 64 := by omega
  have e1 : (u - 1).tdiv 16 = (u - 1) / 16 := Int.tdiv_eq_ediv_of_nonneg (by omega)
  have e2 : (v - 1).tdiv 16 = (v - 1) / 16 := Int.tdiv_eq_ediv_of_nonneg (by omega)
  have e3 : (a : Int).tdiv 16 = (a : Int) / 16 := Int.tdiv_eq_ediv_of_nonneg (by omega)
  have e4 : (b : Int).tdiv 16 = (b : Int) / 16 := Int.tdiv_eq_ediv_of_nonneg (by omega)
  have hcount : Hid (((coverL ⟨a, b, u, v⟩ 16).length : Int) = ((u - 1) / 16 - (a : Int) / 16 + 1) * ((v - 1) / 16 - (b : Int) / 16 + 1)) := cover_count (by omega) hu1 hu2 (by omega) hv1 hv2
  have hnone : Hid (coverL ⟨a, 0, a, 64⟩ 16 = []) := cover_none a
  obtain ⟨p, hp⟩ : ∃ p, Hid ((u - 1) / 16 = p) := ⟨_, rfl⟩
  obtain ⟨p', hp'⟩ : ∃ p, Hid ((v - 1) / 16 = p) := ⟨_, rfl⟩
  obtain ⟨q, hq⟩ : ∃ p, Hid ((a : Int) / 16 = p) := ⟨_, rfl⟩
  obtain ⟨q', hq'⟩ : ∃ p, Hid ((b : Int) / 16 = p) := ⟨_, rfl⟩
  have b1 : q ≤ p ∧ p ≤ 3 ∧ 0 ≤ q := by have := hp.out; have := hq.out; omega
  have b2 : q' ≤ p' ∧ p' ≤ 3 ∧ 0 ≤ q' := by have := hp'.out; have := hq'.out; omega
  rw [hp.out] at e1
  rw [hp'.out] at e2
  rw [hq.out] at e3
  rw [hq'.out] at e4
  have hcount' : Hid (((coverL ⟨a, b, u, v⟩ 16).length : Int) = (p - q + 1) * (p' - q' + 1)) := by
    rw [← hp.out, ← hp'.out, ← hq.out, ← hq'.out]; exact hcount
  clear hcount hp hp' hq hq'
  go_enter Tryd.func6, Tryd.ntmps6
  go_wp2_with fail
  go_at_call 7
  refine (known_true _ HL.out).mono ?_
  rintro z W0 ⟨rfl, hB0⟩
  go_wp2_with fail
  go_at_call 12
  clear ha0 hb0 hc0 hd0 e1 e2 e3 e4 hu hv
  obtain ⟨nx, hnx⟩ : ∃ n, p - q + 1 = n := ⟨_, rfl⟩
  obtain ⟨ny, hny⟩ : ∃ n, p' - q' + 1 = n := ⟨_, rfl⟩
  have c1 : 1 ≤ nx ∧ nx ≤ 4 := by omega
  have c2 : 1 ≤ ny ∧ ny ≤ 4 := by omega
  rw [hnx, hny]
  have hcount : Hid (((coverL ⟨a, b, u, v⟩ 16).length : Int) = nx * ny) := by
    rw [← hnx, ← hny]; exact hcount'
  clear hcount' hnx hny b1 b2
  refine (cells_cover _ (HL.out.below (hB0.alloc hB0.size _)) _ _ _ _).mono ?_
  rintro z W1 ⟨val, rfl, hown, hb1⟩
  have k1 : Hid (W1.heap[W0.heap.size]? = some (ro a b u v)) := var_on hb1 (new_at _ _ _ rfl) (by simp)
  have CR : Hid (∀ W, Below W1.heap.size W1 W → W.cell? ⟨W0.heap.size, 0, none⟩ = some (.int .i64 a) ∧ W.cell? ⟨W0.heap.size, 1, none⟩ = some (.int .i64 b) ∧ W.cell? ⟨W0.heap.size, 2, none⟩ = some (.int .i64 u) ∧ W.cell? ⟨W0.heap.size, 3, none⟩ = some (.int .i64 v) ∧ W0.heap.size < W.heap.size) := cells4 k1.out
  have hE0 : Hid (Below w.heap.size w W1) := below_on (hB0.alloc hB0.size _) hb1
  have hEnd : Hid (∀ W, Below W1.heap.size W1 W → Below w.heap.size w W) := fun W h => hE0.out.trans (h.mono hE0.out.size)
  have HM : Hid (Masks W1) := HL.out.below hE0.out
  clear hb1 hB0 hE0 k1 HL
  obtain ⟨L, hLc⟩ : ∃ L, Hid (coverL ⟨a, b, u, v⟩ 16 = L) := ⟨_, rfl⟩
  rw [hLc.out] at hown
  have hcount' : Hid ((L.length : Int) = nx * ny) := by rw [← hLc.out]; exact hcount
  clear hcount
  have hlen : L.length ≤ 16 := by rw [← hLc.out]; exact coverL_le _ _
  obtain ⟨pt', cap, rfl⟩ := owns_slice hown
  obtain ⟨m, hm⟩ : ∃ m, L.length = m := ⟨_, rfl⟩
  rw [hm] at hown hlen ⊢
  have hm' : Hid (L.length = m) := hm
  have hmul : wrap64 (nx * ny) = m := by
    have := hcount'.out
    rw [hm] at this
    rw [← this]
    unfold wrap64
    omega
  clear hm
  have hO : Hid (W1.ownsRow _ 3 1 (.slice pt' m cap) m (vals L)) := hown
  clear hown
  go_wp2_with fail
  go_loopw [13] (fun i wr => ∃ (j : Nat), (j + 1 ≤ m ∨ j = 0) ∧ i = .int .i64 ((j : Int) + 1) ∧ Below W1.heap.size W1 wr) (fun i _ => m - (intOf i).toNat)
  case atStart => exact ⟨0, by omega, rfl, Below.refl _ _⟩
  case round =>
    obtain ⟨j, hj, rfl, hE⟩ := hrel
    by_cases hlt : j + 1 < m
    · have hlt' : (j : Int) + 1 < m := by omega
      have hlt1 : (j : Int) < m := by omega
      have hlt2 : (0 : Int) ≤ (j : Int) := by omega
      have hlt3 : (0 : Int) ≤ (j : Int) + 1 := by omega
      have hlt4 : (j : Int) + 1 - 1 = j := by omega
      obtain ⟨c', hc'⟩ : ∃ d, Hid (L[j]? = some d) := ⟨_, List.getElem?_eq_getElem (by rw [hm'.out]; omega)⟩
      obtain ⟨d', hd'⟩ : ∃ d, Hid (L[j + 1]? = some d) := ⟨_, List.getElem?_eq_getElem (by rw [hm'.out]; omega)⟩
      have hcd : c' < d' := by
        refine cover_rises ⟨a, b, u, v⟩ 16 (i := j) ?_ ?_
        · rw [hLc.out]; exact hc'.out
        · rw [hLc.out]; exact hd'.out
      have hcd' : decide ((d' : Int) ≤ (c' : Int)) = false := by simp; omega
      obtain ⟨g, rfl⟩ := owns_some hO.out (by omega)
      have f1 := cell_below hE (row_int hO.out hc'.out hm'.out.symm)
      have f2 := cell_below hE (row_int hO.out hd'.out hm'.out.symm)
      clear hj
      go_wp2
      go_quiet (fail)
      go_wp2
      go_roundw
      case rel => exact ⟨j + 1, by omega, by go_num, below_drewN hE _⟩
      case measure => simp [intOf]; omega
    · have hlt' : ¬ ((j : Int) + 1 < m) := by omega
      have fr := CR.out _ hE
      go_wp2_with fail
      go_at_call 12
      refine (cells_cover _ (HM.out.below hE) _ _ _ _).mono ?_
      rintro z w2 ⟨val, rfl, hown, hb2⟩
      rw [hnone.out] at hown
      obtain ⟨p2, cap2, rfl⟩ := owns_slice hown
      clear hown
      go_wp2
      go_ret
      exact ⟨rfl, hEnd.out _ (below_on hE hb2)⟩

theorem cellCounts_own : ownKnob Tryd.prog.godebug = none := by kernel_rfl
theorem cellCounts_laidOut : laidOutB Tryd.prog = true := by kernel_rfl
set_option maxRecDepth 100000 in
theorem cellCounts_lifted (os : Os) (started : os.Started) (H : Type) (enc : TypeId × Value → H) :
    ReturnsInHanded {} Tryd.checked os 6 .any (fun w args => (Rows.cellCountsSpec.pre enc Tryd.prog Tryd.f6 [] false w args ∧ laidMetH Tryd.prog laids w) ∧ sizedMet enc Tryd.prog Tryd.f6 (OpenSpec.ofChange Rows.cellCountsSpec) false w args) (Rows.cellCountsSpec.post enc Tryd.prog Tryd.f6 false true false false) := by
  refine returnsInHanded_of_change_and (C := Tryd.checked) (X := fun w _ => laidMetH Tryd.prog laids w) (fun _ _ _ hh h => h.of_heap hh) own_knob started (by kernel_rfl) Tryd.func6
    (ChangeSpec.witness_shaped (enc := enc) (C := Tryd.checked) (os := os) (X := fun w _ => laidMetH Tryd.prog laids w) false (World.laidAll Tryd.prog os laids) #[.int .u8 0, .int .u8 0, .int .u8 0, .int .u8 0] 8 rfl (World.shaped_of_ZipB (by kernel_rfl) (by kernel_rfl)) (by kernel_rfl) (by kernel_rfl) (by kernel_rfl) (door_met os _)) ?_
  intro W base args ds gs before hval0 hW _ _ hL _
  have hval : ∀ (j : Nat) t v, Tryd.f6.params[j]? = some t → args[j]? = some v → Value.okWide Tryd.prog W .any base t v := hval0
  have hW' := hW
  obtain ⟨p, q, hA0, hV, rfl, hfz, hnd⟩ := hW
  have hA : DataW.TrodAll enc Tryd.prog W 0 (fun _ => true) true Tryd.f6.params.toList args.toList ds p := hA0
  rw [Tryd.params6] at hA hval
  obtain ⟨v0, vs0, d0, ds0, p0, q0, hargs, rfl, rfl, h0, r0⟩ := trodAll_cons hA
  obtain ⟨v1, vs1, d1, ds1, p1, q1, rfl, rfl, rfl, h1, r1⟩ := trodAll_cons r0
  obtain ⟨v2, vs2, d2, ds2, p2, q2, rfl, rfl, rfl, h2, r2⟩ := trodAll_cons r1
  obtain ⟨v3, vs3, d3, ds3, p3, q3, rfl, rfl, rfl, h3, r3⟩ := trodAll_cons r2
  obtain ⟨rfl, rfl, rfl⟩ := trodAll_nil r3
  obtain rfl : args = #[v0, v1, v2, v3] := by cases args; simp_all
  obtain ⟨rfl, rfl⟩ := trodVars_none hV
  have k0 := h0
  have lt0 : ∀ x ∈ p0, x.block < W.heap.size := by obtain ⟨m, hm⟩ := k0; exact DataW.trod_lt m _ _ _ hm
  have k1 := h1
  have lt1 : ∀ x ∈ p1, x.block < W.heap.size := by obtain ⟨m, hm⟩ := k1; exact DataW.trod_lt m _ _ _ hm
  have k2 := h2
  have lt2 : ∀ x ∈ p2, x.block < W.heap.size := by obtain ⟨m, hm⟩ := k2; exact DataW.trod_lt m _ _ _ hm
  have k3 := h3
  have lt3 : ∀ x ∈ p3, x.block < W.heap.size := by obtain ⟨m, hm⟩ := k3; exact DataW.trod_lt m _ _ _ hm
  obtain ⟨a0, rfl, rfl, rfl, w0⟩ := open_int Tryd.underlying5 (hval 0 5 v0 rfl rfl) h0
  obtain ⟨a1, rfl, rfl, rfl, w1⟩ := open_int Tryd.underlying5 (hval 1 5 v1 rfl rfl) h1
  obtain ⟨a2, rfl, rfl, rfl, w2⟩ := open_int Tryd.underlying5 (hval 2 5 v2 rfl rfl) h2
  obtain ⟨a3, rfl, rfl, rfl, w3⟩ := open_int Tryd.underlying5 (hval 3 5 v3 rfl rfl) h3
  clear hA0 hval0
  refine (cellCounts_walk W (of_laid hL) a0 w0 a1 w1 a2 w2 a3 w3).mono fun e W' ⟨he, bel⟩ => ?_
  subst he
  exact ⟨_, rfl, _, _, _, [], _, [], hW', trodAll_mk1 (shut_bool Tryd.underlying4 _), (trodAll_cons_mk (Below.trod cellCounts_laidOut (by kernel_rfl) (of_decide_eq_true (by kernel_rfl)) k0 bel lt0) (trodAll_cons_mk (Below.trod cellCounts_laidOut (by kernel_rfl) (of_decide_eq_true (by kernel_rfl)) k1 bel lt1) (trodAll_cons_mk (Below.trod cellCounts_laidOut (by kernel_rfl) (of_decide_eq_true (by kernel_rfl)) k2 bel lt2) (trodAll_cons_mk (Below.trod cellCounts_laidOut (by kernel_rfl) (of_decide_eq_true (by kernel_rfl)) k3 bel lt3) trodAll_mk0)))), rfl, bel.frame _, fun h => by cases h⟩

theorem cellCounts_over : Rows.cellCountsRow.holds Tryd.pinned (OpenSpec.ofChange Rows.cellCountsSpec) :=
  OpenClaim.holds_of_wide 6 Tryd.f6 rfl rfl rfl rfl rfl rfl rfl ⟨rfl, rfl, rfl, rfl, rfl⟩ rfl rfl rfl rfl rfl (by kernel_rfl) Tryd.func6 (by kernel_rfl)
    (of_decide_eq_true (by kernel_rfl)) (by unfold Func.isWrapper; first | (rw [if_pos (by decide +kernel)]; kernel_rfl) | (rw [if_neg (by decide +kernel)]; exact ⟨rfl, rfl⟩))
    (fun os started H enc _ => cellCounts_lifted os started H enc)

theorem cellCounts_holds : Rows.CellCountsCardSaid :=
  Claim7.holds_tied_plain_at .later [] [.data] true (true, "538d28736f568148dde0d0d35bcae49565480ca64308aa011f2f237717ab1407") false
    cellCounts_over (fun _ h => by cases h) (by kernel_rfl) (fun _ h => by cases h) cellCounts_row_tie rfl ⟨rfl, rfl⟩ (by kernel_rfl) rfl
    (fun f fn hf hfn => by
      obtain rfl : f = 6 := Option.some.inj ((show Tryd.prog.funcNamed "vedette/vedettelaw5.CellCounts" = some 6 by kernel_rfl).symm.trans hf) |>.symm
      obtain rfl : fn = Tryd.f6 := (Option.some.inj (Tryd.func6.symm.trans hfn)).symm
      exact ⟨by kernel_rfl, fun j t ht => by
        rw [Tryd.params6] at ht
        have hm : t ∈ [5, 5, 5, 5] := by simpa using Array.mem_of_getElem? ht
        have hall : ([5, 5, 5, 5].all fun u => !Tryd.prog.wantsStandIn u) = true := by kernel_rfl
        exact (show Tryd.prog.wantsStandIn t = false by simpa using List.all_eq_true.1 hall t hm)⟩)
    (by kernel_rfl)
#print axioms cellCounts_holds
end Go.Proofs.YthhloefgncbifaaDoor
